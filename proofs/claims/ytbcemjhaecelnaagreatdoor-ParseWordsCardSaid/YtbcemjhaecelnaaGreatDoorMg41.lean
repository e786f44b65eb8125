import Derived.Test.YtbcemjhaecelnaaGreatDoorMg40
import Derived.Laws.IdiomStrings
import Derived.Lib.ItoaLen
import Derived.IntWalk
section
set_option maxHeartbeats 1000000
set_option maxRecDepth 100000
namespace Go.Proofs.YtbcemjhaecelnaaGreatDoor
open Go.RowKit
theorem rkind_any (r : Int) (w : World) : Calls Tryz.prog 41 #[.int .i32 r] w fun e w' => e = .returned (.int .i64 (zaj r)) /\ w = w' := by
 go_enter Tryz.func41, Tryz.ntmps41
 go_wp2
 all_goals (go_ret; refine ⟨zb9 ?_, rfl⟩; first | rfl | skip)
 all_goals ((try simp only [beq_iff_eq, beq_eq_false_iff_ne] at *); unfold zaj; repeat' split)
 all_goals omega
theorem wide_any (s : ByteArray) (hne : s.data.toList ≠ []) (w : World) (hs : s.size <= maxLen) : Calls Tryz.prog 95 #[.string s] w fun e w' => e = .returned (.int .i64 (zak s.data.toList : Nat)) /\ Below w.heap.size w w' := by
 unfold maxLen at hs
 have hp0 : 0 < s.size := by rw [Lib.size_eq]; exact List.length_pos_iff.2 hne
 have hW : (Utf8.decode s 0).2 = zak s.data.toList := by rw [<- Lib.decodeL_drop]; rfl
 have HW := zh hW
 have hw1 := zbU s.data.toList
 have hw2 := zco hne
 rw [<- Lib.size_eq] at hw2
 generalize zak s.data.toList = L at *
 clear hW hne
 go_enter Tryz.func95, Tryz.ntmps95
 go_wp2
 go_loopw [3] (fun _ wr => ∃ (pos : Nat), wr.heap[w.heap.size]? = some (.stringIter s pos) /\ Below w.heap.size w wr /\ (pos = 0 \/ pos = L)) (fun _ wr => s.size - wr.iterPos w.heap.size)
 case atStart => exact ⟨0, World.iter_heap w s 0, (Below.refl _ _).alloc (Nat.le_refl _) _, .inl rfl⟩
 case round =>
  obtain ⟨pos, hit, hbw, hpos⟩ := hrel
  have hpos0 := zac hit
  by_cases hp : pos < s.size
  ·have hnx : ∀ ty, (Instr.next (.pointer (some ⟨w.heap.size, 0, none⟩)) true ty).run Tryz.prog wr = _ := fun ty => Lib.run_next_any_at wr w.heap.size s pos ty hit hp
   have hit2 := Lib.iterAt_heap wr w.heap.size s pos (pos + (Utf8.decode s pos).2) hit
   have hbw2 := Lib.below_iterAt hbw (k := w.heap.size) (Nat.le_refl _) s (pos + (Utf8.decode s pos).2)
   rcases hpos with rfl | rfl
   ·rw [Nat.zero_add] at hit2 hbw2
    go_wp2
    go_roundw
    case rel => exact ⟨(Utf8.decode s 0).2, hit2, hbw2, .inr HW.out⟩
    case measure => rw [zac hit2, hpos0]; have := zbT s 0; omega
   ·have q : (0 : Int) < pos := by omega
    go_wp2
    go_ret
    exact ⟨rfl, hbw2⟩
  ·have hnx : ∀ ty, (Instr.next (.pointer (some ⟨w.heap.size, 0, none⟩)) true ty).run Tryz.prog wr = _ := fun ty => Lib.run_next_end_at wr w.heap.size s pos ty hit hp
   have e : s.size = L := by omega
   go_wp2
   go_ret
   exact ⟨rfl, hbw⟩
theorem zd6 (s : ByteArray) (hne : s.data.toList ≠ []) (w : World) : Calls Tryz.prog 47 #[.string s] w fun e w' => e = .returned (.int .i32 (rune s.data.toList)) /\ Below w.heap.size w w' := by
 have hp0 : 0 < s.size := by rw [Lib.size_eq]; exact List.length_pos_iff.2 hne
 have HR := zh (show ((Utf8.decode s 0).1 : Int) = rune s.data.toList by unfold rune; rw [<- Lib.decodeL_drop]; rfl)
 clear hne
 go_enter Tryz.func47, Tryz.ntmps47
 go_wp2
 go_loopw [] (fun wr => wr.heap[w.heap.size]? = some (.stringIter s 0) /\ Below w.heap.size w wr) (fun wr => s.size - wr.iterPos w.heap.size)
 case atStart => exact ⟨World.iter_heap w s 0, (Below.refl _ _).alloc (Nat.le_refl _) _⟩
 case round =>
  obtain ⟨hit, hbw⟩ := hrel
  have hnx : ∀ ty, (Instr.next (.pointer (some ⟨w.heap.size, 0, none⟩)) true ty).run Tryz.prog wr = _ := fun ty => Lib.run_next_any_at wr w.heap.size s 0 ty hit hp0
  have hbw2 := Lib.below_iterAt hbw (k := w.heap.size) (Nat.le_refl _) s (0 + (Utf8.decode s 0).2)
  rw [Nat.zero_add] at hbw2
  go_wp2
  go_ret
  exact ⟨by rw [<- HR.out]; rfl, hbw2⟩
def zbp (l : List UInt8) : Nat := ((sufs l).takeWhile zcS).length
theorem zep (l : List UInt8) (hne : l ≠ []) : zbp l = if zcS l = true then 1 + zbp (l.drop (zak l)) else 0 := by
 unfold zbp
 rw [zb4 l hne, List.takeWhile_cons]
 split
 ·rw [List.length_cons, Nat.add_comm]; rfl
 ·rfl
theorem runesL_le (l : List UInt8) : zbp l <= zad l := by
 induction l using zaC with
 | h0 => exact Nat.le_refl _
 | h1 l hne ih =>
   rw [za5 l hne, zep l hne]
   have := zbU l
   split
   ·have ih' : zbp (l.drop (zak l)) <= zad (l.drop (zak l)) := ih
    omega
   ·omega
theorem zfO (s : ByteArray) (w : World) (hs : s.size <= 100000) : Calls Tryz.prog 69 #[.string s] w fun e w' => e = .returned (.tuple #[.int .i64 (zad s.data.toList : Nat), .int .i64 (zbp s.data.toList : Nat)]) /\ Below w.heap.size w w' := by
 have HZ := zh (show s.data.toList.length = s.size by rw [<- Lib.size_eq])
 have HF := zh (fun pos W (hp : pos < s.size) => (zd6 (s.extract pos s.size) (by rw [zaF]; exact za6 hp) W).mono (R' := fun e w' => e = .returned (.int .i32 (rune (s.data.toList.drop pos))) /\ Below W.heap.size W w') (fun e w' ⟨h1, h2⟩ => ⟨by rw [h1, zaF], h2⟩))
 have HWd := zh (fun pos W (hp : pos < s.size) => (wide_any (s.extract pos s.size) (by rw [zaF]; exact za6 hp) W (by rw [ByteArray.size_extract]; unfold maxLen; omega)).mono (R' := fun e w' => e = .returned (.int .i64 (zak (s.data.toList.drop pos) : Nat)) /\ Below W.heap.size W w') (fun e w' ⟨h1, h2⟩ => ⟨by rw [h1, zaF], h2⟩))
 have CK := zh (fun r W => rkind_any r W)
 have hs2 : (s.size : Int) <= 100000 := by omega
 go_enter Tryz.func69, Tryz.ntmps69
 go_wp2
 go_loopw [4, 5, 6] (fun v4 v5 _ wr => ∃ (pos k : Nat), v4 = .int .i64 pos /\ v5 = .int .i64 k /\ pos <= s.size /\ k <= pos /\ Hid (pos + zad (s.data.toList.drop pos) = zad s.data.toList) /\ Hid (k + zbp (s.data.toList.drop pos) = zbp s.data.toList) /\ Hid (Below w.heap.size w wr)) (fun v4 _ _ _ => s.size - (intOf v4).toNat)
 case atStart => exact ⟨0, 0, rfl, rfl, Nat.zero_le _, Nat.le_refl _, (by show _ = _; simp), (by show _ = _; simp), Below.refl _ _⟩
 case round =>
  obtain ⟨pos, k, rfl, rfl, hps, hk, HC, HR, HB⟩ := hrel
  have hzw := HB.out.size
  by_cases hp : pos < s.size
  ·have q1 : (pos : Int) < s.size := by omega
   have hne := za6 hp
   have hst := za5 _ hne
   have hst2 := zep _ hne
   rw [List.drop_drop] at hst hst2
   have hwl := zco hne
   rw [List.length_drop, HZ.out] at hwl
   have hw1 := zbU (s.data.toList.drop pos)
   have C1 := zh (fun W => HF.out pos W hp)
   have C2 := zh (fun W => HWd.out pos W hp)
   by_cases hy : zcS (s.data.toList.drop pos) = true
   ·rw [if_pos hy] at hst hst2
    have hkd : zaj (rune (s.data.toList.drop pos)) = 1 \/ (¬ zaj (rune (s.data.toList.drop pos)) = 1 /\ zaj (rune (s.data.toList.drop pos)) = 2) := by
     have : zaj (rune (s.data.toList.drop pos)) = 1 \/ zaj (rune (s.data.toList.drop pos)) = 2 := of_decide_eq_true hy
     omega
    have H2 := zh (show pos + zak (s.data.toList.drop pos) + zad (s.data.toList.drop (pos + zak (s.data.toList.drop pos))) = zad s.data.toList by rw [<- HC.out, hst]; omega)
    have H3 := zh (show k + 1 + zbp (s.data.toList.drop (pos + zak (s.data.toList.drop pos))) = zbp s.data.toList by rw [<- HR.out, hst2]; omega)
    clear hst hst2 hy HC HR hne
    generalize zak (s.data.toList.drop pos) = L at *
    generalize rune (s.data.toList.drop pos) = r at *
    have q2 : (pos : Int) + L <= 100000 := by omega
    have q3 : (k : Int) <= 100000 := by omega
    have hkd2 : (zaj r != 1 && zaj r != 2) = false := by
     rcases hkd with h | ⟨_, h⟩ <;> simp [h]
    rcases hkd with hkd | ⟨hkd1, hkd⟩
    ·have t1 : (zaj r != 1) = false := by simp [hkd]
     clear hkd hkd2
     go_wp2_with fail
     refine (C1.out _).mono ?_
     rintro e w1 ⟨rfl, b1⟩
     have HB1 := zh (HB.out.trans (b1.mono hzw))
     clear b1
     go_wp2_with fail
     refine (CK.out _ _).mono ?_
     rintro e w1' ⟨rfl, rfl⟩
     go_wp2_with fail
     refine (C2.out _).mono ?_
     rintro e w2 ⟨rfl, b2⟩
     have HB2 := zh (HB1.out.trans (b2.mono HB1.out.size))
     clear b2
     go_wp2
     go_roundw
     case rel => exact ⟨pos + L, k + 1, by go_num, by go_num, by omega, by omega, H2, H3, HB2⟩
     case measure => simp [intOf]; omega
    ·have t1 : (zaj r != 1) = true := by simp [hkd1]
     have t2 : (zaj r != 2) = false := by simp [hkd]
     clear hkd hkd1 hkd2
     go_wp2_with fail
     refine (C1.out _).mono ?_
     rintro e w1 ⟨rfl, b1⟩
     have HB1 := zh (HB.out.trans (b1.mono hzw))
     clear b1
     go_wp2_with fail
     refine (CK.out _ _).mono ?_
     rintro e w1' ⟨rfl, rfl⟩
     go_wp2_with fail
     refine (C2.out _).mono ?_
     rintro e w2 ⟨rfl, b2⟩
     have HB2 := zh (HB1.out.trans (b2.mono HB1.out.size))
     clear b2
     go_wp2
     go_roundw
     case rel => exact ⟨pos + L, k + 1, by go_num, by go_num, by omega, by omega, H2, H3, HB2⟩
     case measure => simp [intOf]; omega
   ·rw [if_neg hy] at hst hst2
    have hn : ¬ (zaj (rune (s.data.toList.drop pos)) = 1 \/ zaj (rune (s.data.toList.drop pos)) = 2) := fun h => hy (decide_eq_true h)
    have H2 := zh (show pos = zad s.data.toList by rw [<- HC.out, hst]; rfl)
    have H3 := zh (show k = zbp s.data.toList by rw [<- HR.out, hst2]; rfl)
    clear hst hst2 hy HC HR hne hwl hw1
    generalize rune (s.data.toList.drop pos) = r at *
    have t1 : (zaj r != 1) = true := by simp; omega
    have t2 : (zaj r != 2) = true := by simp; omega
    clear hn
    go_wp2_with fail
    refine (C1.out _).mono ?_
    rintro e w1 ⟨rfl, b1⟩
    have HB1 := zh (HB.out.trans (b1.mono hzw))
    clear b1
    go_wp2_with fail
    refine (CK.out _ _).mono ?_
    rintro e w1' ⟨rfl, rfl⟩
    go_wp2
    go_ret2
    exact ⟨by rw [<- H2.out, <- H3.out]; rfl, HB1.out⟩
  ·have e1 : pos = s.size := by omega
   have H2 := zh (show pos = zad s.data.toList by rw [<- HC.out, zaH hp]; rfl)
   have H3 := zh (show k = zbp s.data.toList by rw [<- HR.out, zaH hp]; rfl)
   have q1 : (s.size : Int) <= pos := by omega
   clear e1 HC HR
   go_wp2
   go_ret2
   exact ⟨by rw [<- H2.out, <- H3.out]; rfl, HB.out⟩
end Go.Proofs.YtbcemjhaecelnaaGreatDoor
end

section
namespace Go.Proofs.YtbcemjhaecelnaaGreatDoor
open Go.RowKit
def numR (l : List UInt8) : Option Tk :=
 if 13 < zab l \/ 1000000000000 < valL (l.take (min (zab l) 13)) then none
 else if zad (l.drop (zab l)) = 0 then some (2, Lib.decDigits (valL (l.take (min (zab l) 13))), zab l)
 else if zbc ((l.drop (zab l)).take (zad (l.drop (zab l)))) = 0 \/ 1000000000 / zbc ((l.drop (zab l)).take (zad (l.drop (zab l)))) < valL (l.take (min (zab l) 13)) then none
 else some (4, Lib.decDigits (valL (l.take (min (zab l) 13)) * zbc ((l.drop (zab l)).take (zad (l.drop (zab l))))), zab l + 1)
theorem zeq (l : List UInt8) : ∀ c ∈ l.take (zab l), digB c = true := by
 intro c hc
 unfold zab at hc
 rw [<- List.prefix_iff_eq_take.1 (List.takeWhile_prefix _)] at hc
 exact List.all_eq_true.1 List.all_takeWhile c hc
theorem zbJ (c : UInt8) (u : List UInt8) : zab (c :: u) = if digB c = true then 1 + zab u else 0 := by
 unfold zab
 rw [List.takeWhile_cons]
 split
 ·rw [List.length_cons]; omega
 ·rfl
theorem rest_digits (l : List UInt8) (k : Nat) : zab ((l.drop (zab l)).take k) = 0 := by
 have h : ∀ m : List UInt8, zab (m.drop (zab m)) = 0 := by
  intro m
  induction m with
  | nil => rfl
  | cons c u ih =>
    rw [zbJ]
    by_cases hc : digB c = true
    ·rw [if_pos hc, Nat.add_comm, List.drop_succ_cons]; exact ih
    ·rw [if_neg hc, List.drop_zero, zbJ, if_neg hc]
 have h2 := h l
 cases hx : l.drop (zab l) with
 | nil => simp [zab]
 | cons c u =>
   rw [hx, zbJ] at h2
   have hc : ¬ digB c = true := by intro h3; rw [if_pos h3] at h2; omega
   cases k with
   | zero => rfl
   | succ k => rw [List.take_succ_cons, zbJ, if_neg hc]
theorem secs_one {l : List UInt8} (h : zbc l ≠ 0) : l.length = 1 := by
 unfold zbc at h
 split at h
 ·rename_i e; rw [e]; rfl
 ·split at h
  ·rename_i e; rw [e]; rfl
  ·split at h
   ·rename_i e; rw [e]; rfl
   ·exact absurd rfl h
theorem numR_eq (l : List UInt8) : numR l = numL (l.take (zad l)) := by
 have hle := zeP l
 have hsplit : l.take (zab l) ++ l.drop (zab l) = l := List.take_append_drop _ _
 have htl : (l.take (zab l)).length = zab l := by rw [List.length_take]; omega
 have hch : zad l = zab l + zad (l.drop (zab l)) := by
  have := zdQ (l.take (zab l)) (l.drop (zab l)) (zeq l)
  rw [hsplit, htl] at this; exact this
 obtain ⟨m, hm⟩ : ∃ m, zad (l.drop (zab l)) = m := ⟨_, rfl⟩
 have hml : m <= (l.drop (zab l)).length := by rw [<- hm]; exact zbh _
 have htake : l.take (zad l) = l.take (zab l) ++ (l.drop (zab l)).take m := by
  rw [hch, hm]
  have key : (l.take (zab l) ++ l.drop (zab l)).take (zab l + m) = l.take (zab l) ++ (l.drop (zab l)).take m := by
   rw [List.take_append, htl, List.take_of_length_le (by rw [htl]; omega), Nat.add_sub_cancel_left]
  rw [hsplit] at key
  exact key
 have hd : zab (l.take (zad l)) = zab l := by
  rw [htake, zd9 _ _ (zeq l), rest_digits, htl]; rfl
 have ht2 : (l.take (zad l)).take (zab l) = l.take (zab l) := by
  rw [htake, List.take_append, htl, List.take_of_length_le (by rw [htl]; omega), Nat.sub_self, List.take_zero, List.append_nil]
 have hd2 : (l.take (zad l)).drop (zab l) = (l.drop (zab l)).take m := by
  rw [htake, List.drop_append, htl, List.drop_of_length_le (by rw [htl]; omega), Nat.sub_self, List.drop_zero, List.nil_append]
 have hlen : (l.take (zad l)).length = zab l + m := by rw [htake, List.length_append, htl, List.length_take, Nat.min_eq_left hml]
 unfold numR numL
 rw [hd, ht2, hd2, hlen, hm]
 by_cases h13 : 13 < zab l
 ·simp [h13]
 ·rw [Nat.min_eq_left (by omega)]
  by_cases hv : 1000000000000 < valL (l.take (zab l))
  ·simp [hv]
  ·simp only [h13, hv, or_self, if_false]
   by_cases hm0 : m = 0
   ·simp [hm0]
   ·have e1 : ¬ zab l = zab l + m := by omega
    simp only [hm0, e1, if_false]
    obtain ⟨k, hk⟩ : ∃ k, zbc ((l.drop (zab l)).take m) = k := ⟨_, rfl⟩
    rw [hk]
    by_cases hk0 : k = 0
    ·simp [hk0]
    ·have h1 := secs_one (l := (l.drop (zab l)).take m) (by rw [hk]; exact hk0)
     rw [List.length_take, Nat.min_eq_left hml] at h1
     have hiff : (1000000000 / k < valL (l.take (zab l))) ↔ (1000000000 < valL (l.take (zab l)) * k) := Nat.div_lt_iff_lt_mul (by omega)
     by_cases hg : 1000000000 / k < valL (l.take (zab l))
     ·have hg2 := hiff.1 hg
      simp [hg, hg2]
     ·have hg2 : ¬ 1000000000 < valL (l.take (zab l)) * k := fun h => hg (hiff.2 h)
      simp only [hk0, hg, hg2, or_self, if_false, h1]
theorem val_snoc (l : List UInt8) (c : UInt8) : valL (l ++ [c]) = valL l * 10 + (c.toNat - 48) := by unfold valL; rw [zfY]; rfl
theorem val_bound (l : List UInt8) (h : ∀ c ∈ l, digB c = true) (hl : l.length <= 13) : valL l < 10000000000000 := by
 have h1 := Lib.decFrom_lt _ 0 _ (zcq l 0 h)
 have h2 : (10 : Nat) ^ l.length <= 10 ^ 13 := Nat.pow_le_pow_right (by decide) hl
 have h3 : zc4 0 l < 10 ^ l.length := by simpa using h1
 show zc4 0 l < _
 omega
end Go.Proofs.YtbcemjhaecelnaaGreatDoor
end

section
set_option maxHeartbeats 2000000
set_option maxRecDepth 100000
namespace Go.Proofs.YtbcemjhaecelnaaGreatDoor
open Go.RowKit
theorem zi0 (W : World) (b : UInt8) (x : Int) (hx : x = b.toNat) : (convert 61 9 (.slice (some ⟨W.heap.size, 0, none⟩) 1 1)).run Tryz.prog (W.alloc (Obj.cells #[.int .u8 x] 5)) = .ok (.string ⟨#[b]⟩) (W.alloc (Obj.cells #[.int .u8 x] 5)) := by
 subst hx
 exact run_convert_bytes_back (P := Tryz.prog) (W.alloc (Obj.cells #[.int .u8 b.toNat] 5)) 61 9 5 ⟨W.heap.size, 0, none⟩ 1 [b] Tryz.underlying61 Tryz.underlying5 Tryz.underlying9 (by
  intro j hj
  match j, hj with
  | 0, _ => simp [Addr.add]
  | j + 1, hj => simp at hj)
def zh4 (v : Value) : Nat := match v with | .string s => if s.size = 0 then 1 else 0 | _ => 0
def dz (m : Nat) (acc : List UInt8) : List UInt8 := if m = 0 /\ acc ≠ [] then [] else Lib.decDigits m
theorem dz_step (m : Nat) (acc : List UInt8) (h : 0 < m \/ acc = []) : dz (m / 10) (UInt8.ofNat (48 + m % 10) :: acc) ++ UInt8.ofNat (48 + m % 10) :: acc = dz m acc ++ acc := by
 have e : dz m acc = Lib.decDigits m := by
  unfold dz; rw [if_neg]; intro h2; rcases h with h | h
  ·omega
  ·exact h2.2 h
 rw [e]
 by_cases h10 : m < 10
 ·have e2 : m / 10 = 0 := by omega
  have e3 : m % 10 = m := by omega
  rw [e2, e3, Lib.decDigits_one h10]
  unfold dz; rw [if_pos ⟨rfl, by simp⟩]; rfl
 ·rw [zca m h10]
  unfold dz; rw [if_neg (by omega)]; simp
theorem rdigits_any (v : Nat) (hv : v <= 9223372036854775807) (w : World) : Calls Tryz.prog 36 #[.int .i64 (v : Nat)] w fun e w' => e = .returned (.string ⟨(Lib.decDigits v).toArray⟩) /\ Below w.heap.size w w' := by
 have hv2 : (v : Int) <= 9223372036854775807 := by omega
 have hl := Lib.nDigits_le20 v (by omega)
 have HLen := zh (show (Lib.decDigits v).length <= 20 by rw [Lib.decDigits_length]; exact hl)
 clear hl hv
 go_enter Tryz.func36, Tryz.ntmps36
 go_wp2
 go_loopw [3, 4] (fun v3 v4 wr => ∃ (m : Nat) (t : ByteArray), v4 = .int .i64 m /\ v3 = .string t /\ Hid (dz m t.data.toList ++ t.data.toList = Lib.decDigits v) /\ (m : Int) <= 9223372036854775807 /\ Hid (Below w.heap.size w wr)) (fun v3 v4 _ => (intOf v4).toNat + zh4 v3)
 case atStart => exact ⟨v, ⟨#[]⟩, rfl, rfl, (by show _ = _; simp [dz]), hv2, Below.refl _ _⟩
 case round =>
  obtain ⟨m, t, rfl, rfl, H, hm, HB⟩ := hrel
  have hal : t.size <= 20 := by
   have h1 := congrArg List.length H.out; rw [List.length_append, <- Lib.size_eq] at h1; have := HLen.out; omega
  have hz := HB.out.size
  have hm0 : (0 : Int) <= (m : Int) % 10 := by omega
  have hm1 : (m : Int) % 10 <= 9 := by omega
  obtain ⟨b, hb⟩ : ∃ b, UInt8.ofNat (48 + m % 10) = b := ⟨_, rfl⟩
  have H3 := zh (show 48 + (m : Int) % 10 = b.toNat by rw [<- hb, zc7 _ (by omega)]; omega)
  have hcv := fun W => zi0 W b (48 + (m : Int) % 10) H3.out
  have key : (0 < m \/ t.data.toList = []) -> Hid (dz (m / 10) ((⟨#[b]⟩ : ByteArray) ++ t).data.toList ++ ((⟨#[b]⟩ : ByteArray) ++ t).data.toList = Lib.decDigits v) := by
   intro hc
   show _ = _
   have e : ((⟨#[b]⟩ : ByteArray) ++ t).data.toList = b :: t.data.toList := by rw [ByteArray.data_append, Array.toList_append]; rfl
   rw [e, <- H.out, <- hb]; exact dz_step m _ hc
  have ee : ((⟨#[b]⟩ : ByteArray) ++ t).size ≠ 0 := by rw [ByteArray.size_append]; show 1 + t.size ≠ 0; omega
  have HEE := zh ee
  clear ee
  by_cases hc : 0 < m
  ·have H2 := key (.inl hc)
   have hc2 : (0 : Int) < m := by omega
   clear key H hb hc
   go_wp2
   go_roundw
   case rel => exact ⟨m / 10, _, by go_num, rfl, H2, by omega, HB.out.alloc hz _⟩
   case measure => simp only [zh4, intOf]; rw [if_neg HEE.out]; omega
  ·obtain rfl : m = 0 := by omega
   by_cases ht : t.data.toList = []
   ·have H2 := key (.inr ht)
    have et : t = ⟨#[]⟩ := by cases t with | mk d => cases d with | mk l => simp at ht; rw [ht]
    clear key H hb hc
    subst et
    have hcv0 := fun W => zi0 W b 48 (by have := H3.out; simpa using this)
    clear ht hcv
    go_wp2
    go_roundw
    case rel => exact ⟨0, _, by go_num, rfl, H2, by omega, HB.out.alloc hz _⟩
    case measure => simp only [zh4, intOf]; rw [if_neg HEE.out, if_pos (show (⟨#[]⟩ : ByteArray).size = 0 from rfl)]; simp
   ·have h1 : ¬ t.toList = [] := by rw [ByteArray.toList_eq]; exact ht
    have h2 : t.toList.isEmpty = false := by simpa using h1
    have H2 := zh (show Lib.decDigits v = t.data.toList by rw [<- H.out]; unfold dz; rw [if_pos ⟨rfl, ht⟩]; rfl)
    clear key H hb hc ht hcv
    go_wp2
    go_ret
    refine ⟨?_, HB.out⟩
    rw [H2.out, zdq]; rfl
end Go.Proofs.YtbcemjhaecelnaaGreatDoor
end
