import Derived.Test.YtbcemjhaecelnaaGreatDoorMg05
import Derived.Lib.AtoiErrMem
import Derived.Lib.LaidTab
import Derived.Lib.ItoaMem
import Derived.Lib.AppendIntMem
import Derived.Deep.DeepMust
section
set_option maxHeartbeats 4000000
set_option maxRecDepth 100000
section
namespace Go.Proofs.YtbcemjhaecelnaaGreatDoor
open Go.RowKit
theorem ziM {a b : Int} (h : a = b) : Value.int .i64 a = .int .i64 b := by rw [h]
theorem chain_at {s : ByteArray} {pos : Nat} (h : pos < s.size) : zad (s.data.toList.drop pos) = if zaj ((Utf8.decode s pos).1 : Int) = 1 \/ zaj ((Utf8.decode s pos).1 : Int) = 2 then (Utf8.decode s pos).2 + zad (s.data.toList.drop (pos + (Utf8.decode s pos).2)) else 0 := by
 rw [za5 _ (za6 h)]
 unfold zcS rune zak
 rw [Lib.decodeL_drop, List.drop_drop]
 simp only [decide_eq_true_eq]
theorem chain_end {s : ByteArray} {pos : Nat} (h : ¬ pos < s.size) : zad (s.data.toList.drop pos) = 0 := by rw [zaH h]; rfl
theorem chain_any (s : ByteArray) (w : World) (_hs : s.size <= maxLen) : Calls Tryz.prog 61 #[.string s] w fun e w' => e = .returned (.int .i64 (zad s.data.toList : Nat)) /\ Below w.heap.size w w' := by
 unfold maxLen at _hs
 go_enter Tryz.func61, Tryz.ntmps61
 go_wp2
 go_loopw [3] (fun _ wr => ∃ (pos : Nat), wr.heap[w.heap.size]? = some (.stringIter s pos) /\ Below w.heap.size w wr /\ Hid (pos + zad (s.data.toList.drop pos) = zad s.data.toList) /\ pos <= s.size) (fun _ wr => s.size - wr.iterPos w.heap.size)
 case atStart => exact ⟨0, World.iter_heap w s 0, (Below.refl _ _).alloc (Nat.le_refl _) _, (by show _ = _; simp), Nat.zero_le _⟩
 case round =>
  obtain ⟨pos, hit, hbw, H, hps⟩ := hrel
  have hpos0 := zac hit
  by_cases hp : pos < s.size
  ·have hnx : ∀ ty, (Instr.next (.pointer (some ⟨w.heap.size, 0, none⟩)) true ty).run Tryz.prog wr = _ := fun ty => Lib.run_next_any_at wr w.heap.size s pos ty hit hp
   have hwd := zbT s pos
   have hwl := zbm hp
   have hit2 := Lib.iterAt_heap wr w.heap.size s pos (pos + (Utf8.decode s pos).2) hit
   have hbw2 := Lib.below_iterAt hbw (k := w.heap.size) (Nat.le_refl _) s (pos + (Utf8.decode s pos).2)
   have H0 := zh (chain_at hp)
   go_wp2_with (go_at_call 42; refine (zb2 _ _).mono ?_; rintro e w' ⟨rfl, rfl⟩)
   all_goals try (simp only [bne_iff_ne, bne_eq_false_iff_eq, ne_eq] at *)
   all_goals first
    | (go_ret
       exact ⟨zb9 (by have h1 := H0.out; rw [if_neg (by omega)] at h1; rw [<- H.out, h1]; simp), hbw2⟩)
    | (go_roundw
       case rel => exact ⟨pos + (Utf8.decode s pos).2, hit2, hbw2, (by show _ = _; have h1 := H0.out; rw [if_pos (by omega)] at h1; rw [<- H.out, h1]; omega), hwl⟩
       case measure => rw [zac hit2, hpos0]; omega)
    | (exfalso; omega)
  ·have hnx : ∀ ty, (Instr.next (.pointer (some ⟨w.heap.size, 0, none⟩)) true ty).run Tryz.prog wr = _ := fun ty => Lib.run_next_end_at wr w.heap.size s pos ty hit hp
   have H2 : Hid (s.size = zad s.data.toList) := by
    show _ = _
    rw [<- H.out, chain_end hp]; omega
   go_wp2
   go_ret
   exact ⟨zb9 (by rw [<- H2.out]), hbw⟩
theorem digits_at {s : ByteArray} {pos : Nat} (h : pos < s.size) : zab (s.data.toList.drop pos) = if zaj ((Utf8.decode s pos).1 : Int) = 2 then (Utf8.decode s pos).2 + zab (s.data.toList.drop (pos + (Utf8.decode s pos).2)) else 0 := by
 have hne := za6 h
 rw [digitsL_step _ hne]
 have e : rune (s.data.toList.drop pos) = ((Utf8.decode s pos).1 : Int) := by unfold rune; rw [Lib.decodeL_drop]
 rw [e]
 by_cases hk : zaj ((Utf8.decode s pos).1 : Int) = 2
 ·have hw := zeQ _ hne ((zdn _ hne).1 (by rw [e]; exact hk))
  unfold zak at hw
  rw [Lib.decodeL_drop] at hw
  rw [if_pos hk, if_pos hk, hw, List.drop_drop]
 ·rw [if_neg hk, if_neg hk]
theorem digits_end {s : ByteArray} {pos : Nat} (h : ¬ pos < s.size) : zab (s.data.toList.drop pos) = 0 := by rw [zaH h]; rfl
theorem digits_any (s : ByteArray) (w : World) (_hs : s.size <= maxLen) : Calls Tryz.prog 84 #[.string s] w fun e w' => e = .returned (.int .i64 (zab s.data.toList : Nat)) /\ Below w.heap.size w w' := by
 unfold maxLen at _hs
 go_enter Tryz.func84, Tryz.ntmps84
 go_wp2
 go_loopw [3] (fun _ wr => ∃ (pos : Nat), wr.heap[w.heap.size]? = some (.stringIter s pos) /\ Below w.heap.size w wr /\ Hid (pos + zab (s.data.toList.drop pos) = zab s.data.toList) /\ pos <= s.size) (fun _ wr => s.size - wr.iterPos w.heap.size)
 case atStart => exact ⟨0, World.iter_heap w s 0, (Below.refl _ _).alloc (Nat.le_refl _) _, (by show _ = _; simp), Nat.zero_le _⟩
 case round =>
  obtain ⟨pos, hit, hbw, H, hps⟩ := hrel
  have hpos0 := zac hit
  by_cases hp : pos < s.size
  ·have hnx : ∀ ty, (Instr.next (.pointer (some ⟨w.heap.size, 0, none⟩)) true ty).run Tryz.prog wr = _ := fun ty => Lib.run_next_any_at wr w.heap.size s pos ty hit hp
   have hwd := zbT s pos
   have hwl := zbm hp
   have hit2 := Lib.iterAt_heap wr w.heap.size s pos (pos + (Utf8.decode s pos).2) hit
   have hbw2 := Lib.below_iterAt hbw (k := w.heap.size) (Nat.le_refl _) s (pos + (Utf8.decode s pos).2)
   have H0 := zh (digits_at hp)
   go_wp2_with (go_at_call 42; refine (zb2 _ _).mono ?_; rintro e w' ⟨rfl, rfl⟩)
   all_goals try (simp only [bne_iff_ne, bne_eq_false_iff_eq, ne_eq] at *)
   all_goals first
    | (go_ret
       exact ⟨zb9 (by have h1 := H0.out; rw [if_neg (by omega)] at h1; rw [<- H.out, h1]; simp), hbw2⟩)
    | (go_roundw
       case rel => exact ⟨pos + (Utf8.decode s pos).2, hit2, hbw2, (by show _ = _; have h1 := H0.out; rw [if_pos (by omega)] at h1; rw [<- H.out, h1]; omega), hwl⟩
       case measure => rw [zac hit2, hpos0]; omega)
    | (exfalso; omega)
  ·have hnx : ∀ ty, (Instr.next (.pointer (some ⟨w.heap.size, 0, none⟩)) true ty).run Tryz.prog wr = _ := fun ty => Lib.run_next_end_at wr w.heap.size s pos ty hit hp
   have H2 : Hid (s.size = zab s.data.toList) := by
    show _ = _
    rw [<- H.out, digits_end hp]; omega
   go_wp2
   go_ret
   exact ⟨zb9 (by rw [<- H2.out]), hbw⟩
theorem close_high : ∀ (xs u : List UInt8) (i : Nat), (∀ x ∈ xs, 128 <= x.toNat) -> zag i false (xs ++ u) = zag (i + xs.length) false u :=
 fun xs u i h => zcp xs u i fun x hx => ⟨fun e => by have := h x hx; rw [e] at this; revert this; decide, fun e => by have := h x hx; rw [e] at this; revert this; decide⟩
theorem close_piece (l : List UInt8) (hne : l ≠ []) (i : Nat) (esc : Bool) : zag i esc l =
 if esc = true then zag (i + zak l) false (l.drop (zak l)) else if rune l = 92 then zag (i + zak l) true (l.drop (zak l))
 else if rune l = 34 /\ 0 < i then i + 1 else zag (i + zak l) false (l.drop (zak l)) := by
 cases l with
 | nil => exact absurd rfl hne
 | cons c u =>
   by_cases hc : c.toNat < 128
   ·have hd := zbq c u hc
    have hr : rune (c :: u) = (c.toNat : Int) := by unfold rune; rw [hd]
    have hw : zak (c :: u) = 1 := by unfold zak; rw [hd]
    rw [hr, hw, zag, List.drop_one, List.tail_cons]
    have e1 : ((c.toNat : Int) = 92) = (c.toNat = 92) := by apply propext; omega
    have e2 : ((c.toNat : Int) = 34) = (c.toNat = 34) := by apply propext; omega
    simp only [e1, e2]
   ·have h1 := zeb c u (by omega)
    have hr : 128 <= rune (c :: u) := by unfold rune; omega
    have hw1 := zbU (c :: u)
    have hw2 := zco hne
    obtain ⟨k, hk⟩ : ∃ k, zak (c :: u) = k + 1 := ⟨zak (c :: u) - 1, by omega⟩
    have hu : zag (i + 1) false u = zag (i + (k + 1)) false (u.drop k) := by
     have hk2 : k <= u.length := by rw [hk, List.length_cons] at hw2; omega
     have := close_high (u.take k) (u.drop k) (i + 1) (fun x hx => by
      obtain ⟨j, hj, rfl⟩ := List.mem_iff_getElem.1 hx
      rw [List.length_take] at hj
      have := zfU (c :: u) (j + 1) (by omega) (by omega)
      rw [List.getElem_take]
      have e : (c :: u).getD (j + 1) 0 = u[j]'(by omega) := by simp [List.getD, List.getElem?_eq_getElem (show j < u.length by omega)]
      rwa [e] at this)
     rw [List.take_append_drop, List.length_take, Nat.min_eq_left hk2] at this
     rw [this]; congr 1; omega
    rw [hk, List.drop_succ_cons, zag, hu, if_neg (show ¬ rune (c :: u) = 92 by omega), if_neg (show ¬ (rune (c :: u) = 34 /\ 0 < i) by omega), if_neg (show ¬ c.toNat = 92 by omega), if_neg (show ¬ (c.toNat = 34 /\ 0 < i) by omega)]
theorem close_at {s : ByteArray} {pos : Nat} (h : pos < s.size) (esc : Bool) : zag pos esc (s.data.toList.drop pos) =
 if esc = true then zag (pos + (Utf8.decode s pos).2) false (s.data.toList.drop (pos + (Utf8.decode s pos).2)) else if ((Utf8.decode s pos).1 : Int) = 92 then zag (pos + (Utf8.decode s pos).2) true (s.data.toList.drop (pos + (Utf8.decode s pos).2))
 else if ((Utf8.decode s pos).1 : Int) = 34 /\ 0 < pos then pos + 1 else zag (pos + (Utf8.decode s pos).2) false (s.data.toList.drop (pos + (Utf8.decode s pos).2)) := by
 rw [close_piece _ (za6 h)]
 unfold rune zak
 rw [Lib.decodeL_drop, List.drop_drop]
theorem close_end {s : ByteArray} {pos : Nat} (h : ¬ pos < s.size) (esc : Bool) : zag pos esc (s.data.toList.drop pos) = 0 := by rw [zaH h]; rfl
theorem closed_any (s : ByteArray) (w : World) (hs : s.size <= maxLen) : Calls Tryz.prog 64 #[.string s] w fun e w' => e = .returned (.int .i64 (zaB s.data.toList : Nat)) /\ Below w.heap.size w w' := by
 unfold maxLen at hs
 go_enter Tryz.func64, Tryz.ntmps64
 go_wp2
 go_loopw [3] (fun v wr => ∃ (pos : Nat) (esc : Bool), v = .bool esc /\ wr.heap[w.heap.size]? = some (.stringIter s pos) /\ Below w.heap.size w wr /\ Hid (zag pos esc (s.data.toList.drop pos) = zaB s.data.toList) /\ pos <= s.size) (fun _ wr => s.size - wr.iterPos w.heap.size)
 case atStart => exact ⟨0, false, rfl, World.iter_heap w s 0, (Below.refl _ _).alloc (Nat.le_refl _) _, (by show _ = _; simp [zaB]), Nat.zero_le _⟩
 case round =>
  obtain ⟨pos, esc, rfl, hit, hbw, H, hps⟩ := hrel
  have hpos0 := zac hit
  by_cases hp : pos < s.size
  ·have hnx : ∀ ty, (Instr.next (.pointer (some ⟨w.heap.size, 0, none⟩)) true ty).run Tryz.prog wr = _ := fun ty => Lib.run_next_any_at wr w.heap.size s pos ty hit hp
   have hwd := zbT s pos
   have hwl := zbm hp
   have hit2 := Lib.iterAt_heap wr w.heap.size s pos (pos + (Utf8.decode s pos).2) hit
   have hbw2 := Lib.below_iterAt hbw (k := w.heap.size) (Nat.le_refl _) s (pos + (Utf8.decode s pos).2)
   have H0 := zh ((close_at hp esc).symm.trans H.out)
   clear H
   cases esc
   all_goals go_wp2
   all_goals try (simp only [beq_iff_eq, beq_eq_false_iff_ne, ne_eq] at *)
   all_goals first
    | (go_ret
       exact ⟨zb9 (by have h1 := H0.out; rw [if_neg (by decide), if_neg (by omega), if_pos ⟨by omega, by omega⟩] at h1; rw [<- h1]; simp), hbw2⟩)
    | (go_roundw
       case rel => exact ⟨pos + (Utf8.decode s pos).2, _, rfl, hit2, hbw2, (by show _ = _; have h1 := H0.out; first | (rw [if_pos trivial] at h1; exact h1) | (rw [if_pos rfl] at h1; exact h1) | (rw [if_neg (by decide), if_pos (by omega)] at h1; exact h1) | (rw [if_neg (by decide), if_neg (by omega), if_neg (by omega)] at h1; exact h1)), hwl⟩
       case measure => rw [zac hit2, hpos0]; omega)
    | (exfalso; omega)
  ·have hnx : ∀ ty, (Instr.next (.pointer (some ⟨w.heap.size, 0, none⟩)) true ty).run Tryz.prog wr = _ := fun ty => Lib.run_next_end_at wr w.heap.size s pos ty hit hp
   have H2 : Hid (0 = zaB s.data.toList) := by
    show _ = _
    rw [<- H.out, close_end hp]
   go_wp2
   go_ret
   exact ⟨zb9 (by rw [<- H2.out]; rfl), hbw⟩
end Go.Proofs.YtbcemjhaecelnaaGreatDoor
end
section
namespace Go.Proofs.YtbcemjhaecelnaaGreatDoor
open Go.RowKit
def Env (w : World) : Prop := (∃ ev, w.cell? ⟨4, 0, none⟩ = some ev /\ (ev = .nilIface \/ ∃ te pe, ev = .iface te pe)) /\ 4 < w.heap.size /\ Lib.TabIs Tryz.prog w "internal/strconv.uint64pow10" .u64 Lib.pow10Tab
theorem tab_below {P : Program} {n : String} {g : Nat} {k : IntKind} {zs : List Int} {w w' : World} (hg : P.globalNamed n = some g) (h : Lib.TabIs P w n k zs) (hb : Below w.heap.size w w') : Lib.TabIs P w' n k zs := by
 unfold Lib.TabIs World.var? at h ⊢
 rw [hg] at h ⊢
 simp only [Option.bind_some] at h ⊢
 have hlt : g < w.heap.size := by
  rcases Nat.lt_or_ge g w.heap.size with h' | h'
  ·exact h'
  ·rw [Array.getElem?_eq_none h'] at h; cases h
 rw [hb.block g hlt]
 exact h
theorem Env.below {w w' : World} (h : Env w) (hb : Below w.heap.size w w') : Env w' := by
 obtain ⟨⟨ev, h1, h2⟩, h3, h4⟩ := h
 exact ⟨⟨ev, (hb.cell (p := ⟨4, 0, none⟩) h3).trans h1, h2⟩, Nat.lt_of_lt_of_le h3 hb.size, tab_below (g := 0) (by kernel_rfl) h4 hb⟩
theorem zgY (n : Nat) (hn : n <= 9223372036854775807) (w : World) (h : Env w) : Calls Tryz.prog 33 #[.int .i64 (n : Nat)] w fun e w' => e = .returned (.string ⟨(Lib.decDigits n).toArray⟩) /\ Below w.heap.size w w' := by
 refine (Tryz.strconv_Itoa n (by omega) (by omega) w h.2.2).mono fun e w' ⟨he, k, os, hw⟩ => ⟨?_, ?_⟩
 ·rw [he, Lib.itoa_nonneg]
 ·rw [hw]; exact Lib.below_grow _ w (Nat.le_refl _) k os
theorem zcq : ∀ (l : List UInt8) (a : Nat), (∀ c ∈ l, digB c = true) -> Lib.decFrom a l = some (zc4 a l)
 | [], a, _ => rfl
 | c :: l, a, h => by
   have hc : 48 <= c.toNat /\ c.toNat <= 57 := of_decide_eq_true (h c (by simp))
   have e : Lib.digitVal c = some (c.toNat - 48) := by unfold Lib.digitVal; rw [if_pos hc]
   unfold Lib.decFrom
   rw [e]
   exact zcq l _ fun x hx => h x (by simp [hx])
theorem atoi_dig (l : List UInt8) (hne : l ≠ []) (h : ∀ c ∈ l, digB c = true) : Lib.atoi l = some ((valL l : Nat) : Int) := by
 have hd := zcq l 0 h
 cases l with
 | nil => exact absurd rfl hne
 | cons c u =>
   have hc : 48 <= c.toNat /\ c.toNat <= 57 := of_decide_eq_true (h c (by simp))
   have hn : Lib.decNat (c :: u) = some (valL (c :: u)) := by
    unfold Lib.decNat
    rw [if_neg (by simp)]; exact hd
   have e1 : ¬ (c == 45) = true := by
    intro e; have := eq_of_beq e; subst this; revert hc; decide
   have e2 : ¬ (c == 43) = true := by
    intro e; have := eq_of_beq e; subst this; revert hc; decide
   unfold Lib.atoi
   show (if (c == 45) = true then _ else _) = _
   rw [if_neg e1, if_neg e2, hn]; rfl
theorem atoi_any (s : ByteArray) (hne : s.data.toList ≠ []) (hl : s.size <= 13) (h : ∀ c ∈ s.data.toList, digB c = true) (w : World) :
 Calls Tryz.prog 109 #[.string s] w fun e w' => e = .returned (.tuple #[.int .i64 (valL s.data.toList : Nat), .nilIface]) /\ Below w.heap.size w w' := by
 refine (Tryz.strconv_Atoi s (valL s.data.toList : Nat) (by omega) (atoi_dig _ hne h) w).mono fun e w' ⟨he, t, hw⟩ => ⟨he, ?_⟩
 rw [hw]; exact Lib.bytesWorld_below ..
def valV (l : List UInt8) : Value := if 13 < l.length \/ 1000000000000 < valL l then .tuple #[.int .i64 0, .bool false] else .tuple #[.int .i64 (valL l : Nat), .bool true]
theorem value_any (s : ByteArray) (hne : s.data.toList ≠ []) (h : ∀ c ∈ s.data.toList, digB c = true) (hs : s.size <= maxLen) (w : World) :
 Calls Tryz.prog 85 #[.string s] w fun e w' => e = .returned (valV s.data.toList) /\ Below w.heap.size w w' := by
 unfold maxLen at hs
 have hz : s.data.toList.length = s.size := by rw [<- Lib.size_eq]
 by_cases hl : 13 < s.size
 ·have e : valV s.data.toList = .tuple #[.int .i64 0, .bool false] := by unfold valV; rw [if_pos (.inl (by omega))]
  rw [e]
  have i1 : (13 : Int) < s.size := by omega
  clear e hz h hne
  go_enter Tryz.func85, Tryz.ntmps85
  go_wp2
  go_ret2
  exact ⟨rfl, Below.refl _ _⟩
 ·have HA := zh (fun W => atoi_any s hne (by omega) h W)
  have hb : valL s.data.toList < 10 ^ s.data.toList.length := by
   have := Lib.decFrom_lt _ 0 _ (zcq _ 0 h)
   simpa [valL] using this
  have hb2 : (10 : Nat) ^ s.data.toList.length <= 10 ^ 13 := Nat.pow_le_pow_right (by decide) (by omega)
  have e : valV s.data.toList = if 1000000000000 < valL s.data.toList then .tuple #[.int .i64 0, .bool false] else .tuple #[.int .i64 (valL s.data.toList : Nat), .bool true] := by
   unfold valV
   by_cases hv : 1000000000000 < valL s.data.toList
   ·rw [if_pos (.inr hv), if_pos hv]
   ·rw [if_neg (by omega), if_neg hv]
  rw [e]
  have i1 : (s.size : Int) <= 13 := by omega
  clear e hne h hz hl
  obtain ⟨v, hv⟩ : ∃ v, valL s.data.toList = v := ⟨_, rfl⟩
  rw [hv] at HA hb ⊢
  have i2 : (v : Int) <= 10000000000000 := by omega
  clear hb hb2 hv
  by_cases hv : 1000000000000 < v
  ·rw [if_pos hv]
   have i3 : (1000000000000 : Int) < v := by omega
   go_enter Tryz.func85, Tryz.ntmps85
   go_wp2_with fail
   refine (HA.out _).mono ?_
   rintro e w1 ⟨rfl, b1⟩
   go_wp2
   go_ret2
   exact ⟨rfl, b1⟩
  ·rw [if_neg hv]
   have i3 : (v : Int) <= 1000000000000 := by omega
   go_enter Tryz.func85, Tryz.ntmps85
   go_wp2_with fail
   refine (HA.out _).mono ?_
   rintro e w1 ⟨rfl, b1⟩
   go_wp2
   go_ret2
   exact ⟨rfl, b1⟩
theorem seconds_any (s : ByteArray) (w : World) : Calls Tryz.prog 86 #[.string s] w fun e w' => e = .returned (.int .i64 (zbc s.data.toList : Nat)) /\ w = w' := by
 go_enter Tryz.func86, Tryz.ntmps86
 go_wp2
 all_goals go_ret
 all_goals refine ⟨zb9 ?_, rfl⟩
 all_goals try (simp only [beq_iff_eq, beq_eq_false_iff_ne, ne_eq, ByteArray.toList_eq] at *)
 all_goals (unfold zbc; simp [*])
end Go.Proofs.YtbcemjhaecelnaaGreatDoor
end
section
namespace Go.Proofs.YtbcemjhaecelnaaGreatDoor
open Go.RowKit
def tokV (o : Option Tk) : Value := match o with
 | some t => .tuple #[.agg #[.int .i64 (t.1 : Nat), .int .i64 0, .string ⟨t.2.1.toArray⟩], .int .i64 (t.2.2 : Nat)]
 | none => .tuple #[.agg #[.int .i64 0, .int .i64 0, .string ⟨#[]⟩], .int .i64 0]
theorem zaK (s : ByteArray) (k : Nat) : (s.extract 0 k).data.toList = s.data.toList.take k := by
 rw [ByteArray.data_extract]; simp
theorem zaF (s : ByteArray) (k : Nat) : (s.extract k s.size).data.toList = s.data.toList.drop k := by
 rw [ByteArray.data_extract, show s.size = s.data.size from rfl, Array.toList_extract]
 simp [List.extract, List.take_of_length_le]
theorem zdq (s : ByteArray) : (⟨s.data.toList.toArray⟩ : ByteArray) = s := by cases s with | mk d => simp
theorem clone_any (s : ByteArray) (w : World) (hs : s.size <= 281474976710656) :
 Calls Tryz.prog 83 #[.string s] w fun e w' => e = .returned (.string s) /\ Below w.heap.size w w' := by
 go_enter Tryz.func83, Tryz.ntmps83
 go_wp2_with (go_at_call 108; refine (Tryz.stringslite_Clone _ _ hs).mono ?_; rintro e w1 ⟨rfl, b1⟩)
 go_ret
 exact ⟨rfl, b1⟩
theorem zh6 (s : ByteArray) (w : World) : Calls Tryz.prog 88 #[.string s] w fun e w' => e = .returned (.bool (zeu s.data.toList)) /\ w = w' := by
 go_enter Tryz.func88, Tryz.ntmps88
 go_wp2
 all_goals go_ret
 all_goals refine ⟨zaY ?_, rfl⟩
 all_goals try (simp only [beq_iff_eq, beq_eq_false_iff_ne, ne_eq, ByteArray.toList_eq] at *)
 all_goals first
  | contradiction
  | (rw [‹s.data.toList = _›]; decide)
  | (unfold zeu signs; simp [*])
theorem zas {W w1 : World} (hb : Below W.heap.size W w1) : (∀ b o, b < W.heap.size -> w1.cell? ⟨b, o, none⟩ = W.cell? ⟨b, o, none⟩) /\ (∀ b o, b < W.heap.size -> w1.frozen? ⟨b, o, none⟩ = W.frozen? ⟨b, o, none⟩) :=
 ⟨fun b o h => hb.cell (p := ⟨b, o, none⟩) h, fun b o h => hb.frozen (p := ⟨b, o, none⟩) h⟩
theorem word_any (s : ByteArray) (w : World) (hs : s.size <= 1099511627776) : Calls Tryz.prog 60 #[.string s] w fun e w' => e = .returned (tokV (if zbz s.data.toList = true then some (1, s.data.toList, s.size) else none)) /\ Below w.heap.size w w' := by
 have HN := zh (fun W => zgP s W)
 have HC := zh (fun W => clone_any s W (by omega))
 have hs2 : (s.size : Int) <= 1099511627776 := by omega
 clear hs
 generalize zbz s.data.toList = b at HN ⊢
 cases b
 ·go_enter Tryz.func60, Tryz.ntmps60
  go_wp2_with fail
  refine (HN.out _).mono ?_
  rintro e w1 ⟨rfl, b1⟩
  obtain ⟨hc1, hf1⟩ := zas b1
  have hz1 := b1.size
  simp at hz1
  have HB := zh (((Below.refl _ _).alloc (Nat.le_refl _) _).trans (b1.mono (by simp)))
  clear b1
  go_wp2
  exact bodyPost_ret (v := .tuple #[.agg #[.int .i64 0, .int .i64 0, .string ⟨#[]⟩], .int .i64 0]) (by simp [results, Tryz.results60, go_sem, hc1]) rfl ⟨rfl, ((HB.out.setCell (Nat.le_refl _) _).setCell (Nat.le_refl _) _).setCell (Nat.le_refl _) _⟩
 ·go_enter Tryz.func60, Tryz.ntmps60
  go_wp2_with fail
  refine (HN.out _).mono ?_
  rintro e w1 ⟨rfl, b1⟩
  obtain ⟨hc1, hf1⟩ := zas b1
  have hz1 := b1.size
  simp at hz1
  have HB := zh (((Below.refl _ _).alloc (Nat.le_refl _) _).trans (b1.mono (by simp)))
  clear b1
  have hlt : w.heap.size < w1.heap.size := by omega
  go_wp2_with fail
  refine (HC.out _).mono ?_
  rintro e w2 ⟨rfl, b2⟩
  obtain ⟨hc2, hf2⟩ := zas b2
  have hz2 := b2.size
  have HB2 := zh (HB.out.trans (b2.mono (by omega)))
  clear b2
  go_wp2
  exact bodyPost_ret (v := .tuple #[.agg #[.int .i64 1, .int .i64 0, .string s], .int .i64 s.size]) (by simp [results, Tryz.results60, go_sem, hc1, hc2, hlt]) rfl ⟨by unfold tokV; simp only; rw [zdq]; rfl, ((HB2.out.setCell (Nat.le_refl _) _).setCell (Nat.le_refl _) _).setCell (Nat.le_refl _) _⟩
end Go.Proofs.YtbcemjhaecelnaaGreatDoor
end
section
namespace Go.Proofs.YtbcemjhaecelnaaGreatDoor
open Go.RowKit
def zhu (o : Option (List UInt8)) : Value := match o with
 | some t => .tuple #[.string ⟨t.toArray⟩, .bool true]
 | none => .tuple #[.string ⟨#[]⟩, .bool false]
theorem unq_any (s : ByteArray) (hs : s.size <= 274877906944) (w : World) (h : Env w) : Calls Tryz.prog 87 #[.string s] w fun e w' => e = .returned (zhu (zap s.data.toList)) /\ Below w.heap.size w w' := by
 obtain ⟨⟨ev, hG, hev⟩, h0, _⟩ := h
 refine (unquote_any s hs ev w h0 hG hev).mono fun e w' ⟨he, hb⟩ => ⟨?_, hb⟩
 generalize zap s.data.toList = o at he ⊢
 cases o <;> exact he
theorem quoted_any (s : ByteArray) (w : World) (h : Env w) (hs : s.size <= 274877906944) : Calls Tryz.prog 63 #[.string s] w fun e w' => e = .returned (tokV ((zap s.data.toList).map fun t => (3, t, s.size))) /\ Below w.heap.size w w' := by
 have HN := zh (fun W (hb : Below w.heap.size w W) => unq_any s (by omega) W (h.below hb))
 have hs2 : (s.size : Int) <= 274877906944 := by omega
 clear hs h
 generalize zap s.data.toList = b at HN ⊢
 cases b
 ·go_enter Tryz.func63, Tryz.ntmps63
  go_wp2_with fail
  refine (HN.out _ ((Below.refl _ _).alloc (Nat.le_refl _) _)).mono ?_
  rintro e w1 ⟨rfl, b1⟩
  obtain ⟨hc1, hf1⟩ := zas b1
  have hz1 := b1.size
  simp at hz1
  have HB := zh (((Below.refl _ _).alloc (Nat.le_refl _) _).trans (b1.mono (by simp)))
  clear b1
  simp only [zhu]
  go_wp2
  exact bodyPost_ret (v := .tuple #[.agg #[.int .i64 0, .int .i64 0, .string ⟨#[]⟩], .int .i64 0]) (by simp [results, Tryz.results63, go_sem, hc1]) rfl ⟨rfl, ((HB.out.setCell (Nat.le_refl _) _).setCell (Nat.le_refl _) _).setCell (Nat.le_refl _) _⟩
 ·rename_i t
  go_enter Tryz.func63, Tryz.ntmps63
  go_wp2_with fail
  refine (HN.out _ ((Below.refl _ _).alloc (Nat.le_refl _) _)).mono ?_
  rintro e w1 ⟨rfl, b1⟩
  obtain ⟨hc1, hf1⟩ := zas b1
  have hz1 := b1.size
  simp at hz1
  have HB := zh (((Below.refl _ _).alloc (Nat.le_refl _) _).trans (b1.mono (by simp)))
  clear b1
  simp only [zhu]
  go_wp2
  exact bodyPost_ret (v := .tuple #[.agg #[.int .i64 3, .int .i64 0, .string ⟨t.toArray⟩], .int .i64 s.size]) (by simp [results, Tryz.results63, go_sem, hc1]) rfl ⟨rfl, ((HB.out.setCell (Nat.le_refl _) _).setCell (Nat.le_refl _) _).setCell (Nat.le_refl _) _⟩
def zbV (l : List UInt8) : Nat -> Option Tk
 | 0 => none
 | n + 1 => if zeu (l.take (n + 1)) = true then some (5, l.take (n + 1), n + 1) else zbV l n
theorem zeX (l : List UInt8) : zbV l (min 2 l.length) = zc5 l := by
 unfold zc5
 match l with
 | [] => rfl
 | [x] =>
   show zbV [x] 1 = _
   simp [zbV]
 | x :: y :: u =>
   show zbV (x :: y :: u) 2 = _
   simp [zbV]
theorem sign_any (s : ByteArray) (w : World) (hs : s.size <= 274877906944) : Calls Tryz.prog 65 #[.string s] w fun e w' => e = .returned (tokV (zc5 s.data.toList)) /\ Below w.heap.size w w' := by
 have HC := zh (fun n W => clone_any (s.extract 0 n) W (by rw [ByteArray.size_extract]; omega))
 have hz : s.data.toList.length = s.size := by rw [<- Lib.size_eq]
 have HS := zh (zeX s.data.toList)
 rw [hz] at HS
 have hs2 : (s.size : Int) <= 274877906944 := by omega
 clear hs hz
 have hm : ∃ m, min 2 s.size = m /\ m <= 2 /\ m <= s.size := ⟨_, rfl, by omega, by omega⟩
 obtain ⟨m, hm, hm2, hms⟩ := hm
 rw [hm] at HS
 have mn : ∀ W ts t, (Builtin.min_ ts t #[.int .i64 2, .int .i64 s.size]).run Tryz.prog W = .ok (.int .i64 (m : Nat)) W := by
  intro W ts t
  rw [run_min_int2]
  congr 3
  omega
 clear hm
 go_enter Tryz.func65, Tryz.ntmps65
 go_wp2
 go_loop [4] (fun v => ∃ n : Nat, v = .int .i64 n /\ n <= 2 /\ n <= s.size /\ Hid (zbV s.data.toList n = zc5 s.data.toList)) (fun v => (intOf v).toNat)
 case atStart => exact ⟨m, rfl, hm2, hms, HS⟩
 case round =>
  obtain ⟨n, rfl, hn2, hns, H⟩ := hrel
  by_cases h0 : 0 < n
  ·obtain ⟨k, rfl⟩ : ∃ k, n = k + 1 := ⟨n - 1, by omega⟩
   have i1 : (k : Int) + 1 <= s.size := by omega
   cases hb : zeu (s.data.toList.take (k + 1)) with
   | true =>
     have HI := zh (fun W => (zh6 (s.extract 0 (k + 1)) W).mono (R' := fun e w' => e = .returned (.bool true) /\ W = w') (fun e w' ⟨h1, h2⟩ => ⟨by rw [h1, zaK, hb], h2⟩))
     have H2 := zh (show zc5 s.data.toList = some (5, s.data.toList.take (k + 1), k + 1) by rw [<- H.out]; unfold zbV; rw [if_pos hb])
     have HX := zh (show (⟨(s.data.toList.take (k + 1)).toArray⟩ : ByteArray) = s.extract 0 (k + 1) by rw [<- zaK, zdq])
     clear H hb
     go_wp2_with fail
     refine (HI.out _).mono ?_
     rintro e w1 ⟨rfl, rfl⟩
     go_wp2_with fail
     refine (HC.out (k + 1) _).mono ?_
     rintro e w2 ⟨rfl, b2⟩
     obtain ⟨hc2, hf2⟩ := zas b2
     have hz2 := b2.size
     simp at hz2
     have HB := zh (((Below.refl _ _).alloc (Nat.le_refl _) _).trans (b2.mono (by simp)))
     clear b2
     go_wp2
     exact bodyPost_ret (v := .tuple #[.agg #[.int .i64 5, .int .i64 0, .string (s.extract 0 (k + 1))], .int .i64 (k + 1)]) (by simp [results, Tryz.results65, go_sem, hc2]) rfl ⟨by rw [H2.out]; unfold tokV; dsimp only; rw [HX.out]; rfl, ((HB.out.setCell (Nat.le_refl _) _).setCell (Nat.le_refl _) _).setCell (Nat.le_refl _) _⟩
   | false =>
     have HI := zh (fun W => (zh6 (s.extract 0 (k + 1)) W).mono (R' := fun e w' => e = .returned (.bool false) /\ W = w') (fun e w' ⟨h1, h2⟩ => ⟨by rw [h1, zaK, hb], h2⟩))
     have H2 := zh (show zbV s.data.toList k = zc5 s.data.toList by rw [<- H.out]; rw [zbV, hb]; rfl)
     clear H hb
     go_wp2_with fail
     refine (HI.out _).mono ?_
     rintro e w1 ⟨rfl, rfl⟩
     go_wp2
     go_round
     case rel => exact ⟨k, by go_num, by omega, by omega, H2⟩
     case measure => simp [intOf]
  ·obtain rfl : n = 0 := by omega
   have H2 := zh (show none = zc5 s.data.toList by rw [<- H.out]; rfl)
   clear H
   go_wp2
   exact bodyPost_ret (v := .tuple #[.agg #[.int .i64 0, .int .i64 0, .string ⟨#[]⟩], .int .i64 0]) (by simp [results, Tryz.results65, go_sem]) rfl ⟨by rw [<- H2.out]; rfl, (Below.refl _ _).alloc (Nat.le_refl _) _⟩
end Go.Proofs.YtbcemjhaecelnaaGreatDoor
end
end
