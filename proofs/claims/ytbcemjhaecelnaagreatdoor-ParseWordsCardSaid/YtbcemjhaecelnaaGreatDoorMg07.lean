import Derived.Test.YtbcemjhaecelnaaGreatDoorMg06
import Derived.IntWalk
import Derived.Laws.OwnMore
section
set_option maxHeartbeats 4000000
set_option maxRecDepth 100000
section
namespace Go.Proofs.YtbcemjhaecelnaaGreatDoor
open Go.RowKit
theorem secs_le (l : List UInt8) : zbc l <= 3600 := by unfold zbc; repeat' split
                                                       all_goals omega
theorem take_dig (l : List UInt8) : ∀ c ∈ l.take (zab l), digB c = true := by
 intro c hc
 unfold zab at hc
 rw [<- List.prefix_iff_eq_take.1 (List.takeWhile_prefix _)] at hc
 exact List.all_eq_true.1 List.all_takeWhile c hc
theorem number_any (s : ByteArray) (w : World) (h : Env w) (hs : s.size <= 274877906944) (hd : 1 <= zab s.data.toList) : Calls Tryz.prog 62 #[.string s] w fun e w' => e = .returned (tokV (numL s.data.toList)) /\ Below w.heap.size w w' := by
 have hz : s.data.toList.length = s.size := by rw [<- Lib.size_eq]
 have hdl := zeP s.data.toList
 have HN := zh (fun W => digits_any s W (by unfold maxLen; omega))
 have HSec := zh (fun W => seconds_any (s.extract (zab s.data.toList) s.size) W)
 have HV := zh (fun W => value_any (s.extract 0 (zab s.data.toList)) (by rw [zaK]; intro h0; have := congrArg List.length h0; rw [List.length_take, List.length_nil] at this; omega) (by rw [zaK]; exact take_dig _) (by rw [ByteArray.size_extract]; unfold maxLen; omega) W)
 have HI := zh (fun (p : Nat) W (hp : p <= 9223372036854775807) (hb : Below w.heap.size w W) => zgY p hp W (h.below hb))
 rw [zaK] at HV
 rw [zaF] at HSec
 have hk := secs_le (s.data.toList.drop (zab s.data.toList))
 unfold numL
 rw [hz]
 have hlen : (s.data.toList.take (zab s.data.toList)).length = zab s.data.toList := by rw [List.length_take]; omega
 unfold valV at HV
 rw [hlen] at HV
 clear hlen h hd
 generalize zab s.data.toList = n at *
 generalize valL (s.data.toList.take n) = v at *
 generalize zbc (s.data.toList.drop n) = k at *
 have hs2 : (s.size : Int) <= 274877906944 := by omega
 have hns : (n : Int) <= s.size := by omega
 clear hs hz hdl
 have B0 : Below w.heap.size w (w.alloc (.cells #[.int .i64 0, .int .i64 0, .string ⟨#[]⟩] 78)) := (Below.refl _ _).alloc (Nat.le_refl _) _
 by_cases hg : 13 < n \/ 1000000000000 < v
 ·rw [if_pos hg] at HV
  rw [if_pos hg]
  clear hg B0
  go_enter Tryz.func62, Tryz.ntmps62
  go_wp2_with fail
  refine (HN.out _).mono ?_
  rintro e w1 ⟨rfl, b1⟩
  obtain ⟨hc1, hf1⟩ := zas b1
  have hz1 := b1.size
  simp at hz1
  have HB := zh (((Below.refl _ _).alloc (Nat.le_refl _) _).trans (b1.mono (by simp)))
  have hlt : w.heap.size < w1.heap.size := by omega
  clear b1
  go_wp2_with fail
  refine (HV.out _).mono ?_
  rintro e w2 ⟨rfl, b2⟩
  obtain ⟨hc2, hf2⟩ := zas b2
  have hz2 := b2.size
  have HB2 := zh (HB.out.trans (b2.mono (by omega)))
  clear b2
  go_wp2
  exact bodyPost_ret (v := .tuple #[.agg #[.int .i64 0, .int .i64 0, .string ⟨#[]⟩], .int .i64 0]) (by simp [results, Tryz.results62, go_sem, hc1, hc2, hlt]) rfl ⟨rfl, ((HB2.out.setCell (Nat.le_refl _) _).setCell (Nat.le_refl _) _).setCell (Nat.le_refl _) _⟩
 ·rw [if_neg hg] at HV
  rw [if_neg hg]
  have hv : (v : Int) <= 1000000000000 := by omega
  have hk2 : (k : Int) <= 3600 := by omega
  clear hg
  by_cases hn : n = s.size
  ·rw [if_pos hn]
   have hn2 : (n : Int) = s.size := by omega
   have HNS := zh hn
   have i1 : (s.size : Int) <= n := by omega
   clear hn hn2
   go_enter Tryz.func62, Tryz.ntmps62
   go_wp2_with fail
   refine (HN.out _).mono ?_
   rintro e w1 ⟨rfl, b1⟩
   obtain ⟨hc1, hf1⟩ := zas b1
   have hz1 := b1.size
   simp at hz1
   have HB := zh (B0.trans (b1.mono (by simp)))
   have hlt : w.heap.size < w1.heap.size := by omega
   clear b1
   go_wp2_with fail
   refine (HV.out _).mono ?_
   rintro e w2 ⟨rfl, b2⟩
   obtain ⟨hc2, hf2⟩ := zas b2
   have hz2 := b2.size
   have HB2 := zh (HB.out.trans (b2.mono (by omega)))
   have hlt2 : w.heap.size < w2.heap.size := by omega
   clear b2
   go_wp2_with fail
   refine (HI.out v _ (by omega) HB2.out).mono ?_
   rintro e w3 ⟨rfl, b3⟩
   obtain ⟨hc3, hf3⟩ := zas b3
   have hz3 := b3.size
   have HB3 := zh (HB2.out.trans (b3.mono (by omega)))
   clear b3
   go_wp2
   exact bodyPost_ret (v := .tuple #[.agg #[.int .i64 2, .int .i64 0, .string ⟨(Lib.decDigits v).toArray⟩], .int .i64 s.size]) (by simp [results, Tryz.results62, go_sem, hc1, hc2, hc3, hlt, hlt2]) rfl ⟨rfl, ((HB3.out.setCell (Nat.le_refl _) _).setCell (Nat.le_refl _) _).setCell (Nat.le_refl _) _⟩
  ·rw [if_neg hn]
   have hn2 : (n : Int) < s.size := by omega
   have hn3 : decide ((n : Int) = s.size) = false := by simp; omega
   clear hn
   by_cases hk0 : k = 0
   ·subst hk0
    rw [if_pos (.inl rfl)]
    go_enter Tryz.func62, Tryz.ntmps62
    go_wp2_with fail
    refine (HN.out _).mono ?_
    rintro e w1 ⟨rfl, b1⟩
    obtain ⟨hc1, hf1⟩ := zas b1
    have hz1 := b1.size
    simp at hz1
    have HB := zh (B0.trans (b1.mono (by simp)))
    have hlt : w.heap.size < w1.heap.size := by omega
    clear b1
    go_wp2_with fail
    refine (HV.out _).mono ?_
    rintro e w2 ⟨rfl, b2⟩
    obtain ⟨hc2, hf2⟩ := zas b2
    have hz2 := b2.size
    have HB2 := zh (HB.out.trans (b2.mono (by omega)))
    have hlt2 : w.heap.size < w2.heap.size := by omega
    clear b2
    go_wp2_with fail
    refine (HSec.out _).mono ?_
    rintro e w0 ⟨rfl, rfl⟩
    go_wp2
    exact bodyPost_ret (v := .tuple #[.agg #[.int .i64 0, .int .i64 0, .string ⟨#[]⟩], .int .i64 0]) (by simp [results, Tryz.results62, go_sem, hc1, hc2, hlt]) rfl ⟨rfl, ((HB2.out.setCell (Nat.le_refl _) _).setCell (Nat.le_refl _) _).setCell (Nat.le_refl _) _⟩
   ·have hk1 : (0 : Int) < k := by omega
    have hk3 : ((k : Int) == 0) = false := by simp; omega
    have hle : v * k <= 1000000000000 * 3600 := Nat.mul_le_mul (by omega) (by omega)
    obtain ⟨p, hp⟩ : ∃ p, v * k = p := ⟨_, rfl⟩
    have hm : (v : Int) * (k : Int) = (p : Int) := by rw [<- hp]; exact (Int.natCast_mul v k).symm
    rw [hp] at hle ⊢
    clear hk0
    have hle2 : (p : Int) <= 3600000000000000 := by omega
    clear hp
    by_cases hg : 1000000000 < p
    ·rw [if_pos (.inr hg)]
     have hg2 : (1000000000 : Int) < p := by omega
     go_enter Tryz.func62, Tryz.ntmps62
     go_wp2_with fail
     refine (HN.out _).mono ?_
     rintro e w1 ⟨rfl, b1⟩
     obtain ⟨hc1, hf1⟩ := zas b1
     have hz1 := b1.size
     simp at hz1
     have HB := zh (B0.trans (b1.mono (by simp)))
     have hlt : w.heap.size < w1.heap.size := by omega
     clear b1
     go_wp2_with fail
     refine (HV.out _).mono ?_
     rintro e w2 ⟨rfl, b2⟩
     obtain ⟨hc2, hf2⟩ := zas b2
     have hz2 := b2.size
     have HB2 := zh (HB.out.trans (b2.mono (by omega)))
     have hlt2 : w.heap.size < w2.heap.size := by omega
     clear b2
     go_wp2_with fail
     refine (HSec.out _).mono ?_
     rintro e w0 ⟨rfl, rfl⟩
     go_wp2
     exact bodyPost_ret (v := .tuple #[.agg #[.int .i64 0, .int .i64 0, .string ⟨#[]⟩], .int .i64 0]) (by simp [results, Tryz.results62, go_sem, hc1, hc2, hlt]) rfl ⟨rfl, ((HB2.out.setCell (Nat.le_refl _) _).setCell (Nat.le_refl _) _).setCell (Nat.le_refl _) _⟩
    ·rw [if_neg (by omega)]
     have hg2 : (p : Int) <= 1000000000 := by omega
     go_enter Tryz.func62, Tryz.ntmps62
     go_wp2_with fail
     refine (HN.out _).mono ?_
     rintro e w1 ⟨rfl, b1⟩
     obtain ⟨hc1, hf1⟩ := zas b1
     have hz1 := b1.size
     simp at hz1
     have HB := zh (B0.trans (b1.mono (by simp)))
     have hlt : w.heap.size < w1.heap.size := by omega
     clear b1
     go_wp2_with fail
     refine (HV.out _).mono ?_
     rintro e w2 ⟨rfl, b2⟩
     obtain ⟨hc2, hf2⟩ := zas b2
     have hz2 := b2.size
     have HB2 := zh (HB.out.trans (b2.mono (by omega)))
     have hlt2 : w.heap.size < w2.heap.size := by omega
     clear b2
     go_wp2_with fail
     refine (HSec.out _).mono ?_
     rintro e w0 ⟨rfl, rfl⟩
     go_wp2_with fail
     refine (HI.out p _ (by omega) HB2.out).mono ?_
     rintro e w3 ⟨rfl, b3⟩
     obtain ⟨hc3, hf3⟩ := zas b3
     have hz3 := b3.size
     have HB3 := zh (HB2.out.trans (b3.mono (by omega)))
     clear b3
     go_wp2
     exact bodyPost_ret (v := .tuple #[.agg #[.int .i64 4, .int .i64 0, .string ⟨(Lib.decDigits p).toArray⟩], .int .i64 s.size]) (by simp [results, Tryz.results62, go_sem, hc1, hc2, hc3, hlt, hlt2]) rfl ⟨rfl, ((HB3.out.setCell (Nat.le_refl _) _).setCell (Nat.le_refl _) _).setCell (Nat.le_refl _) _⟩
end Go.Proofs.YtbcemjhaecelnaaGreatDoor
end
section
namespace Go.Proofs.YtbcemjhaecelnaaGreatDoor
open Go.RowKit
theorem digits_one {l : List UInt8} (hne : l ≠ []) (h : zaj (rune l) = 2) : 1 <= zab (l.take (zad l)) := by
 have hp := zdo hne (.inr h)
 cases l with
 | nil => exact absurd rfl hne
 | cons c u =>
   obtain ⟨k, hk⟩ : ∃ k, zad (c :: u) = k + 1 := ⟨zad (c :: u) - 1, by omega⟩
   rw [hk, List.take_succ_cons]
   unfold zab
   rw [List.takeWhile_cons, if_pos (show digB c = true from (zdn _ hne).1 h)]; simp
theorem zga (r : Int) (s : ByteArray) (hr : rune s.data.toList = r) (hne : s.data.toList ≠ []) (w : World) (h : Env w) (hs : s.size <= 274877906944) : Calls Tryz.prog 43 #[.int .i32 r, .string s] w fun e w' => e = .returned (tokV (zam s.data.toList)) /\ Below w.heap.size w w' := by
 have hz : s.data.toList.length = s.size := by rw [<- Lib.size_eq]
 have hcl := zbh s.data.toList
 rw [hz] at hcl
 have HC := zh (fun W => chain_any s W (by unfold maxLen; omega))
 have hs2 : (s.size : Int) <= 274877906944 := by omega
 have B0 : Below w.heap.size w (w.alloc (.cells #[.int .i64 0, .int .i64 0, .string ⟨#[]⟩] 78)) := (Below.refl _ _).alloc (Nat.le_refl _) _
 by_cases k1 : zaj r = 1
 ·have hf : zam s.data.toList = if zbz (s.data.toList.take (zad s.data.toList)) = true then some (1, s.data.toList.take (zad s.data.toList), zad s.data.toList) else none := by unfold zam; rw [hr, if_pos k1]
  have HW := zh (fun W => word_any (s.extract 0 (zad s.data.toList)) W (by rw [ByteArray.size_extract]; omega))
  have hsz : (s.extract 0 (zad s.data.toList)).size = zad s.data.toList := by rw [ByteArray.size_extract]; omega
  rw [zaK, hsz] at HW
  rw [hf]
  generalize (if zbz (s.data.toList.take (zad s.data.toList)) = true then some (1, s.data.toList.take (zad s.data.toList), zad s.data.toList) else none) = o at HW ⊢
  generalize zad s.data.toList = n at *
  have hn2 : (n : Int) <= s.size := by omega
  clear hf hsz hcl hs hz hr hne
  obtain ⟨k, t, m, ho⟩ : ∃ k t m, tokV o = .tuple #[.agg #[.int .i64 (k : Int), .int .i64 0, .string t], .int .i64 (m : Int)] := by cases o <;> exact ⟨_, _, _, rfl⟩
  rw [ho] at HW ⊢
  clear ho
  go_enter Tryz.func43, Tryz.ntmps43
  go_wp2_with (go_at_call 42; refine (zb2 _ _).mono ?_; rintro e w' ⟨rfl, rfl⟩)
  refine (HC.out _).mono ?_
  rintro e w1 ⟨rfl, b1⟩
  obtain ⟨hc1, hf1⟩ := zas b1
  have hz1 := b1.size
  simp at hz1
  have HB := zh (B0.trans (b1.mono (by simp)))
  have hlt : w.heap.size < w1.heap.size := by omega
  clear b1
  go_wp2_with fail
  refine (HW.out _).mono ?_
  rintro e w2 ⟨rfl, b2⟩
  obtain ⟨hc2, hf2⟩ := zas b2
  have hz2 := b2.size
  have HB2 := zh (HB.out.trans (b2.mono (by omega)))
  clear b2
  go_wp2
  exact bodyPost_ret (v := .tuple #[.agg #[.int .i64 (k : Int), .int .i64 0, .string t], .int .i64 (m : Int)]) (by simp [results, Tryz.results43, go_sem, hc1, hc2, hlt]) rfl ⟨rfl, ((HB2.out.setCell (Nat.le_refl _) _).setCell (Nat.le_refl _) _).setCell (Nat.le_refl _) _⟩
 ·by_cases k2 : zaj r = 2
  ·have hf : zam s.data.toList = numL (s.data.toList.take (zad s.data.toList)) := by unfold zam; rw [hr, if_neg k1, if_pos k2]
   have HW := zh (fun W (hb : Below w.heap.size w W) => number_any (s.extract 0 (zad s.data.toList)) W (h.below hb) (by rw [ByteArray.size_extract]; omega) (by rw [zaK]; exact digits_one hne (by rw [hr]; exact k2)))
   rw [zaK] at HW
   rw [hf]
   generalize numL (s.data.toList.take (zad s.data.toList)) = o at HW ⊢
   generalize zad s.data.toList = n at *
   have hn2 : (n : Int) <= s.size := by omega
   clear hf hcl hs hz hr hne k1 h
   obtain ⟨k, t, m, ho⟩ : ∃ k t m, tokV o = .tuple #[.agg #[.int .i64 (k : Int), .int .i64 0, .string t], .int .i64 (m : Int)] := by cases o <;> exact ⟨_, _, _, rfl⟩
   rw [ho] at HW ⊢
   clear ho
   go_enter Tryz.func43, Tryz.ntmps43
   go_wp2_with (go_at_call 42; refine (zb2 _ _).mono ?_; rintro e w' ⟨rfl, rfl⟩)
   refine (HC.out _).mono ?_
   rintro e w1 ⟨rfl, b1⟩
   obtain ⟨hc1, hf1⟩ := zas b1
   have hz1 := b1.size
   simp at hz1
   have HB := zh (B0.trans (b1.mono (by simp)))
   have hlt : w.heap.size < w1.heap.size := by omega
   clear b1
   go_wp2_with fail
   refine (HW.out _ HB.out).mono ?_
   rintro e w2 ⟨rfl, b2⟩
   obtain ⟨hc2, hf2⟩ := zas b2
   have hz2 := b2.size
   have HB2 := zh (HB.out.trans (b2.mono (by omega)))
   clear b2
   go_wp2
   exact bodyPost_ret (v := .tuple #[.agg #[.int .i64 (k : Int), .int .i64 0, .string t], .int .i64 (m : Int)]) (by simp [results, Tryz.results43, go_sem, hc1, hc2, hlt]) rfl ⟨rfl, ((HB2.out.setCell (Nat.le_refl _) _).setCell (Nat.le_refl _) _).setCell (Nat.le_refl _) _⟩
  ·by_cases k3 : r = 34
   ·subst k3
    have hf : zam s.data.toList = (zap (s.data.toList.take (zaB s.data.toList))).map fun t => (3, t, zaB s.data.toList) := by
     unfold zam
     rw [hr, if_neg k1, if_neg k2, if_pos rfl]
     cases zap (s.data.toList.take (zaB s.data.toList)) <;> rfl
    have HK := zh (fun W => closed_any s W (by unfold maxLen; omega))
    have hcl2 : zaB s.data.toList <= s.size := by
     by_cases h0 : zaB s.data.toList = 0
     ·omega
     ·have := (zgX h0).2.1; omega
    have hsz : (s.extract 0 (zaB s.data.toList)).size = zaB s.data.toList := by rw [ByteArray.size_extract]; omega
    have HW := zh (fun W (hb : Below w.heap.size w W) => quoted_any (s.extract 0 (zaB s.data.toList)) W (h.below hb) (by rw [ByteArray.size_extract]; omega))
    rw [zaK, hsz] at HW
    rw [hf]
    generalize Option.map (fun t => ((3 : Nat), t, zaB s.data.toList)) (zap (s.data.toList.take (zaB s.data.toList))) = o at HW ⊢
    generalize zaB s.data.toList = n at *
    have hn2 : (n : Int) <= s.size := by omega
    have k4 : zaj 34 = 4 := by decide
    clear hf hcl hcl2 hsz hs hz hr hne k1 k2 h HC
    obtain ⟨k, t, m, ho⟩ : ∃ k t m, tokV o = .tuple #[.agg #[.int .i64 (k : Int), .int .i64 0, .string t], .int .i64 (m : Int)] := by cases o <;> exact ⟨_, _, _, rfl⟩
    rw [ho] at HW ⊢
    clear ho
    go_enter Tryz.func43, Tryz.ntmps43
    go_wp2_with (go_at_call 42; refine (zb2 _ _).mono ?_; rintro e w' ⟨rfl, rfl⟩)
    refine (HK.out _).mono ?_
    rintro e w1 ⟨rfl, b1⟩
    obtain ⟨hc1, hf1⟩ := zas b1
    have hz1 := b1.size
    simp at hz1
    have HB := zh (B0.trans (b1.mono (by simp)))
    have hlt : w.heap.size < w1.heap.size := by omega
    clear b1
    go_wp2_with fail
    refine (HW.out _ HB.out).mono ?_
    rintro e w2 ⟨rfl, b2⟩
    obtain ⟨hc2, hf2⟩ := zas b2
    have hz2 := b2.size
    have HB2 := zh (HB.out.trans (b2.mono (by omega)))
    clear b2
    go_wp2
    exact bodyPost_ret (v := .tuple #[.agg #[.int .i64 (k : Int), .int .i64 0, .string t], .int .i64 (m : Int)]) (by simp [results, Tryz.results43, go_sem, hc1, hc2, hlt]) rfl ⟨rfl, ((HB2.out.setCell (Nat.le_refl _) _).setCell (Nat.le_refl _) _).setCell (Nat.le_refl _) _⟩
   ·have hf : zam s.data.toList = zc5 s.data.toList := by unfold zam; rw [hr, if_neg k1, if_neg k2, if_neg k3]
    have HW := zh (fun W (_ : Below w.heap.size w W) => sign_any s W hs)
    rw [hf]
    generalize zc5 s.data.toList = o at HW ⊢
    have k4 : (zaj r == 1) = false := by simp [k1]
    have k5 : (zaj r == 2) = false := by simp [k2]
    have k6 : (r == 34) = false := by simp [k3]
    clear hf hcl hs hz hr hne k1 k2 k3 h HC
    obtain ⟨k, t, m, ho⟩ : ∃ k t m, tokV o = .tuple #[.agg #[.int .i64 (k : Int), .int .i64 0, .string t], .int .i64 (m : Int)] := by cases o <;> exact ⟨_, _, _, rfl⟩
    rw [ho] at HW ⊢
    clear ho
    go_enter Tryz.func43, Tryz.ntmps43
    go_wp2_with (go_at_call 42; refine (zb2 _ _).mono ?_; rintro e w' ⟨rfl, rfl⟩)
    refine (HW.out _ B0).mono ?_
    rintro e w1 ⟨rfl, b1⟩
    obtain ⟨hc1, hf1⟩ := zas b1
    have hz1 := b1.size
    simp at hz1
    have HB := zh (B0.trans (b1.mono (by simp)))
    have hlt : w.heap.size < w1.heap.size := by omega
    clear b1
    go_wp2
    exact bodyPost_ret (v := .tuple #[.agg #[.int .i64 (k : Int), .int .i64 0, .string t], .int .i64 (m : Int)]) (by simp [results, Tryz.results43, go_sem, hc1]) rfl ⟨rfl, ((HB.out.setCell (Nat.le_refl _) _).setCell (Nat.le_refl _) _).setCell (Nat.le_refl _) _⟩
end Go.Proofs.YtbcemjhaecelnaaGreatDoor
end
section
namespace Go.Proofs.YtbcemjhaecelnaaGreatDoor
open Go.RowKit
def encT (x : Wd) : List Value := [.int .i64 (x.1 : Nat), .int .i64 (x.2.1 : Nat), .string ⟨x.2.2.toArray⟩]
def zcU (xs : List Wd) : List Value := xs.flatMap encT
theorem zeY (xs : List Wd) (x : Wd) : zcU (xs ++ [x]) = zcU xs ++ encT x := by simp [zcU]
theorem zgZ : (Tryz.prog.info? 78).map (fun i => (i.zero, i.size, i.bytes)) = some (some (.agg #[.int .i64 0, .int .i64 0, .string ⟨#[]⟩]), 3, 32) := by kernel_rfl
theorem tcells_3 (w : World) (a b c : Value) (t : TypeId) : ∀ j u, [a, b, c][j]? = some u -> (w.alloc (.cells #[a, b, c] t)).cell? ((⟨w.heap.size, 0, none⟩ : Addr).add j) = some u := by
 intro j u hj
 match j, hj with
 | 0, hj => simp at hj; subst hj; simp [Addr.add]
 | 1, hj => simp at hj; subst hj; simp [Addr.add]
 | 2, hj => simp at hj; subst hj; simp [Addr.add]
 | j + 3, hj => simp at hj
theorem zha (w : World) (o : Obj) (a b c : Value) (t : TypeId) : ∀ j u, [a, b, c][j]? = some u -> ((w.alloc o).alloc (.cells #[a, b, c] t)).cell? ((⟨w.heap.size + 1, 0, none⟩ : Addr).add j) = some u := by
 intro j u hj
 have := tcells_3 (w.alloc o) a b c t j u hj
 simpa using this
theorem zi2 (a b : Int) (c : ByteArray) : ∀ v ∈ [Value.int .i64 a, Value.int .i64 b, Value.string c], v.oneCell' = true := by
 intro v hv; simp at hv; rcases hv with rfl | rfl | rfl <;> rfl
theorem own_iter {w : World} {base : Nat} {e : TypeId} {size : Nat} {v : Value} {n : Nat} {xs : List Value} (h : w.ownsRow base e size v n xs) {k : Nat} (hk : k < base) (s : ByteArray) (p : Nat) : (w.iterAt k s p).ownsRow base e size v n xs := by
 obtain ⟨h1, h2⟩ := h
 refine ⟨h1, ?_⟩
 rcases h2 with h2 | ⟨g, cap, cur, a, b, c, d⟩
 ·exact .inl h2
 ·exact .inr ⟨g, cap, cur, a, b, by rw [Lib.iterAt_other _ _ _ _ _ (by omega)]; exact c, d⟩
theorem own_below {w w' : World} {B e size n : Nat} {v : Value} {xs : List Value} (h : w.ownsRow B e size v n xs) (hb : Below w.heap.size w w') : w'.ownsRow B e size v n xs :=
 h.kept (row := none) ⟨hb.os, hb.tape, hb.output, hb.size, fun k hk _ => hb.block k hk⟩ (by cases hv : v.ownBlock <;> simp)
def zaU (B : Nat) (l : List UInt8) (e : Ending) (w' : World) : Prop :=
 if 600 < l.length then e = .returned (.tuple #[.slice none 0 0, .int .i64 1])
 else match lexL l with
  | none => e = .returned (.tuple #[.slice none 0 0, .int .i64 2])
  | some ws => ∃ v, e = .returned (.tuple #[v, .int .i64 0]) /\ w'.ownsRow B 78 3 v ws.length (zcU ws)
theorem zdr (s : ByteArray) (w : World) (h : Env w) (hs : s.size <= maxLen) :
 Calls Tryz.prog 18 #[.string s] w fun e w' => zaU (w.heap.size + 1) s.data.toList e w' /\ Below w.heap.size w w' := by
 unfold maxLen at hs
 have hz : s.data.toList.length = s.size := by rw [<- Lib.size_eq]
 by_cases hbig : 600 < s.size
 ·have i1 : (600 : Int) < s.size := by omega
  have H2 := zh (show 600 < s.data.toList.length by omega)
  clear hbig hz h
  go_enter Tryz.func18, Tryz.ntmps18
  go_wp2
  go_ret2
  exact ⟨by unfold zaU; rw [if_pos H2.out]; rfl, Below.refl _ _⟩
 ·have hsm : (s.size : Int) <= 600 := by omega
  have HE := zh (show ∀ B e w', (match lexL s.data.toList with
   | none => e = .returned (.tuple #[.slice none 0 0, .int .i64 2])
   | some ws => ∃ v, e = .returned (.tuple #[v, .int .i64 0]) /\ w'.ownsRow B 78 3 v ws.length (zcU ws)) -> zaU B s.data.toList e w' by
   intro B e w' h; unfold zaU; rw [if_neg (by omega)]; exact h)
  have HEnv := zh h
  have HZ := zh hz
  clear hs hbig hz h
  obtain ⟨i0, hi, hz0, hz1, hz2⟩ := info_parts zgZ
  go_enter Tryz.func18, Tryz.ntmps18
  go_wp2
  go_loopw [4, 5] (fun v4 v5 wr => ∃ (pos q next : Nat) (ws : List Wd), v5 = .int .i64 next /\ wr.heap[w.heap.size]? = some (.stringIter s pos) /\ Hid (Below w.heap.size w wr) /\ wr.ownsRow (w.heap.size + 1) 78 3 v4 ws.length (zcU ws)
   /\ Hid ((zbr q (s.data.toList.drop q)).map (ws ++ ·) = lexL s.data.toList) /\ pos <= q /\ Hid (Bd (s.data.toList.drop pos) (q - pos)) /\ ((next <= pos /\ q = pos) \/ next = q) /\ ws.length <= q /\ q <= s.size) (fun _ _ wr => s.size - wr.iterPos w.heap.size)
  case atStart => exact ⟨0, 0, 0, [], rfl, World.iter_heap w s 0, (Below.refl _ _).alloc (Nat.le_refl _) _, World.ownsRow_nil _ _ _ _, (by show _ = _; rw [zg5, List.drop_zero]; cases zbr 0 s.data.toList <;> simp), Nat.le_refl _, .zero _, .inr rfl, Nat.le_refl _, Nat.zero_le _⟩
  case round =>
   obtain ⟨pos, q, next, ws, rfl, hit, HB, hown, H, hpq, HD, hnq, hwq, hqs⟩ := hrel
   have hpos0 := zac hit
   by_cases hp : pos < s.size
   ·have hnx : ∀ ty, (Instr.next (.pointer (some ⟨w.heap.size, 0, none⟩)) true ty).run Tryz.prog wr = _ := fun ty => Lib.run_next_any_at wr w.heap.size s pos ty hit hp
    have hwd := zbT s pos
    have hwl := zbm hp
    have hit2 := Lib.iterAt_heap wr w.heap.size s pos (pos + (Utf8.decode s pos).2) hit
    have HB2 := zh (Lib.below_iterAt HB.out (k := w.heap.size) (Nat.le_refl _) s (pos + (Utf8.decode s pos).2))
    have hown2 := own_iter hown (k := w.heap.size) (by omega) s (pos + (Utf8.decode s pos).2)
    by_cases hlt : pos < next
    ·have hqn : next = q := by omega
     subst hqn
     have hlt2 : (pos : Int) < next := by omega
     obtain ⟨_, g2, g3⟩ := HD.out.ge (by omega)
     unfold zak at g2 g3
     rw [Lib.decodeL_drop] at g2 g3
     rw [List.drop_drop] at g3
     have HD2 := zh (show Bd (s.data.toList.drop (pos + (Utf8.decode s pos).2)) (next - (pos + (Utf8.decode s pos).2)) by
      rw [show next - (pos + (Utf8.decode s pos).2) = next - pos - (Utf8.decode s pos).2 by omega]; exact g3)
     clear g3 HD
     go_wp2
     go_roundw
     case rel => exact ⟨pos + (Utf8.decode s pos).2, next, next, ws, rfl, hit2, HB2, hown2, H, by omega, HD2, .inr rfl, hwq, hqs⟩
     case measure => rw [zac hit2, hpos0]; omega
    ·by_cases hk : zaj ((Utf8.decode s pos).1 : Int) = 3
     ·have hqp : q = pos := by omega
      subst hqp
      have hge : ((q : Int) < next) = False := by simp; omega
      have hw1 : (Utf8.decode s q).2 = 1 := by
       have e : decide (rune (s.data.toList.drop q) < 128) = true := by
        unfold rune; rw [Lib.decodeL_drop]
        unfold zaj at hk
        repeat' split at hk
        all_goals first | (exfalso; omega) | (simp; omega)
       have e2 : rune (s.data.toList.drop q) < 128 := of_decide_eq_true e
       have hne := za6 hp
       rw [<- Lib.decodeL_drop]
       unfold rune at e2
       cases hx : s.data.toList.drop q with
       | nil => exact absurd hx hne
       | cons c u =>
         rw [hx] at e2
         by_cases hc : c.toNat < 128
         ·rw [zbq c u hc]
         ·have := zeb c u (by omega); omega
      have H2 := zh (show (zbr (q + 1) (s.data.toList.drop (q + 1))).map (ws ++ ·) = lexL s.data.toList by
       rw [<- H.out, zbM q (za6 hp) (by unfold rune; rw [Lib.decodeL_drop]; exact hk), List.drop_drop])
      rw [hw1] at hnx hit2 HB2 hown2 hwl
      clear H HD
      go_wp2_with (go_at_call 42; refine (zb2 _ _).mono ?_; rintro e w' ⟨rfl, rfl⟩)
      go_roundw
      case rel => exact ⟨q + 1, q + 1, next, ws, rfl, hit2, HB2, hown2, H2, Nat.le_refl _, by show Bd _ _; rw [Nat.sub_self]; exact .zero _, .inl ⟨by omega, rfl⟩, by omega, hwl⟩
      case measure => rw [zac hit2, hpos0]; omega
     ·cases hf : zam (s.data.toList.drop pos) with
      | none =>
        have hqp : q = pos := by omega
        subst hqp
        have hge : ((q : Int) < next) = False := by simp; omega
        have HF := zh (fun W (hb : Below w.heap.size w W) => (zga ((Utf8.decode s q).1 : Int) (s.extract q s.size) (by rw [zaF]; unfold rune; rw [Lib.decodeL_drop]) (by rw [zaF]; exact za6 hp) W (HEnv.out.below hb) (by rw [ByteArray.size_extract]; omega)).mono (R' := fun e w' => e = .returned (.tuple #[.agg #[.int .i64 0, .int .i64 0, .string ⟨#[]⟩], .int .i64 0]) /\ Below W.heap.size W w') (fun e w' ⟨h1, h2⟩ => ⟨by rw [h1, zaF, hf]; rfl, h2⟩))
        have H2 := zh (show lexL s.data.toList = none by
         rw [<- H.out, zcg q (za6 hp) (by unfold rune; rw [Lib.decodeL_drop]; exact hk) hf]; rfl)
        have hkk : (zaj ((Utf8.decode s q).1 : Int) == 3) = false := by simp [hk]
        clear hf H HD hk
        obtain ⟨W1, hW1⟩ : ∃ W1, W1 = wr.iterAt w.heap.size s (q + (Utf8.decode s q).2) := ⟨_, rfl⟩
        rw [<- hW1] at hnx hit2 HB2 hown2
        have hBlt : w.heap.size < W1.heap.size := (Array.getElem?_eq_some_iff.1 hit2).1
        clear hW1 hit hown HB
        go_wp2_with (go_at_call 42; refine (zb2 _ _).mono ?_; rintro e w' ⟨rfl, rfl⟩)
        refine (HF.out _ HB2.out).mono ?_
        rintro e w2 ⟨rfl, b2⟩
        have HB3 := zh (HB2.out.trans (b2.mono (by omega)))
        have hBlt2 : w.heap.size < w2.heap.size := by have := b2.size; omega
        clear b2
        go_wp2
        go_ret2
        refine ⟨HE.out _ _ _ ?_, HB3.out.alloc (by omega) _⟩
        rw [H2.out]
        rfl
      | some t =>
        obtain ⟨k, tx, n⟩ := t
        have hqp : q = pos := by omega
        subst hqp
        have hge : ((q : Int) < next) = False := by simp; omega
        have HF := zh (fun W (hb : Below w.heap.size w W) => (zga ((Utf8.decode s q).1 : Int) (s.extract q s.size) (by rw [zaF]; unfold rune; rw [Lib.decodeL_drop]) (by rw [zaF]; exact za6 hp) W (HEnv.out.below hb) (by rw [ByteArray.size_extract]; omega)).mono (R' := fun e w' => e = .returned (.tuple #[.agg #[.int .i64 (k : Nat), .int .i64 0, .string ⟨tx.toArray⟩], .int .i64 (n : Nat)]) /\ Below W.heap.size W w') (fun e w' ⟨h1, h2⟩ => ⟨by rw [h1, zaF, hf]; rfl, h2⟩))
        have hn := zb5 (za6 hp) hf
        have hn1 : 1 <= n := hn.1
        have hn2 : q + n <= s.size := by have := hn.2.1; rw [List.length_drop, HZ.out] at this; show q + n <= _; have h3 : n <= s.size - q := this; omega
        have HD2 := zh hn.2.2
        have HT := zh (show zbr q (s.data.toList.drop q) = (zbr (q + n) (s.data.toList.drop (q + n))).map ((k, q, tx) :: ·) by
         rw [zc6 q (za6 hp) (by unfold rune; rw [Lib.decodeL_drop]; exact hk) hf, List.drop_drop])
        have hkk : (zaj ((Utf8.decode s q).1 : Int) == 3) = false := by simp [hk]
        clear hn hf
        obtain ⟨W1, hW1⟩ : ∃ W1, W1 = wr.iterAt w.heap.size s (q + (Utf8.decode s q).2) := ⟨_, rfl⟩
        rw [<- hW1] at hnx hit2 HB2 hown2
        have hBlt : w.heap.size < W1.heap.size := (Array.getElem?_eq_some_iff.1 hit2).1
        clear hW1 hit hown HB hk
        go_wp2_with (go_at_call 42; refine (zb2 _ _).mono ?_; rintro e w' ⟨rfl, rfl⟩)
        refine (HF.out _ HB2.out).mono ?_
        rintro e w2 ⟨rfl, b2⟩
        have HB3 := zh (HB2.out.trans (b2.mono (by omega)))
        have hown3 := own_below hown2 b2
        have hit3 : w2.heap[w.heap.size]? = some (.stringIter s (q + (Utf8.decode s q).2)) := (b2.block _ hBlt).trans hit2
        have hBlt2 : w.heap.size < w2.heap.size := by have := b2.size; omega
        clear b2
        go_wp2_with (at_builtin; go_must (refine wpList_append_own _ rfl _ _ 42 rfl (w.heap.size + 1) 78 i0 (.agg #[.int .i64 0, .int .i64 0, .string ⟨#[]⟩]) 3 32 Tryz.underlying42 hi hz0 hz1 hz2 rfl (by decide) _ _ _ rfl ((hown3.alloc _).alloc _) ⟨w2.heap.size + 1, 0, none⟩ 1 1 [.int .i64 (k : Nat), .int .i64 (q : Nat), .string ⟨tx.toArray⟩] rfl rfl (zha _ _ _ _ _ _) (zi2 _ _ _) (by unfold maxLen; omega) (by omega) (by simp; omega) ?_); intro v' w3 hown' hgrow3 hnil3)
        have hlt3 : ∀ j, v'.ownBlock = some j -> True := fun _ _ => trivial
        have hit4 : w3.heap[w.heap.size]? = some (.stringIter s (q + (Utf8.decode s q).2)) := by
         rw [hgrow3.block w.heap.size (by simp; omega) (fun h => by have := (hown3.lt _ h.symm).1; omega), Below.heap_alloc _ _ _ (by simp; omega), Below.heap_alloc _ _ _ hBlt2]; exact hit3
        have HB4 := zh (show Below w.heap.size w w3 from Below.grown ((HB3.out.alloc (by omega) _).alloc (by simp; omega) _) hgrow3 (by simp; omega) (fun j hj => by have := (hown3.lt _ hj).1; omega))
        have ho4 : w3.ownsRow (w.heap.size + 1) 78 3 v' (ws ++ [(k, q, tx)]).length (zcU (ws ++ [(k, q, tx)])) := by
         rw [List.length_append, zeY]; exact hown'
        have H3 := zh (show (zbr (q + n) (s.data.toList.drop (q + n))).map ((ws ++ [(k, q, tx)]) ++ ·) = lexL s.data.toList by
         rw [<- H.out, HT.out]
         cases zbr (q + n) (s.data.toList.drop (q + n)) <;> simp)
        have HD3 := zh (show Bd (s.data.toList.drop (q + (Utf8.decode s q).2)) (q + n - (q + (Utf8.decode s q).2)) /\ (Utf8.decode s q).2 <= n by
         obtain ⟨_, h2, h3⟩ := HD2.out.ge (by omega)
         unfold zak at h2 h3
         rw [Lib.decodeL_drop] at h2 h3
         rw [List.drop_drop] at h3
         refine ⟨?_, h2⟩
         rw [show q + n - (q + (Utf8.decode s q).2) = n - (Utf8.decode s q).2 by omega]; exact h3)
        have hwn := HD3.out.2
        clear hown' hgrow3 hnil3 hown3
        go_roundw
        case rel => exact ⟨q + (Utf8.decode s q).2, q + n, q + n, ws ++ [(k, q, tx)], by go_num, hit4, HB4, ho4, H3, by omega, HD3.out.1, .inr rfl, by rw [List.length_append]; simp; omega, hn2⟩
        case measure => rw [zac hit4, hpos0]; omega
   ·have hnx : ∀ ty, (Instr.next (.pointer (some ⟨w.heap.size, 0, none⟩)) true ty).run Tryz.prog wr = _ := fun ty => Lib.run_next_end_at wr w.heap.size s pos ty hit hp
    have hl := HD.out.le
    rw [zaH hp] at hl
    simp at hl
    have H2 := zh (show lexL s.data.toList = some ws by
     rw [<- H.out, show q = pos by omega, zaH hp, zfV]; simp)
    clear H HD hl
    go_wp2
    go_ret2
    refine ⟨HE.out _ _ _ ?_, HB.out⟩
    rw [H2.out]
    exact ⟨_, rfl, hown⟩
end Go.Proofs.YtbcemjhaecelnaaGreatDoor
end
end
