/- A walk (lex): the first token of a text. -/
import Derived.Test.YtphkodkenkiecaaGreatDoorJj
namespace Go.Proofs.YtphkodkenkiecaaGreatDoor
open Go.RowKit

theorem digits_one {l : List UInt8} (hne : l ≠ []) (h : kindZ (rune l) = 2) : 1 ≤ digitsL (l.take (chainL l)) := by
  have hp := chain_pos hne (.inr h)
  cases l with
  | nil => exact absurd rfl hne
  | cons c u =>
    obtain ⟨k, hk⟩ : ∃ k, chainL (c :: u) = k + 1 := ⟨chainL (c :: u) - 1, by omega⟩
    rw [hk, List.take_succ_cons]
    unfold digitsL
    rw [List.takeWhile_cons, if_pos (show digB c = true from (kind_two _ hne).1 h)]; simp

set_option maxHeartbeats 2000000 in
set_option maxRecDepth 100000 in
theorem first_any (r : Int) (s : ByteArray) (hr : rune s.data.toList = r) (hne : s.data.toList ≠ []) (w : World) (h : Env w) (hs : s.size ≤ 274877906944) : Calls Tryz.prog 13 #[.int .i32 r, .string s] w fun e w' => e = .returned (tokV (firstL s.data.toList)) ∧ Below w.heap.size w w' := by
  have hz : s.data.toList.length = s.size := by rw [← Lib.size_eq]
  have hcl := chainL_le s.data.toList
  rw [hz] at hcl
  have HC := Lib.hid (fun W => chain_any s W (by unfold maxLen; omega))
  have hs2 : (s.size : Int) ≤ 274877906944 := by omega
  have B0 : Below w.heap.size w (w.alloc (.cells #[.int .i64 0, .int .i64 0, .string ⟨#[]⟩] 45)) := (Below.refl _ _).alloc (Nat.le_refl _) _
  by_cases k1 : kindZ r = 1
  · have hf : firstL s.data.toList = if nameB (s.data.toList.take (chainL s.data.toList)) = true then some (1, s.data.toList.take (chainL s.data.toList), chainL s.data.toList) else none := by unfold firstL; rw [hr, if_pos k1]
    have HW := Lib.hid (fun W => word_any (s.extract 0 (chainL s.data.toList)) W (by rw [ByteArray.size_extract]; omega))
    have hsz : (s.extract 0 (chainL s.data.toList)).size = chainL s.data.toList := by rw [ByteArray.size_extract]; omega
    rw [ext_take, hsz] at HW
    rw [hf]
    generalize (if nameB (s.data.toList.take (chainL s.data.toList)) = true then some (1, s.data.toList.take (chainL s.data.toList), chainL s.data.toList) else none) = o at HW ⊢
    generalize chainL s.data.toList = n at *
    have hn2 : (n : Int) ≤ s.size := by omega
    clear hf hsz hcl hs hz hr hne
    obtain ⟨k, t, m, ho⟩ : ∃ k t m, tokV o = .tuple #[.agg #[.int .i64 (k : Int), .int .i64 0, .string t], .int .i64 (m : Int)] := by cases o <;> exact ⟨_, _, _, rfl⟩
    rw [ho] at HW ⊢
    clear ho
    go_enter Tryz.func13, Tryz.ntmps13
    go_wp2_with (go_at_call 12; refine (kind_any _ _).mono ?_; rintro e w' ⟨rfl, rfl⟩)
    refine (HC.out _).mono ?_
    rintro e w1 ⟨rfl, b1⟩
    obtain ⟨hc1, hf1⟩ := kcell b1
    have hz1 := b1.size
    simp at hz1
    have HB := Lib.hid (B0.trans (b1.mono (by simp)))
    have hlt : w.heap.size < w1.heap.size := by omega
    clear b1
    go_wp2_with fail
    refine (HW.out _).mono ?_
    rintro e w2 ⟨rfl, b2⟩
    obtain ⟨hc2, hf2⟩ := kcell b2
    have hz2 := b2.size
    have HB2 := Lib.hid (HB.out.trans (b2.mono (by omega)))
    clear b2
    go_wp2
    exact bodyPost_ret (v := .tuple #[.agg #[.int .i64 (k : Int), .int .i64 0, .string t], .int .i64 (m : Int)]) (by simp [results, Tryz.results13, go_sem, hc1, hc2, hlt]) rfl ⟨rfl, ((HB2.out.setCell (Nat.le_refl _) _).setCell (Nat.le_refl _) _).setCell (Nat.le_refl _) _⟩
  · by_cases k2 : kindZ r = 2
    · have hf : firstL s.data.toList = numL (s.data.toList.take (chainL s.data.toList)) := by unfold firstL; rw [hr, if_neg k1, if_pos k2]
      have HW := Lib.hid (fun W (hb : Below w.heap.size w W) => number_any (s.extract 0 (chainL s.data.toList)) W (h.below hb) (by rw [ByteArray.size_extract]; omega) (by rw [ext_take]; exact digits_one hne (by rw [hr]; exact k2)))
      rw [ext_take] at HW
      rw [hf]
      generalize numL (s.data.toList.take (chainL s.data.toList)) = o at HW ⊢
      generalize chainL s.data.toList = n at *
      have hn2 : (n : Int) ≤ s.size := by omega
      clear hf hcl hs hz hr hne k1 h
      obtain ⟨k, t, m, ho⟩ : ∃ k t m, tokV o = .tuple #[.agg #[.int .i64 (k : Int), .int .i64 0, .string t], .int .i64 (m : Int)] := by cases o <;> exact ⟨_, _, _, rfl⟩
      rw [ho] at HW ⊢
      clear ho
      go_enter Tryz.func13, Tryz.ntmps13
      go_wp2_with (go_at_call 12; refine (kind_any _ _).mono ?_; rintro e w' ⟨rfl, rfl⟩)
      refine (HC.out _).mono ?_
      rintro e w1 ⟨rfl, b1⟩
      obtain ⟨hc1, hf1⟩ := kcell b1
      have hz1 := b1.size
      simp at hz1
      have HB := Lib.hid (B0.trans (b1.mono (by simp)))
      have hlt : w.heap.size < w1.heap.size := by omega
      clear b1
      go_wp2_with fail
      refine (HW.out _ HB.out).mono ?_
      rintro e w2 ⟨rfl, b2⟩
      obtain ⟨hc2, hf2⟩ := kcell b2
      have hz2 := b2.size
      have HB2 := Lib.hid (HB.out.trans (b2.mono (by omega)))
      clear b2
      go_wp2
      exact bodyPost_ret (v := .tuple #[.agg #[.int .i64 (k : Int), .int .i64 0, .string t], .int .i64 (m : Int)]) (by simp [results, Tryz.results13, go_sem, hc1, hc2, hlt]) rfl ⟨rfl, ((HB2.out.setCell (Nat.le_refl _) _).setCell (Nat.le_refl _) _).setCell (Nat.le_refl _) _⟩
    · by_cases k3 : r = 34
      · subst k3
        have hf : firstL s.data.toList = (unquoteL (s.data.toList.take (closeL s.data.toList))).map fun t => (3, t, closeL s.data.toList) := by
          unfold firstL
          rw [hr, if_neg k1, if_neg k2, if_pos rfl]
          cases unquoteL (s.data.toList.take (closeL s.data.toList)) <;> rfl
        have HK := Lib.hid (fun W => closed_any s W (by unfold maxLen; omega))
        have hcl2 : closeL s.data.toList ≤ s.size := by
          by_cases h0 : closeL s.data.toList = 0
          · omega
          · have := (close_bd h0).2.1; omega
        have hsz : (s.extract 0 (closeL s.data.toList)).size = closeL s.data.toList := by rw [ByteArray.size_extract]; omega
        have HW := Lib.hid (fun W (hb : Below w.heap.size w W) => quoted_any (s.extract 0 (closeL s.data.toList)) W (h.below hb) (by rw [ByteArray.size_extract]; omega))
        rw [ext_take, hsz] at HW
        rw [hf]
        generalize Option.map (fun t => ((3 : Nat), t, closeL s.data.toList)) (unquoteL (s.data.toList.take (closeL s.data.toList))) = o at HW ⊢
        generalize closeL s.data.toList = n at *
        have hn2 : (n : Int) ≤ s.size := by omega
        have k4 : kindZ 34 = 4 := by decide
        clear hf hcl hcl2 hsz hs hz hr hne k1 k2 h HC
        obtain ⟨k, t, m, ho⟩ : ∃ k t m, tokV o = .tuple #[.agg #[.int .i64 (k : Int), .int .i64 0, .string t], .int .i64 (m : Int)] := by cases o <;> exact ⟨_, _, _, rfl⟩
        rw [ho] at HW ⊢
        clear ho
        go_enter Tryz.func13, Tryz.ntmps13
        go_wp2_with (go_at_call 12; refine (kind_any _ _).mono ?_; rintro e w' ⟨rfl, rfl⟩)
        refine (HK.out _).mono ?_
        rintro e w1 ⟨rfl, b1⟩
        obtain ⟨hc1, hf1⟩ := kcell b1
        have hz1 := b1.size
        simp at hz1
        have HB := Lib.hid (B0.trans (b1.mono (by simp)))
        have hlt : w.heap.size < w1.heap.size := by omega
        clear b1
        go_wp2_with fail
        refine (HW.out _ HB.out).mono ?_
        rintro e w2 ⟨rfl, b2⟩
        obtain ⟨hc2, hf2⟩ := kcell b2
        have hz2 := b2.size
        have HB2 := Lib.hid (HB.out.trans (b2.mono (by omega)))
        clear b2
        go_wp2
        exact bodyPost_ret (v := .tuple #[.agg #[.int .i64 (k : Int), .int .i64 0, .string t], .int .i64 (m : Int)]) (by simp [results, Tryz.results13, go_sem, hc1, hc2, hlt]) rfl ⟨rfl, ((HB2.out.setCell (Nat.le_refl _) _).setCell (Nat.le_refl _) _).setCell (Nat.le_refl _) _⟩
      · have hf : firstL s.data.toList = signL s.data.toList := by unfold firstL; rw [hr, if_neg k1, if_neg k2, if_neg k3]
        have HW := Lib.hid (fun W (_ : Below w.heap.size w W) => sign_any s W hs)
        rw [hf]
        generalize signL s.data.toList = o at HW ⊢
        have k4 : (kindZ r == 1) = false := by simp [k1]
        have k5 : (kindZ r == 2) = false := by simp [k2]
        have k6 : (r == 34) = false := by simp [k3]
        clear hf hcl hs hz hr hne k1 k2 k3 h HC
        obtain ⟨k, t, m, ho⟩ : ∃ k t m, tokV o = .tuple #[.agg #[.int .i64 (k : Int), .int .i64 0, .string t], .int .i64 (m : Int)] := by cases o <;> exact ⟨_, _, _, rfl⟩
        rw [ho] at HW ⊢
        clear ho
        go_enter Tryz.func13, Tryz.ntmps13
        go_wp2_with (go_at_call 12; refine (kind_any _ _).mono ?_; rintro e w' ⟨rfl, rfl⟩)
        refine (HW.out _ B0).mono ?_
        rintro e w1 ⟨rfl, b1⟩
        obtain ⟨hc1, hf1⟩ := kcell b1
        have hz1 := b1.size
        simp at hz1
        have HB := Lib.hid (B0.trans (b1.mono (by simp)))
        have hlt : w.heap.size < w1.heap.size := by omega
        clear b1
        go_wp2
        exact bodyPost_ret (v := .tuple #[.agg #[.int .i64 (k : Int), .int .i64 0, .string t], .int .i64 (m : Int)]) (by simp [results, Tryz.results13, go_sem, hc1, hlt]) rfl ⟨rfl, ((HB.out.setCell (Nat.le_refl _) _).setCell (Nat.le_refl _) _).setCell (Nat.le_refl _) _⟩
end Go.Proofs.YtphkodkenkiecaaGreatDoor
