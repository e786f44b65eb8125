/- Walks (lex): letters and digits, digits, where a quotation ends, units. -/
import Derived.Test.YtphkodkenkiecaaGreatDoorJe
namespace Go.Proofs.YtphkodkenkiecaaGreatDoor
open Go.RowKit

theorem ofInt {a b : Int} (h : a = b) : Value.int .i64 a = .int .i64 b := by rw [h]
theorem chain_at {s : ByteArray} {pos : Nat} (h : pos < s.size) : chainL (s.data.toList.drop pos) = if kindZ ((Utf8.decode s pos).1 : Int) = 1 ∨ kindZ ((Utf8.decode s pos).1 : Int) = 2 then (Utf8.decode s pos).2 + chainL (s.data.toList.drop (pos + (Utf8.decode s pos).2)) else 0 := by
  rw [chainL_step _ (drop_ne h)]
  unfold wordy rune wideL
  rw [Lib.decodeL_drop, List.drop_drop]
  simp only [decide_eq_true_eq]
theorem chain_end {s : ByteArray} {pos : Nat} (h : ¬ pos < s.size) : chainL (s.data.toList.drop pos) = 0 := by rw [drop_end h]; rfl

set_option maxHeartbeats 1000000 in
set_option maxRecDepth 100000 in
theorem chain_any (s : ByteArray) (w : World) (hs : s.size ≤ maxLen) : Calls Tryz.prog 59 #[.string s] w fun e w' => e = .returned (.int .i64 (chainL s.data.toList : Nat)) ∧ Below w.heap.size w w' := by
  unfold maxLen at hs
  go_enter Tryz.func59, Tryz.ntmps59
  go_wp2
  go_loopw [3] (fun _ wr => ∃ (pos : Nat), wr.heap[w.heap.size]? = some (.stringIter s pos) ∧ Below w.heap.size w wr ∧ Hid (pos + chainL (s.data.toList.drop pos) = chainL s.data.toList) ∧ pos ≤ s.size) (fun _ wr => s.size - wr.iterPos w.heap.size)
  case atStart => exact ⟨0, World.iter_heap w s 0, (Below.refl _ _).alloc (Nat.le_refl _) _, (by show _ = _; simp), Nat.zero_le _⟩
  case round =>
    obtain ⟨pos, hit, hbw, H, hps⟩ := hrel
    have hpos0 := iterPos_of hit
    by_cases hp : pos < s.size
    · have hnx : ∀ ty, (Instr.next (.pointer (some ⟨w.heap.size, 0, none⟩)) true ty).run Tryz.prog wr = _ := fun ty => Lib.run_next_any_at wr w.heap.size s pos ty hit hp
      have hwd := width1 s pos
      have hwl := width_le hp
      have hit2 := Lib.iterAt_heap wr w.heap.size s pos (pos + (Utf8.decode s pos).2) hit
      have hbw2 := Lib.below_iterAt hbw (k := w.heap.size) (Nat.le_refl _) s (pos + (Utf8.decode s pos).2)
      have H0 := Lib.hid (chain_at hp)
      go_wp2_with (go_at_call 12; refine (kind_any _ _).mono ?_; rintro e w' ⟨rfl, rfl⟩)
      all_goals try (simp only [beq_iff_eq, beq_eq_false_iff_ne, bne_iff_ne, bne_eq_false_iff_eq, ne_eq] at *)
      all_goals first
        | (go_ret
           exact ⟨ret_int (by have h1 := H0.out; rw [if_neg (by omega)] at h1; rw [← H.out, h1]; simp), hbw2⟩)
        | (go_roundw
           case rel => exact ⟨pos + (Utf8.decode s pos).2, hit2, hbw2, (by show _ = _; have h1 := H0.out; rw [if_pos (by omega)] at h1; rw [← H.out, h1]; omega), hwl⟩
           case measure => rw [iterPos_of hit2, hpos0]; omega)
        | (exfalso; omega)
    · have hnx : ∀ ty, (Instr.next (.pointer (some ⟨w.heap.size, 0, none⟩)) true ty).run Tryz.prog wr = _ := fun ty => Lib.run_next_end_at wr w.heap.size s pos ty hit hp
      have H2 : Hid (s.size = chainL s.data.toList) := by
        show _ = _
        rw [← H.out, chain_end hp]; omega
      go_wp2
      go_ret
      exact ⟨ret_int (by rw [← H2.out]), hbw⟩

theorem digits_at {s : ByteArray} {pos : Nat} (h : pos < s.size) : digitsL (s.data.toList.drop pos) = if kindZ ((Utf8.decode s pos).1 : Int) = 2 then (Utf8.decode s pos).2 + digitsL (s.data.toList.drop (pos + (Utf8.decode s pos).2)) else 0 := by
  have hne := drop_ne h
  rw [digitsL_step _ hne]
  have e : rune (s.data.toList.drop pos) = ((Utf8.decode s pos).1 : Int) := by unfold rune; rw [Lib.decodeL_drop]
  rw [e]
  by_cases hk : kindZ ((Utf8.decode s pos).1 : Int) = 2
  · have hw := digit_wide _ hne ((kind_two _ hne).1 (by rw [e]; exact hk))
    unfold wideL at hw
    rw [Lib.decodeL_drop] at hw
    rw [if_pos hk, if_pos hk, hw, List.drop_drop]
  · rw [if_neg hk, if_neg hk]
theorem digits_end {s : ByteArray} {pos : Nat} (h : ¬ pos < s.size) : digitsL (s.data.toList.drop pos) = 0 := by rw [drop_end h]; rfl

set_option maxHeartbeats 1000000 in
set_option maxRecDepth 100000 in
theorem digits_any (s : ByteArray) (w : World) (hs : s.size ≤ maxLen) : Calls Tryz.prog 88 #[.string s] w fun e w' => e = .returned (.int .i64 (digitsL s.data.toList : Nat)) ∧ Below w.heap.size w w' := by
  unfold maxLen at hs
  go_enter Tryz.func88, Tryz.ntmps88
  go_wp2
  go_loopw [3] (fun _ wr => ∃ (pos : Nat), wr.heap[w.heap.size]? = some (.stringIter s pos) ∧ Below w.heap.size w wr ∧ Hid (pos + digitsL (s.data.toList.drop pos) = digitsL s.data.toList) ∧ pos ≤ s.size) (fun _ wr => s.size - wr.iterPos w.heap.size)
  case atStart => exact ⟨0, World.iter_heap w s 0, (Below.refl _ _).alloc (Nat.le_refl _) _, (by show _ = _; simp), Nat.zero_le _⟩
  case round =>
    obtain ⟨pos, hit, hbw, H, hps⟩ := hrel
    have hpos0 := iterPos_of hit
    by_cases hp : pos < s.size
    · have hnx : ∀ ty, (Instr.next (.pointer (some ⟨w.heap.size, 0, none⟩)) true ty).run Tryz.prog wr = _ := fun ty => Lib.run_next_any_at wr w.heap.size s pos ty hit hp
      have hwd := width1 s pos
      have hwl := width_le hp
      have hit2 := Lib.iterAt_heap wr w.heap.size s pos (pos + (Utf8.decode s pos).2) hit
      have hbw2 := Lib.below_iterAt hbw (k := w.heap.size) (Nat.le_refl _) s (pos + (Utf8.decode s pos).2)
      have H0 := Lib.hid (digits_at hp)
      go_wp2_with (go_at_call 12; refine (kind_any _ _).mono ?_; rintro e w' ⟨rfl, rfl⟩)
      all_goals try (simp only [beq_iff_eq, beq_eq_false_iff_ne, bne_iff_ne, bne_eq_false_iff_eq, ne_eq] at *)
      all_goals first
        | (go_ret
           exact ⟨ret_int (by have h1 := H0.out; rw [if_neg (by omega)] at h1; rw [← H.out, h1]; simp), hbw2⟩)
        | (go_roundw
           case rel => exact ⟨pos + (Utf8.decode s pos).2, hit2, hbw2, (by show _ = _; have h1 := H0.out; rw [if_pos (by omega)] at h1; rw [← H.out, h1]; omega), hwl⟩
           case measure => rw [iterPos_of hit2, hpos0]; omega)
        | (exfalso; omega)
    · have hnx : ∀ ty, (Instr.next (.pointer (some ⟨w.heap.size, 0, none⟩)) true ty).run Tryz.prog wr = _ := fun ty => Lib.run_next_end_at wr w.heap.size s pos ty hit hp
      have H2 : Hid (s.size = digitsL s.data.toList) := by
        show _ = _
        rw [← H.out, digits_end hp]; omega
      go_wp2
      go_ret
      exact ⟨ret_int (by rw [← H2.out]), hbw⟩

/-! ### where a quotation ends -/
theorem close_high : ∀ (xs u : List UInt8) (i : Nat), (∀ x ∈ xs, 128 ≤ x.toNat) → closeGo i false (xs ++ u) = closeGo (i + xs.length) false u :=
  fun xs u i h => close_plain xs u i fun x hx => ⟨fun e => by have := h x hx; rw [e] at this; revert this; decide, fun e => by have := h x hx; rw [e] at this; revert this; decide⟩
/-- One piece on. -/
theorem close_piece (l : List UInt8) (hne : l ≠ []) (i : Nat) (esc : Bool) : closeGo i esc l =
    if esc = true then closeGo (i + wideL l) false (l.drop (wideL l)) else if rune l = 92 then closeGo (i + wideL l) true (l.drop (wideL l))
    else if rune l = 34 ∧ 0 < i then i + 1 else closeGo (i + wideL l) false (l.drop (wideL l)) := by
  cases l with
  | nil => exact absurd rfl hne
  | cons c u =>
    by_cases hc : c.toNat < 128
    · have hd := dec_ascii c u hc
      have hr : rune (c :: u) = (c.toNat : Int) := by unfold rune; rw [hd]
      have hw : wideL (c :: u) = 1 := by unfold wideL; rw [hd]
      rw [hr, hw, closeGo, List.drop_one, List.tail_cons]
      have e1 : ((c.toNat : Int) = 92) = (c.toNat = 92) := by apply propext; omega
      have e2 : ((c.toNat : Int) = 34) = (c.toNat = 34) := by apply propext; omega
      simp only [e1, e2]
    · have h1 := dec_high c u (by omega)
      have hr : 128 ≤ rune (c :: u) := by unfold rune; omega
      have hw1 := wide_pos (c :: u)
      have hw2 := wide_le hne
      obtain ⟨k, hk⟩ : ∃ k, wideL (c :: u) = k + 1 := ⟨wideL (c :: u) - 1, by omega⟩
      have hu : closeGo (i + 1) false u = closeGo (i + (k + 1)) false (u.drop k) := by
        have hk2 : k ≤ u.length := by rw [hk, List.length_cons] at hw2; omega
        have := close_high (u.take k) (u.drop k) (i + 1) (fun x hx => by
          obtain ⟨j, hj, rfl⟩ := List.mem_iff_getElem.1 hx
          rw [List.length_take] at hj
          have := tail_high (c :: u) (j + 1) (by omega) (by omega)
          rw [List.getElem_take]
          have e : (c :: u).getD (j + 1) 0 = u[j]'(by omega) := by simp [List.getD, List.getElem?_eq_getElem (show j < u.length by omega)]
          rwa [e] at this)
        rw [List.take_append_drop, List.length_take, Nat.min_eq_left hk2] at this
        rw [this]; congr 1; omega
      rw [hk, List.drop_succ_cons, closeGo, hu, if_neg (show ¬ rune (c :: u) = 92 by omega), if_neg (show ¬ (rune (c :: u) = 34 ∧ 0 < i) by omega), if_neg (show ¬ c.toNat = 92 by omega), if_neg (show ¬ (c.toNat = 34 ∧ 0 < i) by omega)]
theorem close_at {s : ByteArray} {pos : Nat} (h : pos < s.size) (esc : Bool) : closeGo pos esc (s.data.toList.drop pos) =
    if esc = true then closeGo (pos + (Utf8.decode s pos).2) false (s.data.toList.drop (pos + (Utf8.decode s pos).2)) else if ((Utf8.decode s pos).1 : Int) = 92 then closeGo (pos + (Utf8.decode s pos).2) true (s.data.toList.drop (pos + (Utf8.decode s pos).2))
    else if ((Utf8.decode s pos).1 : Int) = 34 ∧ 0 < pos then pos + 1 else closeGo (pos + (Utf8.decode s pos).2) false (s.data.toList.drop (pos + (Utf8.decode s pos).2)) := by
  rw [close_piece _ (drop_ne h)]
  unfold rune wideL
  rw [Lib.decodeL_drop, List.drop_drop]
theorem close_end {s : ByteArray} {pos : Nat} (h : ¬ pos < s.size) (esc : Bool) : closeGo pos esc (s.data.toList.drop pos) = 0 := by rw [drop_end h]; rfl

set_option maxHeartbeats 1000000 in
set_option maxRecDepth 100000 in
theorem closed_any (s : ByteArray) (w : World) (hs : s.size ≤ maxLen) : Calls Tryz.prog 62 #[.string s] w fun e w' => e = .returned (.int .i64 (closeL s.data.toList : Nat)) ∧ Below w.heap.size w w' := by
  unfold maxLen at hs
  go_enter Tryz.func62, Tryz.ntmps62
  go_wp2
  go_loopw [3] (fun v wr => ∃ (pos : Nat) (esc : Bool), v = .bool esc ∧ wr.heap[w.heap.size]? = some (.stringIter s pos) ∧ Below w.heap.size w wr ∧ Hid (closeGo pos esc (s.data.toList.drop pos) = closeL s.data.toList) ∧ pos ≤ s.size) (fun _ wr => s.size - wr.iterPos w.heap.size)
  case atStart => exact ⟨0, false, rfl, World.iter_heap w s 0, (Below.refl _ _).alloc (Nat.le_refl _) _, (by show _ = _; simp [closeL]), Nat.zero_le _⟩
  case round =>
    obtain ⟨pos, esc, rfl, hit, hbw, H, hps⟩ := hrel
    have hpos0 := iterPos_of hit
    by_cases hp : pos < s.size
    · have hnx : ∀ ty, (Instr.next (.pointer (some ⟨w.heap.size, 0, none⟩)) true ty).run Tryz.prog wr = _ := fun ty => Lib.run_next_any_at wr w.heap.size s pos ty hit hp
      have hwd := width1 s pos
      have hwl := width_le hp
      have hit2 := Lib.iterAt_heap wr w.heap.size s pos (pos + (Utf8.decode s pos).2) hit
      have hbw2 := Lib.below_iterAt hbw (k := w.heap.size) (Nat.le_refl _) s (pos + (Utf8.decode s pos).2)
      have H0 := Lib.hid ((close_at hp esc).symm.trans H.out)
      clear H
      cases esc
      all_goals go_wp2
      all_goals try (simp only [beq_iff_eq, beq_eq_false_iff_ne, bne_iff_ne, bne_eq_false_iff_eq, ne_eq] at *)
      all_goals first
        | (go_ret
           exact ⟨ret_int (by have h1 := H0.out; rw [if_neg (by decide), if_neg (by omega), if_pos ⟨by omega, by omega⟩] at h1; rw [← h1]; simp), hbw2⟩)
        | (go_roundw
           case rel => exact ⟨pos + (Utf8.decode s pos).2, _, rfl, hit2, hbw2, (by show _ = _; have h1 := H0.out; first | (rw [if_pos trivial] at h1; exact h1) | (rw [if_pos rfl] at h1; exact h1) | (rw [if_neg (by decide), if_pos (by omega)] at h1; exact h1) | (rw [if_neg (by decide), if_neg (by omega), if_neg (by omega)] at h1; exact h1)), hwl⟩
           case measure => rw [iterPos_of hit2, hpos0]; omega)
        | (exfalso; omega)
    · have hnx : ∀ ty, (Instr.next (.pointer (some ⟨w.heap.size, 0, none⟩)) true ty).run Tryz.prog wr = _ := fun ty => Lib.run_next_end_at wr w.heap.size s pos ty hit hp
      have H2 : Hid (0 = closeL s.data.toList) := by
        show _ = _
        rw [← H.out, close_end hp]
      go_wp2
      go_ret
      exact ⟨ret_int (by rw [← H2.out]; rfl), hbw⟩
end Go.Proofs.YtphkodkenkiecaaGreatDoor
