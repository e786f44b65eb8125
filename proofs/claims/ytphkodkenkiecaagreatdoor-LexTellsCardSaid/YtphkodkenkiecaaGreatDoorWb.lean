/- Walks: whether a text is a name. -/
import Derived.Test.YtphkodkenkiecaaGreatDoorWa
namespace Go.Proofs.YtphkodkenkiecaaGreatDoor
open Go.RowKit

def nameGo : Nat → List Int → Bool
  | n, [] => decide (0 < n)
  | n, r :: rs => if n = 30 ∨ (kindZ r ≠ 1 ∧ (kindZ r ≠ 2 ∨ n = 0)) then false else nameGo (n + 1) rs
def nameB (l : List UInt8) : Bool := nameGo 0 (spell l)

theorem spell_at {s : ByteArray} {pos : Nat} (h : pos < s.size) : spell (s.data.toList.drop pos) = ((Utf8.decode s pos).1 : Int) :: spell (s.data.toList.drop (pos + (Utf8.decode s pos).2)) := by
  unfold spell
  rw [sufs_at h, List.map_cons]
  unfold rune
  rw [Lib.decodeL_drop]
theorem spell_end {s : ByteArray} {pos : Nat} (h : ¬ pos < s.size) : spell (s.data.toList.drop pos) = [] := by rw [drop_end h]; rfl
theorem ret_bool {a b : Bool} (h : a = b) : Ending.returned (.bool a) = .returned (.bool b) := by rw [h]

theorem name_bad (k : Nat) (r : Int) (rs : List Int) (h : k = 30 ∨ (kindZ r ≠ 1 ∧ (kindZ r ≠ 2 ∨ k = 0))) : nameGo k (r :: rs) = false := by
  unfold nameGo; rw [if_pos h]
theorem name_good (k : Nat) (r : Int) (rs : List Int) (h : ¬ (k = 30 ∨ (kindZ r ≠ 1 ∧ (kindZ r ≠ 2 ∨ k = 0)))) : nameGo k (r :: rs) = nameGo (k + 1) rs := by
  rw [nameGo, if_neg h]

set_option maxHeartbeats 1000000 in
set_option maxRecDepth 100000 in
theorem name_any (s : ByteArray) (w : World) : Calls Tryz.prog 86 #[.string s] w fun e w' => e = .returned (.bool (nameB s.data.toList)) ∧ Below w.heap.size w w' := by
  go_enter Tryz.func86, Tryz.ntmps86
  go_wp2
  go_loopw [3] (fun v wr => ∃ (pos k : Nat), wr.heap[w.heap.size]? = some (.stringIter s pos) ∧ Below w.heap.size w wr ∧ v = .int .i64 k ∧ Hid (nameGo k (spell (s.data.toList.drop pos)) = nameB s.data.toList) ∧ k ≤ 30) (fun _ wr => s.size - wr.iterPos w.heap.size)
  case atStart => exact ⟨0, 0, World.iter_heap w s 0, (Below.refl _ _).alloc (Nat.le_refl _) _, rfl, (by show _ = _; simp [nameB]), by omega⟩
  case round =>
    obtain ⟨pos, k, hit, hbw, rfl, H, hk⟩ := hrel
    have hpos0 := iterPos_of hit
    by_cases hp : pos < s.size
    · have hnx : ∀ ty, (Instr.next (.pointer (some ⟨w.heap.size, 0, none⟩)) true ty).run Tryz.prog wr = _ := fun ty => Lib.run_next_any_at wr w.heap.size s pos ty hit hp
      have hwd := width1 s pos
      have hit2 := Lib.iterAt_heap wr w.heap.size s pos (pos + (Utf8.decode s pos).2) hit
      have hbw2 := Lib.below_iterAt hbw (k := w.heap.size) (Nat.le_refl _) s (pos + (Utf8.decode s pos).2)
      have H2 : Hid (nameGo k (((Utf8.decode s pos).1 : Int) :: spell (s.data.toList.drop (pos + (Utf8.decode s pos).2))) = nameB s.data.toList) := by
        show _ = _
        rw [← H.out, spell_at hp]
      clear H
      go_wp2_with (go_at_call 12; refine (kind_any _ _).mono ?_; rintro e w' ⟨rfl, rfl⟩)
      all_goals try (simp only [beq_iff_eq, beq_eq_false_iff_ne, bne_iff_ne, bne_eq_false_iff_eq, ne_eq] at *)
      all_goals first
        | (go_ret
           exact ⟨ret_bool (by rw [← H2.out, name_bad _ _ _ (by omega)]), hbw2⟩)
        | (go_roundw
           case rel => exact ⟨pos + (Utf8.decode s pos).2, k + 1, hit2, hbw2, by go_num, (by show _ = _; rw [← H2.out, name_good _ _ _ (by omega)]), by omega⟩
           case measure => rw [iterPos_of hit2, hpos0]; omega)
        | (exfalso; omega)
    · have hnx : ∀ ty, (Instr.next (.pointer (some ⟨w.heap.size, 0, none⟩)) true ty).run Tryz.prog wr = _ := fun ty => Lib.run_next_end_at wr w.heap.size s pos ty hit hp
      have H2 : Hid (decide (0 < k) = nameB s.data.toList) := by
        show _ = _
        rw [← H.out, spell_end hp]; rfl
      go_wp2
      go_ret
      exact ⟨ret_bool (by rw [← H2.out]), hbw⟩
end Go.Proofs.YtphkodkenkiecaaGreatDoor
