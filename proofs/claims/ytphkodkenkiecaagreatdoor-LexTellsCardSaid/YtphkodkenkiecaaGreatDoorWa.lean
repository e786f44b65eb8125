/- Walks: what a rune is; how many there are. -/
import Derived.Test.YtphkodkenkiecaaGreatDoorProg
import Derived.Test.YtphkodkenkiecaaGreatDoorMath
import Derived.WalkKit
import Derived.BigCall
import Derived.Lib.OthersKept
import Derived.Lib.Hide
import Derived.Lib.RuneBytes
namespace Go.Proofs.YtphkodkenkiecaaGreatDoor
open Go.RowKit

def kindZ (r : Int) : Int :=
  if r < 0 ∨ r = 65533 then 0
  else if (97 ≤ r ∧ r ≤ 122) ∨ (65 ≤ r ∧ r ≤ 90) ∨ r = 95 ∨ 128 ≤ r then 1
  else if 48 ≤ r ∧ r ≤ 57 then 2
  else if r = 32 ∨ r = 9 ∨ r = 10 then 3
  else 4

theorem ret_int {k : IntKind} {a b : Int} (h : a = b) : Ending.returned (.int k a) = .returned (.int k b) := by rw [h]

set_option maxHeartbeats 4000000 in
set_option maxRecDepth 100000 in
theorem kind_any (r : Int) (w : World) : Calls Tryz.prog 12 #[.int .i32 r] w fun e w' => e = .returned (.int .i64 (kindZ r)) ∧ w = w' := by
  go_enter Tryz.func12, Tryz.ntmps12
  go_wp2
  all_goals (go_ret; refine ⟨ret_int ?_, rfl⟩; first | rfl | skip)
  all_goals ((try simp only [beq_iff_eq, beq_eq_false_iff_ne] at *); unfold kindZ; repeat' split)
  all_goals omega

def countOf (l : List UInt8) : Nat := (sufs l).length

theorem drop_ne {s : ByteArray} {pos : Nat} (h : pos < s.size) : s.data.toList.drop pos ≠ [] := by
  intro h0
  have := congrArg List.length h0
  rw [List.length_drop, ← Lib.size_eq] at this
  simp at this; omega
theorem drop_end {s : ByteArray} {pos : Nat} (h : ¬ pos < s.size) : s.data.toList.drop pos = [] := List.drop_eq_nil_of_le (by rw [← Lib.size_eq]; omega)
/-- One piece on. -/
theorem sufs_at {s : ByteArray} {pos : Nat} (h : pos < s.size) : sufs (s.data.toList.drop pos) = s.data.toList.drop pos :: sufs (s.data.toList.drop (pos + (Utf8.decode s pos).2)) := by
  rw [sufs_step _ (drop_ne h), Lib.decodeL_drop, List.drop_drop]
theorem width1 (s : ByteArray) (pos : Nat) : 1 ≤ (Utf8.decode s pos).2 := by rw [← Lib.decodeL_drop]; exact Lib.decodeL_width _
theorem width_le {s : ByteArray} {pos : Nat} (h : pos < s.size) : pos + (Utf8.decode s pos).2 ≤ s.size := by
  have := Lib.decodeL_le _ (drop_ne h)
  rw [Lib.decodeL_drop, List.length_drop, ← Lib.size_eq] at this; omega
theorem iterPos_of {w : World} {k : Nat} {s : ByteArray} {p : Nat} (h : w.heap[k]? = some (.stringIter s p)) : w.iterPos k = p := by simp [World.iterPos, h]

end Go.Proofs.YtphkodkenkiecaaGreatDoor
