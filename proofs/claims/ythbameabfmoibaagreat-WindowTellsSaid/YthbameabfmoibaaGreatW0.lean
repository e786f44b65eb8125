/- How a text is gone through: plain lemmas. -/
import Derived.Test.YthbameabfmoibaaGreatProg
import Derived.Test.YthbameabfmoibaaGreatMath
import Derived.WalkKit
import Derived.BigCall
import Derived.Lib.OthersKept
import Derived.Lib.Hide
import Derived.Lib.RuneBytes
namespace Go.Proofs.YthbameabfmoibaaGreat
open Go.RowKit

theorem ret_int {k : IntKind} {a b : Int} (h : a = b) : Ending.returned (.int k a) = .returned (.int k b) := by rw [h]

def countOf (l : List UInt8) : Nat := (sufs l).length

theorem drop_ne {s : ByteArray} {pos : Nat} (h : pos < s.size) : s.data.toList.drop pos ≠ [] := by
  intro h0
  have := congrArg List.length h0
  rw [List.length_drop, ← Lib.size_eq] at this
  simp at this; omega
theorem drop_end {s : ByteArray} {pos : Nat} (h : ¬ pos < s.size) : s.data.toList.drop pos = [] := List.drop_eq_nil_of_le (by rw [← Lib.size_eq]; omega)
/-- One piece on. -/
theorem sufs_at {s : ByteArray} {pos : Nat} (h : pos < s.size) : sufs (s.data.toList.drop pos) = s.data.toList.drop pos :: sufs (s.data.toList.drop (pos + (Utf8.decode s pos).2)) := by
  rw [sufs_step _ (drop_ne h), Lib.decodeL_drop, List.drop_drop]
theorem width1 (s : ByteArray) (pos : Nat) : 1 ≤ (Utf8.decode s pos).2 := by rw [← Lib.decodeL_drop]; exact Lib.decodeL_width _
theorem width_le {s : ByteArray} {pos : Nat} (h : pos < s.size) : pos + (Utf8.decode s pos).2 ≤ s.size := by
  have := Lib.decodeL_le _ (drop_ne h)
  rw [Lib.decodeL_drop, List.length_drop, ← Lib.size_eq] at this; omega
theorem iterPos_of {w : World} {k : Nat} {s : ByteArray} {p : Nat} (h : w.heap[k]? = some (.stringIter s p)) : w.iterPos k = p := by simp [World.iterPos, h]

theorem spell_at {s : ByteArray} {pos : Nat} (h : pos < s.size) : spell (s.data.toList.drop pos) = ((Utf8.decode s pos).1 : Int) :: spell (s.data.toList.drop (pos + (Utf8.decode s pos).2)) := by
  unfold spell
  rw [sufs_at h, List.map_cons]
  unfold rune
  rw [Lib.decodeL_drop]
theorem spell_end {s : ByteArray} {pos : Nat} (h : ¬ pos < s.size) : spell (s.data.toList.drop pos) = [] := by rw [drop_end h]; rfl
theorem ret_bool {a b : Bool} (h : a = b) : Ending.returned (.bool a) = .returned (.bool b) := by rw [h]


end Go.Proofs.YthbameabfmoibaaGreat
