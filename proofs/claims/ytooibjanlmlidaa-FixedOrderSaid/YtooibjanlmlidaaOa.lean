/- The answers of the six comparisons, kept by their signs. -/
import Derived.Test.YtooibjanlmlidaaFi
import Derived.Maps.Own
import Derived.Maps.Views
namespace Go.Proofs.Ytooibjanlmlidaa
open Go.RowKit Go.Maps Go.WideMaps

abbrev six (v0 v1 v2 v3 v4 v5 : Int) : List (ByteArray × Int) := [(⟨#[61, 61]⟩, v0), (⟨#[33, 61]⟩, v1), (⟨#[60]⟩, v2), (⟨#[60, 61]⟩, v3), (⟨#[62]⟩, v4), (⟨#[62, 61]⟩, v5)]
def mapD (l : List (ByteArray × Int)) : DataW Unit := l.foldl (fun D p => D.put (.string p.1.data.toList) (.lit (.int .i64 p.2))) (.map [])
theorem mapD_snoc (l : List (ByteArray × Int)) (p : ByteArray × Int) : mapD (l ++ [p]) = (mapD l).put (.string p.1.data.toList) (.lit (.int .i64 p.2)) := by unfold mapD; rw [List.foldl_append]; rfl
section
variable (v0 v1 v2 v3 v4 v5 : Int) (z : DataW Unit)
theorem at0 : (mapD (six v0 v1 v2 v3 v4 v5)).atKey (.string [61, 61]) z = .lit (.int .i64 v0) := by rfl
theorem at1 : (mapD (six v0 v1 v2 v3 v4 v5)).atKey (.string [33, 61]) z = .lit (.int .i64 v1) := by rfl
theorem at2 : (mapD (six v0 v1 v2 v3 v4 v5)).atKey (.string [60]) z = .lit (.int .i64 v2) := by rfl
theorem at3 : (mapD (six v0 v1 v2 v3 v4 v5)).atKey (.string [60, 61]) z = .lit (.int .i64 v3) := by rfl
theorem at4 : (mapD (six v0 v1 v2 v3 v4 v5)).atKey (.string [62]) z = .lit (.int .i64 v4) := by rfl
theorem at5 : (mapD (six v0 v1 v2 v3 v4 v5)).atKey (.string [62, 61]) z = .lit (.int .i64 v5) := by rfl
end
theorem zero3 (w : World) : (zeroValue 3).run Try.prog w = .ok (.int .i64 0) w := by rfl
/-- What a look-up finds. -/
theorem look_six {w : World} {b n : Nat} {D : DataW Unit} (h : w.ownsMap Try.prog 9 (plainElem Try.prog 3) b n D) {s : ByteArray} (hs : s.size ≤ 2) {v : Int} (hat : ∀ z, D.atKey (.string s.data.toList) z = .lit (.int .i64 v)) :
    (Instr.lookup 40 (.map (some b)) (.string s) false).run Try.prog w = .ok (.int .i64 v) w := by
  have hkey : keyOf Try.prog 9 (.string s) = some (.string s.data.toList) := keyOf_string_mk (P := Try.prog) Try.underlying9 (by unfold maxLen; omega)
  obtain ⟨c, hrun, hc, _⟩ := h.lookup_int (Maps.string_keyed Try.underlying9) Try.underlying40 Try.underlying3 (zero3 _) hkey
  rw [hat] at hc
  injection hc with hc
  injection hc with _ hc
  rw [hrun, hc]
end Go.Proofs.Ytooibjanlmlidaa
