/- What an argument gives the walks: a matcher. -/
import Derived.Test.YtmidpekkomhogaaOpo
import Derived.Lib.SmallJoins
import Derived.Deep.Strs
namespace Go.Proofs.Ytmidpekkomhogaa
open Go.ChangeShapes Go.WideShapes Go.ChangeAt Go.RowKit

theorem cellsMt : Try.prog.cellsOf 24 = 3 := by kernel_rfl
theorem cellsMs : Try.prog.cellsOf 9 = 1 := by kernel_rfl
theorem cellsMi : Try.prog.cellsOf 3 = 1 := by kernel_rfl
section
variable {H : Type} {enc : TypeId × Value → H} {W : World} {base : Nat} {spare : Nat → Bool} {held : Bool}
set_option maxRecDepth 100000 in
theorem open_matcher {r : Reach} {b0 : Nat} {v : Value} {d : DataW H} {ps : List MemPlace} (hval : Value.okWide Try.prog W r b0 24 v) (hd : DataW.Trod enc Try.prog W base spare held 24 v d ps) :
    ∃ (a c : ByteArray) (b : Int), v = .agg #[.string a, .int .i64 b, .string c] ∧ d = .agg [.lit (.string a.data.toList), .lit (.int .i64 b), .lit (.string c.data.toList)] ∧ ps = [] ∧ a.size ≤ maxLen ∧ (Lit.int .i64 b).wf = true ∧ c.size ≤ maxLen := by
  obtain ⟨v0, v1, v2, y0, y1, y2, n, rfl, rfl, rfl, h0, h1, h2⟩ := Go.Joins.open_agg3 Try.underlying24 (by kernel_rfl) cellsMt hval hd
  obtain ⟨a, e0, rfl, w0⟩ := DataW.trod_string Try.underlying9 h0
  obtain ⟨b, e1, rfl, w1⟩ := DataW.trod_int Try.underlying3 h1
  obtain ⟨c, e2, rfl, w2⟩ := DataW.trod_string Try.underlying9 h2
  simp at e0 e1 e2
  subst e0 e1 e2
  exact ⟨a, c, b, rfl, rfl, rfl, w0, w1, w2⟩
set_option maxRecDepth 100000 in
theorem shut_matcher {a c : ByteArray} {b : Int} (w0 : a.size ≤ maxLen) (w1 : (Lit.int .i64 b).wf = true) (w2 : c.size ≤ maxLen) : DataW.Trod enc Try.prog W base spare held 24 (.agg #[.string a, .int .i64 b, .string c]) (.agg [.lit (.string a.data.toList), .lit (.int .i64 b), .lit (.string c.data.toList)]) [] := by
  refine ⟨2, ?_⟩
  have := Go.Deep.trod_struct3_mk (enc := enc) (w := W) (base := base) (spare := spare) (held := held) (n := 1) (cs := [.string a, .int .i64 b, .string c]) (y0 := (.lit (.string a.data.toList), [])) (y1 := (.lit (.int .i64 b), [])) (y2 := (.lit (.string c.data.toList), [])) Try.underlying24 (by rw [cellsMt]; rfl)
    (by show DataW.trod enc Try.prog W base spare held 1 9 (List.take (Try.prog.cellsOf 9) (List.drop 0 [.string a, .int .i64 b, .string c])) = _; rw [cellsMs]; simp [DataW.trod, Try.underlying9, w0])
    (by show DataW.trod enc Try.prog W base spare held 1 3 (List.take (Try.prog.cellsOf 3) (List.drop 1 [.string a, .int .i64 b, .string c])) = _; rw [cellsMi]; exact trod_int_mk 0 Try.underlying3 w1)
    (by show DataW.trod enc Try.prog W base spare held 1 9 (List.take (Try.prog.cellsOf 9) (List.drop 2 [.string a, .int .i64 b, .string c])) = _; rw [cellsMs]; simp [DataW.trod, Try.underlying9, w2])
  simpa [Value.cells] using this
end
end Go.Proofs.Ytmidpekkomhogaa
