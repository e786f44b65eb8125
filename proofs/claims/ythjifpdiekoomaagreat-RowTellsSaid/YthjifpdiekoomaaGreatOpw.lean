/- What an argument gives the walks: one row. -/
import Derived.Test.YthjifpdiekoomaaGreatOpr
import Derived.Lib.SmallJoins
namespace Go.Proofs.YthjifpdiekoomaaGreat.Opn
open Go.ChangeShapes Go.WideShapes Go.ChangeAt Go.RowKit

set_option maxRecDepth 100000 in
theorem row_of {H : Type} {enc : TypeId × Value → H} {W : World} {r : Reach} {b0 : Nat} {v : Value} {d : DataW H} {ps : List MemPlace} (hval : Value.okWide Tryz.prog W r b0 24 v) (hd : DataW.Trod enc Tryz.prog W 0 (fun _ => true) true 24 v d ps) :
    ∃ (o : Option Addr) (n c : Nat) (z : Int) (l : Vec.Labs), v = .agg #[.slice o n c, .int .i64 z] ∧ l.length = n ∧ l.length ≤ maxLen ∧ Vec.LabS W W.heap.size o l ∧ (o = none → c = 0) := by
  obtain ⟨v0, v1, y0, y1, n, rfl, _, _, h0, h1⟩ := Go.Joins.open_agg2 Tryz.underlying24 (by kernel_rfl) cellsR hval hd
  obtain ⟨a, e1, _, _⟩ := DataW.trod_int Tryz.underlying3 h1
  simp at e1
  subst e1
  obtain ⟨o, m, c, rfl⟩ := slice_of Tryz.underlying22 h0
  obtain ⟨l, hl, hS, h3, h4, h5, _⟩ := labels_of h0
  refine ⟨o, m, c, a, l, rfl, hl, by omega, ⟨hS, fun hne b off e => .inl ?_⟩, h5⟩
  rcases hS with h | ⟨b', off', e', hs⟩
  · exact absurd h hne
  · rw [e] at e'
    cases e'
    exact hs.low
end Go.Proofs.YthjifpdiekoomaaGreat.Opn
