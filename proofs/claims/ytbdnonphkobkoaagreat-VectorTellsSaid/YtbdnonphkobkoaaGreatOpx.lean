/- What an argument gives the walks: names, and their room where there are none. -/
import Derived.Test.YtbdnonphkobkoaaGreatOpr
namespace Go.Proofs.YtbdnonphkobkoaaGreat
open Go.ChangeShapes Go.WideShapes Go.ChangeAt Go.RowKit

theorem namesc_of {H : Type} {enc : TypeId × Value → H} {W : World} {a0 : Option Addr} {len cap fuel : Nat} {d : DataW H} {p : List MemPlace} (h : DataW.trod enc Tryz.prog W 0 (fun _ => true) true fuel 23 [.slice a0 len cap] = some (d, p)) :
    ∃ ns : List ByteArray, ns.length = len ∧ SeesN W a0 ns ∧ (a0 = none → cap = 0) := by
  obtain ⟨ns, h1, _, _, h4⟩ := names_of h
  refine ⟨ns, h1, h4, fun e => ?_⟩
  rcases open_strings Tryz.underlying23 Tryz.underlying9 Opn.cells_s h with ⟨hcs, _⟩ | ⟨a, len', cap', ss, hcs, _, hl, hm, hmm, _, hc, hz⟩
  · simp at hcs
    exact hcs.2.2
  · simp at hcs
    rw [e] at hcs
    cases hcs.1
end Go.Proofs.YtbdnonphkobkoaaGreat
