/- What the arguments give the law on labels. -/
import Derived.Test.YtiopnccmhocaaaaGreatArgs
namespace Go.Proofs.YtiopnccmhocaaaaGreat
open Go.ChangeShapes Go.WideShapes Go.ChangeAt Go.RowKit

theorem labels2_of {H : Type} {enc : TypeId × Value → H} {W : World} {a0 : Option Addr} {len cap fuel : Nat} {d : DataW H} {p : List MemPlace} (h : DataW.trod enc Tryz.prog W 0 (fun _ => true) true fuel 22 [.slice a0 len cap] = some (d, p)) :
    ∃ xs : List Lab, xs.length = len ∧ xs.length ≤ maxLen ∧ SeesO W a0 xs ∧ (a0 = none → cap = 0) := by
  obtain ⟨xs, h1, h2, h3⟩ := labels_of h
  refine ⟨xs, h1, h2, h3, ?_⟩
  rcases Deep.open_slice_pairs Tryz.underlying22 Tryz.underlying56 cells38 rfl rfl cells9 cells9 h with ⟨hcs, _⟩ | ⟨a, len', cap', m, n, V0, V1, D0, D1, P0, P1, hcs, _⟩
  · simp at hcs
    exact fun _ => hcs.2.2
  · simp at hcs
    intro e
    rw [hcs.1] at e; cases e
theorem names2_of {H : Type} {enc : TypeId × Value → H} {W : World} {a0 : Option Addr} {len cap fuel : Nat} {d : DataW H} {p : List MemPlace} (h : DataW.trod enc Tryz.prog W 0 (fun _ => true) true fuel 23 [.slice a0 len cap] = some (d, p)) :
    ∃ ns : List ByteArray, ns.length = len ∧ ns.length ≤ maxLen ∧ SeesN W a0 ns ∧ (a0 = none → cap = 0) := by
  obtain ⟨ns, h1, h2, _, h3⟩ := names_of h
  refine ⟨ns, h1, h2, h3, ?_⟩
  rcases open_strings Tryz.underlying23 Tryz.underlying9 cells9 h with ⟨hcs, _⟩ | ⟨a, len', cap', ss, hcs, _⟩
  · simp at hcs
    exact fun _ => hcs.2.2
  · simp at hcs
    intro e
    rw [hcs.1] at e; cases e
end Go.Proofs.YtiopnccmhocaaaaGreat
