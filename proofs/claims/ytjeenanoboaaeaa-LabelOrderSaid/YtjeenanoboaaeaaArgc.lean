/- What the arguments give the walks: labels, with their room. -/
import Derived.Test.YtjeenanoboaaeaaArgs
import Derived.Carry
namespace Go.Proofs.Ytjeenanoboaaeaa
open Go.ChangeShapes Go.WideShapes Go.ChangeAt Go.RowKit

theorem labelsc_of {H : Type} {enc : TypeId × Value → H} {W : World} {a0 : Option Addr} {len cap fuel : Nat} {d : DataW H} {p : List MemPlace} (h : DataW.trod enc Try.prog W 0 (fun _ => true) true fuel 22 [.slice a0 len cap] = some (d, p)) :
    ∃ xs : List Lab, xs.length = len ∧ xs.length ≤ maxLen ∧ SeesO W a0 xs ∧ xs.length ≤ cap := by
  have hc : len ≤ cap := by
    rcases Deep.open_slice_pairs Try.underlying22 Try.underlying38 cells38 rfl rfl cells9 cells9 h with ⟨hcs, _⟩ | ⟨a, len', cap', m, n, V0, V1, D0, D1, P0, P1, hcs, _, hl, _⟩
    · simp at hcs
      omega
    · simp at hcs
      omega
  obtain ⟨xs, h1, h2, h3⟩ := labels_of h
  exact ⟨xs, h1, h2, h3, by omega⟩
end Go.Proofs.Ytjeenanoboaaeaa
