/- What the arguments give the walks: texts, lists of texts. -/
import Derived.Test.YtbcdgccmokgmhaaCf
import Derived.Deep.SlicePairs
import Derived.SliceStrings
import Derived.WalkKit
import Derived.ProofKit
import Derived.OpenShut
import Derived.SizedLaws
import Derived.ChangeSlices
namespace Go.Proofs.Ytbcdgccmokgmhaa
open Go.ChangeShapes Go.WideShapes Go.ChangeAt Go.RowKit

def SeesN (w : World) (o : Option Addr) (ns : List ByteArray) : Prop := ns = [] ∨ ∃ b off, o = some ⟨b, off, none⟩ ∧ b < w.heap.size ∧ ∀ j, j < ns.length → w.cell? ⟨b, off + j, none⟩ = some (.string (ns.getD j ByteArray.empty))
theorem SeesN.below {w w' : World} {o : Option Addr} {ns : List ByteArray} (h : SeesN w o ns) (hb : Below w.heap.size w w') : SeesN w' o ns :=
  h.imp id fun ⟨b, off, e, h1, h2⟩ => ⟨b, off, e, Nat.lt_of_lt_of_le h1 hb.size, fun j hj => (hb.cell (p := ⟨b, off + j, none⟩) h1).trans (h2 j hj)⟩
theorem own : ownKnob Try.prog.godebug = none := by kernel_rfl
theorem laidOut : laidOutB Try.prog = true := by kernel_rfl
theorem cells9 : Try.prog.cellsOf 9 = 1 := by kernel_rfl
theorem names_of {H : Type} {enc : TypeId × Value → H} {W : World} {a0 : Option Addr} {len cap fuel : Nat} {d : DataW H} {p : List MemPlace} (h : DataW.trod enc Try.prog W 0 (fun _ => true) true fuel 31 [.slice a0 len cap] = some (d, p)) :
    ∃ ns : List ByteArray, ns.length = len ∧ ns.length ≤ maxLen ∧ (∀ s ∈ ns, s.size ≤ maxLen) ∧ SeesN W a0 ns := by
  rcases open_strings Try.underlying31 Try.underlying9 cells9 h with ⟨hcs, _⟩ | ⟨a, len', cap', ss, hcs, _, hl, hm, hmm, _, hc, hz⟩
  · simp at hcs
    obtain ⟨rfl, rfl, rfl⟩ := hcs
    exact ⟨[], rfl, by unfold maxLen; simp, by simp, .inl rfl⟩
  · simp at hcs
    obtain ⟨rfl, rfl, rfl⟩ := hcs
    simp only [if_true] at hmm
    refine ⟨ss.take len, by simp; omega, by simp; omega, fun s hs => hz s (List.mem_of_mem_take hs), ?_⟩
    by_cases h0 : len = 0
    · subst h0; exact .inl rfl
    · have hspot := World.cell?_spot (hc 0 (by omega))
      obtain ⟨b, off, spot⟩ := a
      simp [Addr.add] at hspot
      subst hspot
      have hb := World.block_lt_of_cell? _ _ (hc 0 (by omega))
      have ha : ∀ i, (⟨b, off, none⟩ : Addr).add i = ⟨b, off + i, none⟩ := fun i => by
        unfold Addr.add; split
        · next h => subst h; rfl
        · rfl
      rw [ha] at hb
      refine .inr ⟨b, off, rfl, hb, fun j hj => ?_⟩
      have hj2 : j < len := by simp at hj; omega
      have := hc j (by omega)
      rw [ha] at this
      rw [this]
      congr 2
      simp [List.getD, hj2]
end Go.Proofs.Ytbcdgccmokgmhaa
