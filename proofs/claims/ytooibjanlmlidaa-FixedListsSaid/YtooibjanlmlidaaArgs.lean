/- What the cards use of the program. -/
import Derived.Test.YtooibjanlmlidaaFh
import Derived.Test.YtooibjanlmlidaaRows
import Derived.WalkKit
import Derived.ProofKit
import Derived.OpenShut
import Derived.SizedLaws
import Derived.ChangeSlices
namespace Go.Proofs.Ytooibjanlmlidaa
open Go.ChangeShapes Go.WideShapes Go.ChangeAt Go.RowKit

theorem own : ownKnob Try.prog.godebug = none := by kernel_rfl
theorem laidOut : laidOutB Try.prog = true := by kernel_rfl
theorem cells3 : Try.prog.cellsOf 3 = 1 := by kernel_rfl
theorem ints_of {H : Type} {enc : TypeId × Value → H} {W : World} {a0 : Option Addr} {len cap fuel : Nat} {d : DataW H} {p : List MemPlace} (h : DataW.trod enc Try.prog W 0 (fun _ => true) true fuel 29 [.slice a0 len cap] = some (d, p)) :
    ∃ zs : List Int, zs.length = len ∧ zs.length ≤ maxLen ∧ SeesI W a0 zs ∧ zs.length ≤ cap ∧ cap ≤ maxLen ∧ (a0 = none → cap = 0) ∧ (∀ z ∈ zs, -9223372036854775808 ≤ z ∧ z ≤ 9223372036854775807) := by
  rcases open_ints Try.underlying29 Try.underlying3 cells3 h with ⟨hcs, _⟩ | ⟨a, len', cap', zs, hcs, _, hl, hm, hmm, _, hc, hwf⟩
  · simp at hcs
    obtain ⟨rfl, rfl, rfl⟩ := hcs
    exact ⟨[], rfl, by unfold maxLen; simp, .inl rfl, by simp, by unfold maxLen; omega, fun _ => rfl, by simp⟩
  · simp at hcs
    obtain ⟨rfl, rfl, rfl⟩ := hcs
    simp only [if_true] at hmm
    refine ⟨zs.take len, by simp; omega, by simp; omega, ?_, by simp; omega, hm, (fun h => by cases h), fun z hz => ?_⟩
    · by_cases h0 : len = 0
      · subst h0; exact .inl (by simp)
      · have hspot := World.cell?_spot (hc 0 (by omega))
        obtain ⟨b, off, spot⟩ := a
        simp [Addr.add] at hspot
        subst hspot
        have hb := World.block_lt_of_cell? _ _ (hc 0 (by omega))
        have ha : ∀ i, (⟨b, off, none⟩ : Addr).add i = ⟨b, off + i, none⟩ := fun i => by
          unfold Addr.add; split
          · next h => subst h; rfl
          · rfl
        rw [ha] at hb
        refine .inr ⟨b, off, rfl, hb, fun j x hx => ?_⟩
        have hj : j < len := by have := (List.getElem?_eq_some_iff.1 hx).1; simp at this; omega
        have := hc j (by omega)
        rw [ha] at this
        rw [this]
        rw [List.getElem?_take_of_lt hj] at hx
        simp [List.getD, hx]
    · have := hwf z (List.mem_of_mem_take hz)
      simp [Lit.wf] at this
      exact ⟨by have h1 : IntKind.min .i64 = -9223372036854775808 := by decide
                rw [← h1]; exact this.1, this.2⟩
end Go.Proofs.Ytooibjanlmlidaa
