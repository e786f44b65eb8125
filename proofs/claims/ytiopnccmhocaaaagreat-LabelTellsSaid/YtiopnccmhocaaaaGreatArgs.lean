/- What the arguments give the walks: labels, names. -/
import Derived.Test.YtiopnccmhocaaaaGreatLe
import Derived.Test.YtiopnccmhocaaaaGreatRows
import Derived.Deep.SlicePairs
import Derived.SliceStrings
import Derived.WalkKit
import Derived.ProofKit
import Derived.OpenShut
import Derived.SizedLaws
import Derived.ChangeSlices
namespace Go.Proofs.YtiopnccmhocaaaaGreat
open Go.ChangeShapes Go.WideShapes Go.ChangeAt Go.RowKit

theorem own : ownKnob Tryz.prog.godebug = none := by kernel_rfl
theorem laidOut : laidOutB Tryz.prog = true := by kernel_rfl
theorem cells38 : Tryz.prog.cellsOf 56 = 2 := by kernel_rfl
theorem cells9 : Tryz.prog.cellsOf 9 = 1 := by kernel_rfl
theorem under38 : Tryz.prog.underlying 56 = some (.struct (Tryz.prog.fieldsOf 56)) := by kernel_rfl

theorem labels_of {H : Type} {enc : TypeId × Value → H} {W : World} {a0 : Option Addr} {len cap fuel : Nat} {d : DataW H} {p : List MemPlace} (h : DataW.trod enc Tryz.prog W 0 (fun _ => true) true fuel 22 [.slice a0 len cap] = some (d, p)) :
    ∃ xs : List Lab, xs.length = len ∧ xs.length ≤ maxLen ∧ SeesO W a0 xs := by
  rcases Deep.open_slice_pairs Tryz.underlying22 Tryz.underlying56 cells38 rfl rfl cells9 cells9 h with ⟨hcs, _⟩ | ⟨a, len', cap', m, n, V0, V1, D0, D1, P0, P1, hcs, _, hl, hm, hmm, _, hc⟩
  · simp at hcs
    obtain ⟨rfl, rfl, rfl⟩ := hcs
    exact ⟨[], rfl, by unfold maxLen; simp, .inl rfl⟩
  · simp at hcs
    obtain ⟨rfl, rfl, rfl⟩ := hcs
    simp only [if_true] at hmm
    have hs : ∀ i, i < m → ∃ x : Lab, V0 i = .string x.1 ∧ V1 i = .string x.2 := by
      intro i hi
      obtain ⟨_, _, h0, h1⟩ := hc i hi
      obtain ⟨s0, e0, _⟩ := DataW.trod_string Tryz.underlying9 h0
      obtain ⟨s1, e1, _⟩ := DataW.trod_string Tryz.underlying9 h1
      simp at e0 e1
      exact ⟨(s0, s1), e0, e1⟩
    obtain ⟨X, hX⟩ : ∃ X : Nat → Lab, ∀ i, i < m → V0 i = .string (X i).1 ∧ V1 i = .string (X i).2 := by
      have h2 : ∀ i, ∃ x : Lab, i < m → V0 i = .string x.1 ∧ V1 i = .string x.2 := fun i => by
        by_cases hi : i < m
        · obtain ⟨x, hx⟩ := hs i hi; exact ⟨x, fun _ => hx⟩
        · exact ⟨(⟨#[]⟩, ⟨#[]⟩), fun h => absurd h hi⟩
      exact Classical.skolem.1 h2
    refine ⟨(List.range len).map X, by simp, by simp; omega, ?_⟩
    by_cases h0 : len = 0
    · subst h0; exact .inl rfl
    · have hspot := World.cell?_spot (hc 0 (by omega)).1
      obtain ⟨b, off, spot⟩ := a
      simp [Addr.add] at hspot
      subst hspot
      have hb := World.block_lt_of_cell? _ _ (hc 0 (by omega)).1
      have ha : ∀ i, (⟨b, off, none⟩ : Addr).add i = ⟨b, off + i, none⟩ := fun i => by
        unfold Addr.add; split
        · next h => subst h; rfl
        · rfl
      rw [ha] at hb
      refine .inr ⟨b, off, rfl, hb, fun j x hx => ?_, fun j x hx => ?_⟩
      all_goals
        have hj : j < len := by have := (List.getElem?_eq_some_iff.1 hx).1; simpa using this
        have e1 : x = X j := by simp [hj] at hx; exact hx.symm
        subst e1
        obtain ⟨g0, g1, _⟩ := hc j (by omega)
        rw [ha, (hX j (by omega)).1] at g0
        rw [ha, (hX j (by omega)).2] at g1
        first | exact g0 | exact g1
theorem names_of {H : Type} {enc : TypeId × Value → H} {W : World} {a0 : Option Addr} {len cap fuel : Nat} {d : DataW H} {p : List MemPlace} (h : DataW.trod enc Tryz.prog W 0 (fun _ => true) true fuel 23 [.slice a0 len cap] = some (d, p)) :
    ∃ ns : List ByteArray, ns.length = len ∧ ns.length ≤ maxLen ∧ (∀ s ∈ ns, s.size ≤ maxLen) ∧ SeesN W a0 ns := by
  rcases open_strings Tryz.underlying23 Tryz.underlying9 cells9 h with ⟨hcs, _⟩ | ⟨a, len', cap', ss, hcs, _, hl, hm, hmm, _, hc, hz⟩
  · simp at hcs
    obtain ⟨rfl, rfl, rfl⟩ := hcs
    exact ⟨[], rfl, by unfold maxLen; simp, by simp, .inl rfl⟩
  · simp at hcs
    obtain ⟨rfl, rfl, rfl⟩ := hcs
    simp only [if_true] at hmm
    refine ⟨ss.take len, by simp; omega, by simp; omega, fun s hs => hz s (List.mem_of_mem_take hs), ?_⟩
    by_cases h0 : len = 0
    · subst h0; exact .inl rfl
    · have hspot := World.cell?_spot (hc 0 (by omega))
      obtain ⟨b, off, spot⟩ := a
      simp [Addr.add] at hspot
      subst hspot
      have hb := World.block_lt_of_cell? _ _ (hc 0 (by omega))
      have ha : ∀ i, (⟨b, off, none⟩ : Addr).add i = ⟨b, off + i, none⟩ := fun i => by
        unfold Addr.add; split
        · next h => subst h; rfl
        · rfl
      rw [ha] at hb
      refine .inr ⟨b, off, rfl, hb, fun j hj => ?_⟩
      have hj2 : j < len := by simp at hj; omega
      have := hc j (by omega)
      rw [ha] at this
      rw [this]
      congr 2
      simp [List.getD, hj2]
end Go.Proofs.YtiopnccmhocaaaaGreat
