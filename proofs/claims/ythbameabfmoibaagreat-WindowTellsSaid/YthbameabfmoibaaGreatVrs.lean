/- What the arguments give the walks: points. -/
import Derived.Test.YthbameabfmoibaaGreatVa
import Derived.Test.YthbameabfmoibaaGreatRows
import Derived.Deep.SlicePairs
import Derived.WalkKit
import Derived.ProofKit
import Derived.OpenShut
import Derived.SizedLaws
import Derived.ChangeSlices
namespace Go.Proofs.YthbameabfmoibaaGreat
open Go.ChangeShapes Go.WideShapes Go.ChangeAt Go.RowKit

theorem own : ownKnob Tryz.prog.godebug = none := by kernel_rfl
theorem laidOut : laidOutB Tryz.prog = true := by kernel_rfl
theorem cellsP : Tryz.prog.cellsOf 43 = 2 := by kernel_rfl
theorem cellsI : Tryz.prog.cellsOf 3 = 1 := by kernel_rfl
theorem int_range {z : Int} (h : (Lit.int .i64 z).wf = true) : -9223372036854775808 ≤ z ∧ z ≤ 9223372036854775807 := by
  simp [Lit.wf] at h
  exact ⟨by have h1 : IntKind.min .i64 = -9223372036854775808 := by decide
            rw [← h1]; exact h.1, h.2⟩

theorem points_of {H : Type} {enc : TypeId × Value → H} {W : World} {a0 : Option Addr} {len cap fuel : Nat} {d : DataW H} {p : List MemPlace} (h : DataW.trod enc Tryz.prog W 0 (fun _ => true) true fuel 22 [.slice a0 len cap] = some (d, p)) :
    ∃ xs : List Win.Pt, xs.length = len ∧ xs.length ≤ maxLen ∧ Pnt.SeesO W a0 xs ∧ xs.length ≤ cap ∧ cap ≤ maxLen ∧ (a0 = none → cap = 0) ∧ (∀ x ∈ xs, -9223372036854775808 ≤ x.2 ∧ x.2 ≤ 9223372036854775807) := by
  rcases Deep.open_slice_pairs Tryz.underlying22 Tryz.underlying43 cellsP rfl rfl cellsI cellsI h with ⟨hcs, _⟩ | ⟨a, len', cap', m, n, V0, V1, D0, D1, P0, P1, hcs, _, hl, hm, hmm, _, hc⟩
  · simp at hcs
    obtain ⟨rfl, rfl, rfl⟩ := hcs
    exact ⟨[], rfl, by unfold maxLen; simp, .inl rfl, by simp, by unfold maxLen; omega, fun _ => rfl, by simp⟩
  · simp at hcs
    obtain ⟨rfl, rfl, rfl⟩ := hcs
    simp only [if_true] at hmm
    have hs : ∀ i, i < m → ∃ x : Win.Pt, V0 i = .int .i64 x.1 ∧ V1 i = .int .i64 x.2 ∧ -9223372036854775808 ≤ x.2 ∧ x.2 ≤ 9223372036854775807 := by
      intro i hi
      obtain ⟨_, _, h0, h1⟩ := hc i hi
      obtain ⟨s0, e0, _, _⟩ := DataW.trod_int Tryz.underlying3 h0
      obtain ⟨s1, e1, _, w1⟩ := DataW.trod_int Tryz.underlying3 h1
      simp at e0 e1
      exact ⟨(s0, s1), e0, e1, int_range w1⟩
    obtain ⟨X, hX⟩ : ∃ X : Nat → Win.Pt, ∀ i, i < m → V0 i = .int .i64 (X i).1 ∧ V1 i = .int .i64 (X i).2 ∧ -9223372036854775808 ≤ (X i).2 ∧ (X i).2 ≤ 9223372036854775807 := by
      have h2 : ∀ i, ∃ x : Win.Pt, i < m → V0 i = .int .i64 x.1 ∧ V1 i = .int .i64 x.2 ∧ -9223372036854775808 ≤ x.2 ∧ x.2 ≤ 9223372036854775807 := fun i => by
        by_cases hi : i < m
        · obtain ⟨x, hx⟩ := hs i hi; exact ⟨x, fun _ => hx⟩
        · exact ⟨(0, 0), fun h => absurd h hi⟩
      exact Classical.skolem.1 h2
    refine ⟨(List.range len).map X, by simp, by simp; omega, ?_, by simp; omega, by omega, (fun h => by cases h), fun x hx => ?_⟩
    · by_cases h0 : len = 0
      · subst h0; exact .inl rfl
      · have hspot := World.cell?_spot (hc 0 (by omega)).1
        obtain ⟨b, off, spot⟩ := a
        simp [Addr.add] at hspot
        subst hspot
        have hb := World.block_lt_of_cell? _ _ (hc 0 (by omega)).1
        have ha : ∀ i, (⟨b, off, none⟩ : Addr).add i = ⟨b, off + i, none⟩ := fun i => by
          unfold Addr.add; split
          · next h => subst h; rfl
          · rfl
        rw [ha] at hb
        refine .inr ⟨b, off, rfl, hb, fun j x hx => ?_, fun j x hx => ?_⟩
        all_goals
          have hj : j < len := by have := (List.getElem?_eq_some_iff.1 hx).1; simpa using this
          have e1 : x = X j := by simp [hj] at hx; exact hx.symm
          subst e1
          obtain ⟨g0, g1, _⟩ := hc j (by omega)
          rw [ha, (hX j (by omega)).1] at g0
          rw [ha, (hX j (by omega)).2.1] at g1
          first | exact g0 | exact g1
    · obtain ⟨j, hj, rfl⟩ := List.mem_map.1 hx
      have hj2 : j < len := by simpa using hj
      exact (hX j (by omega)).2.2
end Go.Proofs.YthbameabfmoibaaGreat
