/- What the arguments give the walks: numbers, pairs of numbers. -/
import Derived.Test.YtlnlhimnbiabcaaPuf
import Derived.Test.YtlnlhimnbiabcaaRows
import Derived.Deep.SlicePairs
import Derived.Lib.SmallJoins
import Derived.WalkKit
import Derived.ProofKit
import Derived.OpenShut
import Derived.SizedLaws
import Derived.ChangeSlices
namespace Go.Proofs.Ytlnlhimnbiabcaa
open Go.ChangeShapes Go.WideShapes Go.ChangeAt Go.RowKit

theorem own : ownKnob Try.prog.godebug = none := by kernel_rfl
theorem laidOut : laidOutB Try.prog = true := by kernel_rfl
theorem cellsI : Try.prog.cellsOf 3 = 1 := by kernel_rfl
theorem cellsO : Try.prog.cellsOf 27 = 2 := by kernel_rfl
theorem addA (b off i : Nat) : (⟨b, off, none⟩ : Addr).add i = ⟨b, off + i, none⟩ := by
  unfold Addr.add; split
  · next h => subst h; rfl
  · rfl
theorem ints_of {H : Type} {enc : TypeId × Value → H} {W : World} {a0 : Option Addr} {len cap fuel : Nat} {d : DataW H} {p : List MemPlace} (h : DataW.trod enc Try.prog W 0 (fun _ => true) true fuel 31 [.slice a0 len cap] = some (d, p)) :
    ∃ zs : List Int, zs.length = len ∧ zs.length ≤ maxLen ∧ Pur.SeesI W 0 a0 zs := by
  rcases open_ints Try.underlying31 Try.underlying3 cellsI h with ⟨hcs, _⟩ | ⟨a, len', cap', zs, hcs, _, hl, hm, hmm, _, hc, hwf⟩
  · simp at hcs
    obtain ⟨rfl, rfl, rfl⟩ := hcs
    exact ⟨[], rfl, by unfold maxLen; simp, fun j x hx => by simp at hx⟩
  · simp at hcs
    obtain ⟨rfl, rfl, rfl⟩ := hcs
    simp only [if_true] at hmm
    refine ⟨zs.take len, by simp; omega, by simp; omega, fun j x hx => ?_⟩
    have hj : j < len := by have := (List.getElem?_eq_some_iff.1 hx).1; simp at this; omega
    have hspot := World.cell?_spot (hc 0 (by omega))
    obtain ⟨b, off, spot⟩ := a
    simp [Addr.add] at hspot
    subst hspot
    have hb := World.block_lt_of_cell? _ _ (hc j (by omega))
    have := hc j (by omega)
    rw [addA] at hb this
    refine ⟨b, off, rfl, Nat.zero_le _, hb, ?_⟩
    rw [this]
    rw [List.getElem?_take_of_lt hj] at hx
    simp [List.getD, hx]
theorem pairs_of {H : Type} {enc : TypeId × Value → H} {W : World} {a0 : Option Addr} {len cap fuel : Nat} {d : DataW H} {p : List MemPlace} (h : DataW.trod enc Try.prog W 0 (fun _ => true) true fuel 22 [.slice a0 len cap] = some (d, p)) :
    ∃ xs : List (Int × Int), xs.length = len ∧ xs.length ≤ maxLen ∧ Pur.SeesP W a0 xs := by
  rcases Deep.open_slice_pairs Try.underlying22 Try.underlying27 cellsO rfl rfl cellsI cellsI h with ⟨hcs, _⟩ | ⟨a, len', cap', m, n, V0, V1, D0, D1, P0, P1, hcs, _, hl, hm, hmm, _, hc⟩
  · simp at hcs
    obtain ⟨rfl, rfl, rfl⟩ := hcs
    exact ⟨[], rfl, by unfold maxLen; simp, fun j x hx => by simp at hx⟩
  · simp at hcs
    obtain ⟨rfl, rfl, rfl⟩ := hcs
    simp only [if_true] at hmm
    have hs : ∀ i, ∃ x : Int × Int, i < m → V0 i = .int .i64 x.1 ∧ V1 i = .int .i64 x.2 := by
      intro i
      by_cases hi : i < m
      · obtain ⟨_, _, h0, h1⟩ := hc i hi
        obtain ⟨s0, e0, _, _⟩ := DataW.trod_int Try.underlying3 h0
        obtain ⟨s1, e1, _, w1⟩ := DataW.trod_int Try.underlying3 h1
        simp at e0 e1
        exact ⟨(s0, s1), fun _ => ⟨e0, e1⟩⟩
      · exact ⟨(0, 0), fun h => absurd h hi⟩
    obtain ⟨X, hX⟩ := Classical.skolem.1 hs
    refine ⟨(List.range len).map X, by simp, by simp; omega, fun j x hx => ?_⟩
    have hj : j < len := by have := (List.getElem?_eq_some_iff.1 hx).1; simpa using this
    have e1 : x = X j := by simp [hj] at hx; exact hx.symm
    subst e1
    obtain ⟨g0, g1, _⟩ := hc j (by omega)
    have hspot := World.cell?_spot (hc 0 (by omega)).1
    obtain ⟨b, off, spot⟩ := a
    simp [Addr.add] at hspot
    subst hspot
    have hb := World.block_lt_of_cell? _ _ g0
    rw [addA] at g0 hb
    rw [addA] at g1
    rw [(hX j (by omega)).1] at g0
    rw [(hX j (by omega)).2] at g1
    exact ⟨b, off, rfl, hb, g0, g1⟩
end Go.Proofs.Ytlnlhimnbiabcaa
