/- Openers: lists of rows. -/
import Derived.Test.YtlnlbahggbbaeaaGreatOpr
import Derived.Test.YtlnlbahggbbaeaaGreatMln
namespace Go.Proofs.YtlnlbahggbbaeaaGreat.Opn
open Go.ChangeShapes Go.WideShapes Go.ChangeAt Go.RowKit Go.Proofs.YtlnlbahggbbaeaaGreat.Mrg
section
variable {H : Type} {enc : TypeId × Value → H} {W : World}
theorem rowsc_of {a0 : Option Addr} {len cap fuel : Nat} {d : DataW H} {p : List MemPlace} (h : DataW.trod enc Tryz.prog W 0 (fun _ => true) true fuel 25 [.slice a0 len cap] = some (d, p)) :
    ∃ xs : List Vec.Rw, xs.length = len ∧ len ≤ cap ∧ cap ≤ maxLen ∧ Vec.RowsS W W.heap.size a0 xs := by
  obtain ⟨xs, h1, _, h3⟩ := rows_of h
  rcases Deep.open_slice Tryz.underlying25 h with ⟨hcs, _⟩ | ⟨a, len', cap', m, k, D, Pl, hcs, _, hl, hm, _⟩
  · simp at hcs
    obtain ⟨rfl, rfl, rfl⟩ := hcs
    exact ⟨xs, h1, Nat.le_refl _, Nat.zero_le _, h3⟩
  · simp at hcs
    obtain ⟨rfl, rfl, rfl⟩ := hcs
    exact ⟨xs, h1, hl, hm, h3⟩
theorem cells_rs : Tryz.prog.cellsOf 25 = 1 := by kernel_rfl
theorem lists_of {a0 : Option Addr} {len cap fuel : Nat} {d : DataW H} {p : List MemPlace} (h : DataW.trod enc Tryz.prog W 0 (fun _ => true) true fuel 22 [.slice a0 len cap] = some (d, p)) :
    ∃ ms : List Ls, ms.length = len ∧ ListG W W.heap.size a0 ms := by
  rcases Deep.open_slice Tryz.underlying22 h with ⟨hcs, _⟩ | ⟨a, len', cap', m, n, D, Pl, hcs, _, hl, hm, hmm, _, hc⟩
  · simp at hcs
    obtain ⟨rfl, rfl, rfl⟩ := hcs
    exact ⟨[], rfl, .inl rfl⟩
  · simp at hcs
    obtain ⟨rfl, rfl, rfl⟩ := hcs
    simp only [if_true] at hmm
    rw [cells_rs] at hc
    have h2 : ∀ i, ∃ x : Ls, i < m → W.cell? (a.add (i * 1)) = some (.slice x.o x.xs.length x.c) ∧ x.xs.length ≤ x.c ∧ x.xs.length ≤ maxLen ∧ Vec.RowsS W W.heap.size x.o x.xs := fun i => by
      by_cases hi : i < m
      · obtain ⟨cs', g0, g1⟩ := hc i hi
        obtain ⟨u, rfl⟩ : ∃ u, cs' = [u] := by
          have := (World.cells?_some g0).2.1
          match cs', this with
          | [u], _ => exact ⟨u, rfl⟩
        obtain ⟨o, l, c, rfl⟩ := slice_of Tryz.underlying25 g1
        obtain ⟨xs, rfl, k1, k2, k3⟩ := rowsc_of (d := D i) (p := Pl i) g1
        exact ⟨⟨o, c, xs⟩, fun _ => ⟨cell_of_cells?_one g0, k1, Nat.le_trans k1 k2, k3⟩⟩
      · exact ⟨⟨none, 0, []⟩, fun h => absurd h hi⟩
    obtain ⟨X, hX⟩ := Classical.skolem.1 h2
    refine ⟨(List.range len).map X, by simp, ?_⟩
    by_cases hz : len = 0
    · subst hz; exact .inl rfl
    · have hspot := World.cell?_spot (hX 0 (by omega)).1
      obtain ⟨b, off, spot⟩ := a
      simp [Addr.add] at hspot
      subst hspot
      have hb := World.block_lt_of_cell? _ _ (hX 0 (by omega)).1
      rw [addr_add] at hb
      refine .inr ⟨b, off, rfl, hb, fun j x hx => ?_⟩
      have hj : j < len := by have := (List.getElem?_eq_some_iff.1 hx).1; simpa using this
      have e1 : x = X j := by simp [hj] at hx; exact hx.symm
      subst e1
      obtain ⟨g0, g1⟩ := hX j (by omega)
      rw [addr_add, Nat.mul_one] at g0
      exact ⟨g0, g1⟩
end
end Go.Proofs.YtlnlbahggbbaeaaGreat.Opn

namespace Go.Proofs.YtlnlbahggbbaeaaGreat
open Go.ChangeShapes Go.WideShapes Go.ChangeAt Go.RowKit
theorem laidOut : laidOutB Tryz.prog = true := by kernel_rfl
end Go.Proofs.YtlnlbahggbbaeaaGreat
