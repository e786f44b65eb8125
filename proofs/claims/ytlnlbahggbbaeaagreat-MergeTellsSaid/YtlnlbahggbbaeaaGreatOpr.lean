/- Openers: rows. -/
import Derived.Test.YtlnlbahggbbaeaaGreatGg
import Derived.Deep.SlicePairs
import Derived.WalkKit
import Derived.ProofKit
import Derived.OpenShut
import Derived.SizedLaws
import Derived.ChangeSlices
import Derived.SliceStrings
namespace Go.Proofs.YtlnlbahggbbaeaaGreat.Opn
open Go.ChangeShapes Go.WideShapes Go.ChangeAt Go.RowKit
theorem addr_add (b off i : Nat) : (⟨b, off, none⟩ : Addr).add i = ⟨b, off + i, none⟩ := by
  unfold Addr.add; split
  · next h => subst h; rfl
  · rfl
/-- A slice of pairs: each of its elements read. -/
theorem pairs_of {H : Type} {enc : TypeId × Value → H} {P : Program} {W : World} {A B : Type} [Inhabited A] [Inhabited B] (Q0 : Value → A → Prop) (Q1 : Value → B → Prop)
    {t e : TypeId} {f0 f1 : Field} {a0 : Option Addr} {len cap fuel : Nat} {d : DataW H} {p : List MemPlace} (ht : P.underlying t = some (.slice e)) (he : P.underlying e = some (.struct #[f0, f1]))
    (ce : P.cellsOf e = 2) (o0 : f0.offset = 0) (o1 : f1.offset = 1) (c0 : P.cellsOf f0.type = 1) (c1 : P.cellsOf f1.type = 1)
    (h0 : ∀ n v x, DataW.trod enc P W 0 (fun _ => true) true n f0.type [v] = some x → ∃ a, Q0 v a) (h1 : ∀ n v x, DataW.trod enc P W 0 (fun _ => true) true n f1.type [v] = some x → ∃ a, Q1 v a)
    (h : DataW.trod enc P W 0 (fun _ => true) true fuel t [.slice a0 len cap] = some (d, p)) :
    ∃ xs : List (A × B), xs.length = len ∧ len ≤ cap ∧ cap ≤ maxLen ∧ (a0 = none → cap = 0) ∧ (xs = [] ∨ ∃ b off, a0 = some ⟨b, off, none⟩ ∧ b < W.heap.size ∧ ∀ (j : Nat) (x : A × B), xs[j]? = some x → ∃ u v, W.cell? ⟨b, off + j * 2, none⟩ = some u ∧ W.cell? ⟨b, off + j * 2 + 1, none⟩ = some v ∧ Q0 u x.1 ∧ Q1 v x.2) := by
  rcases Deep.open_slice_pairs ht he ce o0 o1 c0 c1 h with ⟨hcs, _⟩ | ⟨a, len', cap', m, n, V0, V1, D0, D1, P0, P1, hcs, _, hl, hm, hmm, _, hc⟩
  · simp at hcs
    obtain ⟨rfl, rfl, rfl⟩ := hcs
    exact ⟨[], rfl, Nat.le_refl _, Nat.zero_le _, fun _ => rfl, .inl rfl⟩
  · simp at hcs
    obtain ⟨rfl, rfl, rfl⟩ := hcs
    simp only [if_true] at hmm
    obtain ⟨X, hX⟩ : ∃ X : Nat → A × B, ∀ i, i < m → Q0 (V0 i) (X i).1 ∧ Q1 (V1 i) (X i).2 := by
      have h2 : ∀ i, ∃ x : A × B, i < m → Q0 (V0 i) x.1 ∧ Q1 (V1 i) x.2 := fun i => by
        by_cases hi : i < m
        · obtain ⟨_, _, g0, g1⟩ := hc i hi
          obtain ⟨x, hx⟩ := h0 _ _ _ g0
          obtain ⟨y, hy⟩ := h1 _ _ _ g1
          exact ⟨(x, y), fun _ => ⟨hx, hy⟩⟩
        · exact ⟨default, fun h => absurd h hi⟩
      exact Classical.skolem.1 h2
    refine ⟨(List.range len).map X, by simp, hl, hm, (fun h => by cases h), ?_⟩
    by_cases hz : len = 0
    · subst hz; exact .inl rfl
    · have hspot := World.cell?_spot (hc 0 (by omega)).1
      obtain ⟨b, off, spot⟩ := a
      simp [Addr.add] at hspot
      subst hspot
      have hb := World.block_lt_of_cell? _ _ (hc 0 (by omega)).1
      rw [addr_add] at hb
      refine .inr ⟨b, off, rfl, hb, fun j x hx => ?_⟩
      have hj : j < len := by have := (List.getElem?_eq_some_iff.1 hx).1; simpa using this
      have e1 : x = X j := by simp [hj] at hx; exact hx.symm
      subst e1
      obtain ⟨g0, g1, _⟩ := hc j (by omega)
      rw [addr_add] at g0 g1
      exact ⟨_, _, g0, g1, hX j (by omega)⟩

section
variable {H : Type} {enc : TypeId × Value → H} {W : World}
theorem cellsL : Tryz.prog.cellsOf 99 = 2 := by kernel_rfl
theorem cells_s : Tryz.prog.cellsOf 9 = 1 := by kernel_rfl
theorem cellsR : Tryz.prog.cellsOf 51 = 2 := by kernel_rfl
theorem cells_i : Tryz.prog.cellsOf 3 = 1 := by kernel_rfl
theorem cells_l : Tryz.prog.cellsOf 49 = 1 := by kernel_rfl
/-- A value that is a slice: its form. -/
theorem slice_of {t e : TypeId} {n : Nat} {v : Value} {x : DataW H × List MemPlace} (ht : Tryz.prog.underlying t = some (.slice e)) (h : DataW.trod enc Tryz.prog W 0 (fun _ => true) true n t [v] = some x) : ∃ o l c, v = .slice o l c := by
  rcases Deep.open_slice ht h with ⟨hcs, _⟩ | ⟨a, len', cap', m, k, D, Pl, hcs, _⟩
  · simp at hcs; exact ⟨none, 0, 0, hcs⟩
  · simp at hcs; exact ⟨some a, len', cap', hcs⟩
theorem labels_of {a0 : Option Addr} {len cap fuel : Nat} {d : DataW H} {p : List MemPlace} (h : DataW.trod enc Tryz.prog W 0 (fun _ => true) true fuel 49 [.slice a0 len cap] = some (d, p)) :
    ∃ xs : List Go.Proofs.YtlnlbahggbbaeaaGreat.Lab, xs.length = len ∧ Go.Proofs.YtlnlbahggbbaeaaGreat.SeesO W a0 xs ∧ len ≤ cap ∧ cap ≤ maxLen ∧ (a0 = none → cap = 0) ∧ (∀ x ∈ xs, x.1.size ≤ maxLen ∧ x.2.size ≤ maxLen) := by
  obtain ⟨xs, h1, h2, h3, h4, h5⟩ := pairs_of (A := ByteArray) (B := ByteArray) (fun v a => v = .string a ∧ a.size ≤ maxLen) (fun v a => v = .string a ∧ a.size ≤ maxLen) Tryz.underlying49 Tryz.underlying99 cellsL rfl rfl cells_s cells_s
    (fun n v x h => by obtain ⟨s, e, _, hs⟩ := DataW.trod_string Tryz.underlying9 h; simp at e; exact ⟨s, e, hs⟩)
    (fun n v x h => by obtain ⟨s, e, _, hs⟩ := DataW.trod_string Tryz.underlying9 h; simp at e; exact ⟨s, e, hs⟩) h
  refine ⟨xs, h1, ?_, h2, h3, h4, fun x hx => ?_⟩
  · rcases h5 with h5 | ⟨b, off, e, hb, hc⟩
    · exact .inl h5
    · refine .inr ⟨b, off, e, hb, fun j x hx => ?_, fun j x hx => ?_⟩
      · obtain ⟨u, v, g0, g1, ⟨rfl, _⟩, _⟩ := hc j x hx; exact g0
      · obtain ⟨u, v, g0, g1, _, ⟨rfl, _⟩⟩ := hc j x hx; exact g1
  · rcases h5 with rfl | ⟨b, off, e, hb, hc⟩
    · simp at hx
    · obtain ⟨j, hj, rfl⟩ := List.mem_iff_getElem.1 hx
      obtain ⟨u, v, _, _, ⟨_, s0⟩, ⟨_, s1⟩⟩ := hc j _ (List.getElem?_eq_getElem hj)
      exact ⟨s0, s1⟩
theorem rows_of {a0 : Option Addr} {len cap fuel : Nat} {d : DataW H} {p : List MemPlace} (h : DataW.trod enc Tryz.prog W 0 (fun _ => true) true fuel 25 [.slice a0 len cap] = some (d, p)) :
    ∃ xs : List Vec.Rw, xs.length = len ∧ len ≤ maxLen ∧ Vec.RowsS W W.heap.size a0 xs := by
  obtain ⟨xs, h1, h2, h3, h4, h5⟩ := pairs_of (A := List Go.Proofs.YtlnlbahggbbaeaaGreat.Lab) (B := Int)
    (fun u x => ∃ o c, u = .slice o x.length c ∧ Go.Proofs.YtlnlbahggbbaeaaGreat.SeesO W o x ∧ x.length ≤ maxLen) (fun v a => v = .int .i64 a)
    Tryz.underlying25 Tryz.underlying51 cellsR rfl rfl cells_l cells_i
    (fun n v x h => by
      obtain ⟨o, l, c, rfl⟩ := slice_of Tryz.underlying49 h
      obtain ⟨xs, rfl, g1, g2, g3, _, _⟩ := labels_of (d := x.1) (p := x.2) h
      exact ⟨xs, o, c, rfl, g1, Nat.le_trans g2 g3⟩)
    (fun n v x h => by obtain ⟨s, e, _, _⟩ := DataW.trod_int Tryz.underlying3 h; simp at e; exact ⟨s, e⟩) h
  refine ⟨xs, h1, Nat.le_trans h2 h3, ?_⟩
  rcases h5 with h5 | ⟨b, off, e, hb, hc⟩
  · exact .inl h5
  · refine .inr ⟨b, off, e, hb, fun j x hx => ?_⟩
    obtain ⟨u, v, g0, g1, ⟨oL, cL, e1, s1, l1⟩, e2⟩ := hc j x hx
    refine ⟨[u, v], ⟨oL, cL, by rw [e1, e2], ⟨s1, fun hne b2 off2 eo => .inl ?_⟩, l1⟩, fun i y hy => ?_⟩
    · rcases s1 with s1 | ⟨b3, off3, eo3, hS⟩
      · exact absurd s1 hne
      · rw [eo] at eo3; cases eo3; exact hS.low
    · match i, hy with
      | 0, hy => simp at hy; subst hy; exact g0
      | 1, hy => simp at hy; subst hy; rw [← Nat.add_assoc]; exact g1
      | i + 2, hy => simp at hy
end
end Go.Proofs.YtlnlbahggbbaeaaGreat.Opn
namespace Go.Proofs.YtlnlbahggbbaeaaGreat
open Go.ChangeShapes Go.WideShapes Go.ChangeAt Go.RowKit
theorem own : ownKnob Tryz.prog.godebug = none := by kernel_rfl
end Go.Proofs.YtlnlbahggbbaeaaGreat
