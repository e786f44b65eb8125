/- What the arguments give the walks: operations on a store. -/
import Derived.Test.YtmidpekkomhogaaMg12
import Derived.Deep.SlicePairs
import Derived.WalkKit
import Derived.ProofKit
import Derived.OpenShut
import Derived.SizedLaws
import Derived.ChangeSlices
import Derived.Lib.SmallJoins
section

namespace Go.Proofs.Ytmidpekkomhogaa.Sto
open Go.RowKit

end Go.Proofs.Ytmidpekkomhogaa.Sto
end

section

namespace Go.Proofs.Ytmidpekkomhogaa.Sto
open Go.RowKit

end Go.Proofs.Ytmidpekkomhogaa.Sto
end

section

namespace Go.Proofs.Ytmidpekkomhogaa.Sto
open Go.RowKit

end Go.Proofs.Ytmidpekkomhogaa.Sto
end

section

namespace Go.Proofs.Ytmidpekkomhogaa.Sto
open Go.RowKit

end Go.Proofs.Ytmidpekkomhogaa.Sto
end

section

namespace Go.Proofs.Ytmidpekkomhogaa.Opn
open Go.ChangeShapes Go.WideShapes Go.ChangeAt Go.RowKit

theorem addr_add (b off i : Nat) : (⟨b, off, none⟩ : Addr).add i = ⟨b, off + i, none⟩ := by
  unfold Addr.add; split
  · next h => subst h; rfl
  · rfl
theorem pairs_of {H : Type} {enc : TypeId × Value → H} {P : Program} {W : World} {A B : Type} [Inhabited A] [Inhabited B] (Q0 : Value → A → Prop) (Q1 : Value → B → Prop)
    {t e : TypeId} {f0 f1 : Field} {a0 : Option Addr} {len cap fuel : Nat} {d : DataW H} {p : List MemPlace} (ht : P.underlying t = some (.slice e)) (he : P.underlying e = some (.struct #[f0, f1]))
    (ce : P.cellsOf e = 2) (o0 : f0.offset = 0) (o1 : f1.offset = 1) (c0 : P.cellsOf f0.type = 1) (c1 : P.cellsOf f1.type = 1)
    (h0 : ∀ n v x, DataW.trod enc P W 0 (fun _ => true) true n f0.type [v] = some x → ∃ a, Q0 v a) (h1 : ∀ n v x, DataW.trod enc P W 0 (fun _ => true) true n f1.type [v] = some x → ∃ a, Q1 v a)
    (h : DataW.trod enc P W 0 (fun _ => true) true fuel t [.slice a0 len cap] = some (d, p)) :
    ∃ xs : List (A × B), xs.length = len ∧ len ≤ cap ∧ cap ≤ maxLen ∧ (a0 = none → cap = 0) ∧ (xs = [] ∨ ∃ b off, a0 = some ⟨b, off, none⟩ ∧ b < W.heap.size ∧ ∀ (j : Nat) (x : A × B), xs[j]? = some x → ∃ u v, W.cell? ⟨b, off + j * 2, none⟩ = some u ∧ W.cell? ⟨b, off + j * 2 + 1, none⟩ = some v ∧ Q0 u x.1 ∧ Q1 v x.2) := by
  rcases Deep.open_slice_pairs ht he ce o0 o1 c0 c1 h with ⟨hcs, _⟩ | ⟨a, len', cap', m, n, V0, V1, D0, D1, P0, P1, hcs, _, hl, hm, hmm, _, hc⟩
  · simp at hcs
    obtain ⟨rfl, rfl, rfl⟩ := hcs
    exact ⟨[], rfl, Nat.le_refl _, Nat.zero_le _, fun _ => rfl, .inl rfl⟩
  · simp at hcs
    obtain ⟨rfl, rfl, rfl⟩ := hcs
    simp only [if_true] at hmm
    obtain ⟨X, hX⟩ : ∃ X : Nat → A × B, ∀ i, i < m → Q0 (V0 i) (X i).1 ∧ Q1 (V1 i) (X i).2 := by
      have h2 : ∀ i, ∃ x : A × B, i < m → Q0 (V0 i) x.1 ∧ Q1 (V1 i) x.2 := fun i => by
        by_cases hi : i < m
        · obtain ⟨_, _, g0, g1⟩ := hc i hi
          obtain ⟨x, hx⟩ := h0 _ _ _ g0
          obtain ⟨y, hy⟩ := h1 _ _ _ g1
          exact ⟨(x, y), fun _ => ⟨hx, hy⟩⟩
        · exact ⟨default, fun h => absurd h hi⟩
      exact Classical.skolem.1 h2
    refine ⟨(List.range len).map X, by simp, hl, hm, (fun h => by cases h), ?_⟩
    by_cases hz : len = 0
    · subst hz; exact .inl rfl
    · have hspot := World.cell?_spot (hc 0 (by omega)).1
      obtain ⟨b, off, spot⟩ := a
      simp [Addr.add] at hspot
      subst hspot
      have hb := World.block_lt_of_cell? _ _ (hc 0 (by omega)).1
      rw [addr_add] at hb
      refine .inr ⟨b, off, rfl, hb, fun j x hx => ?_⟩
      have hj : j < len := by have := (List.getElem?_eq_some_iff.1 hx).1; simpa using this
      have e1 : x = X j := by simp [hj] at hx; exact hx.symm
      subst e1
      obtain ⟨g0, g1, _⟩ := hc j (by omega)
      rw [addr_add] at g0 g1
      exact ⟨_, _, g0, g1, hX j (by omega)⟩

section
variable {H : Type} {enc : TypeId × Value → H} {W : World}
theorem cellsL : Try.prog.cellsOf 49 = 2 := by kernel_rfl
theorem cells_s : Try.prog.cellsOf 9 = 1 := by kernel_rfl
theorem cells_i : Try.prog.cellsOf 3 = 1 := by kernel_rfl
theorem cells_l : Try.prog.cellsOf 34 = 1 := by kernel_rfl
theorem slice_of {t e : TypeId} {n : Nat} {v : Value} {x : DataW H × List MemPlace} (ht : Try.prog.underlying t = some (.slice e)) (h : DataW.trod enc Try.prog W 0 (fun _ => true) true n t [v] = some x) : ∃ o l c, v = .slice o l c := by
  rcases Deep.open_slice ht h with ⟨hcs, _⟩ | ⟨a, len', cap', m, k, D, Pl, hcs, _⟩
  · simp at hcs; exact ⟨none, 0, 0, hcs⟩
  · simp at hcs; exact ⟨some a, len', cap', hcs⟩
theorem labels_of {a0 : Option Addr} {len cap fuel : Nat} {d : DataW H} {p : List MemPlace} (h : DataW.trod enc Try.prog W 0 (fun _ => true) true fuel 34 [.slice a0 len cap] = some (d, p)) :
    ∃ xs : List Go.Proofs.Ytmidpekkomhogaa.Lab, xs.length = len ∧ Go.Proofs.Ytmidpekkomhogaa.SeesO W a0 xs ∧ len ≤ cap ∧ cap ≤ maxLen ∧ (a0 = none → cap = 0) ∧ (∀ x ∈ xs, x.1.size ≤ maxLen ∧ x.2.size ≤ maxLen) := by
  obtain ⟨xs, h1, h2, h3, h4, h5⟩ := pairs_of (A := ByteArray) (B := ByteArray) (fun v a => v = .string a ∧ a.size ≤ maxLen) (fun v a => v = .string a ∧ a.size ≤ maxLen) Try.underlying34 Try.underlying49 cellsL rfl rfl cells_s cells_s
    (fun n v x h => by obtain ⟨s, e, _, hs⟩ := DataW.trod_string Try.underlying9 h; simp at e; exact ⟨s, e, hs⟩)
    (fun n v x h => by obtain ⟨s, e, _, hs⟩ := DataW.trod_string Try.underlying9 h; simp at e; exact ⟨s, e, hs⟩) h
  refine ⟨xs, h1, ?_, h2, h3, h4, fun x hx => ?_⟩
  · rcases h5 with h5 | ⟨b, off, e, hb, hc⟩
    · exact .inl h5
    · refine .inr ⟨b, off, e, hb, fun j x hx => ?_, fun j x hx => ?_⟩
      · obtain ⟨u, v, g0, g1, ⟨rfl, _⟩, _⟩ := hc j x hx; exact g0
      · obtain ⟨u, v, g0, g1, _, ⟨rfl, _⟩⟩ := hc j x hx; exact g1
  · rcases h5 with rfl | ⟨b, off, e, hb, hc⟩
    · simp at hx
    · obtain ⟨j, hj, rfl⟩ := List.mem_iff_getElem.1 hx
      obtain ⟨u, v, _, _, ⟨_, s0⟩, ⟨_, s1⟩⟩ := hc j _ (List.getElem?_eq_getElem hj)
      exact ⟨s0, s1⟩
end
end Go.Proofs.Ytmidpekkomhogaa.Opn
end

section

namespace Go.Proofs.Ytmidpekkomhogaa.Opn
open Go.ChangeShapes Go.WideShapes Go.ChangeAt Go.RowKit

theorem elems_of {H : Type} {enc : TypeId × Value → H} {P : Program} {W : World} {A : Type} [Inhabited A] (Q : List Value → A → Prop) {t e : TypeId} {k : Nat} (hk : 0 < k)
    {a0 : Option Addr} {len cap fuel : Nat} {d : DataW H} {p : List MemPlace} (ht : P.underlying t = some (.slice e)) (ce : P.cellsOf e = k)
    (h0 : ∀ n cs x, cs.length = k → DataW.trod enc P W 0 (fun _ => true) true n e cs = some x → ∃ a, Q cs a)
    (h : DataW.trod enc P W 0 (fun _ => true) true fuel t [.slice a0 len cap] = some (d, p)) :
    ∃ xs : List A, xs.length = len ∧ len ≤ cap ∧ cap ≤ maxLen ∧ (a0 = none → cap = 0) ∧ (xs = [] ∨ ∃ b off, a0 = some ⟨b, off, none⟩ ∧ b < W.heap.size ∧ ∀ (j : Nat) (x : A), xs[j]? = some x → ∃ cs, cs.length = k ∧ (∀ (i : Nat) (u : Value), cs[i]? = some u → W.cell? ⟨b, off + j * k + i, none⟩ = some u) ∧ Q cs x) := by
  rcases Deep.open_slice ht h with ⟨hcs, _⟩ | ⟨a, len', cap', m, n, D, Pl, hcs, _, hl, hm, hmm, _, hc⟩
  · simp at hcs
    obtain ⟨rfl, rfl, rfl⟩ := hcs
    exact ⟨[], rfl, Nat.le_refl _, Nat.zero_le _, fun _ => rfl, .inl rfl⟩
  · simp at hcs
    obtain ⟨rfl, rfl, rfl⟩ := hcs
    simp only [if_true] at hmm
    have each : ∀ i, i < m → ∃ q : List Value × A, q.1.length = k ∧ (∀ (j : Nat) (u : Value), q.1[j]? = some u → W.cell? ((a.add (i * k)).add j) = some u) ∧ Q q.1 q.2 := by
      intro i hi
      obtain ⟨cs, g1, g2⟩ := hc i hi
      rw [ce] at g1
      obtain ⟨_, hlen, hcell⟩ := World.cells?_some g1
      obtain ⟨x, hx⟩ := h0 _ _ _ hlen g2
      refine ⟨(cs, x), hlen, fun j u hj => ?_, hx⟩
      have hjl := (List.getElem?_eq_some_iff.1 hj).1
      rw [← hj]
      exact hcell j (by have : j < cs.length := hjl; omega)
    obtain ⟨X, hX⟩ : ∃ X : Nat → List Value × A, ∀ i, i < m → (X i).1.length = k ∧ (∀ (j : Nat) (u : Value), (X i).1[j]? = some u → W.cell? ((a.add (i * k)).add j) = some u) ∧ Q (X i).1 (X i).2 := by
      have h2 : ∀ i, ∃ q : List Value × A, i < m → q.1.length = k ∧ (∀ (j : Nat) (u : Value), q.1[j]? = some u → W.cell? ((a.add (i * k)).add j) = some u) ∧ Q q.1 q.2 := fun i => by
        by_cases hi : i < m
        · obtain ⟨q, hq⟩ := each i hi; exact ⟨q, fun _ => hq⟩
        · exact ⟨default, fun h => absurd h hi⟩
      exact Classical.skolem.1 h2
    refine ⟨(List.range len).map fun i => (X i).2, by simp, hl, hm, (fun h => by cases h), ?_⟩
    by_cases hz : len = 0
    · subst hz; exact .inl rfl
    · obtain ⟨x1, x2, _⟩ := hX 0 (by omega)
      obtain ⟨u0, hu0⟩ : ∃ u, (X 0).1[0]? = some u := ⟨_, List.getElem?_eq_getElem (by omega)⟩
      have hcell := x2 0 u0 hu0
      have hspot := World.cell?_spot hcell
      obtain ⟨b, off, spot⟩ := a
      simp [Addr.add] at hspot
      subst hspot
      have hb := World.block_lt_of_cell? _ _ hcell
      rw [addr_add, addr_add] at hb
      refine .inr ⟨b, off, rfl, hb, fun j x hx => ?_⟩
      have hj : j < len := by have := (List.getElem?_eq_some_iff.1 hx).1; simpa using this
      have e1 : x = (X j).2 := by simp [hj] at hx; exact hx.symm
      subst e1
      obtain ⟨y1, y2, y3⟩ := hX j (by omega)
      refine ⟨(X j).1, y1, fun i u hu => ?_, y3⟩
      have := y2 i u hu
      rw [addr_add, addr_add] at this
      exact this
end Go.Proofs.Ytmidpekkomhogaa.Opn
end

section

namespace Go.Proofs.Ytmidpekkomhogaa
open Go.ChangeShapes Go.WideShapes Go.ChangeAt Go.RowKit

theorem laidOut : laidOutB Try.prog = true := by kernel_rfl
theorem cellsOp : Try.prog.cellsOf 36 = 4 := by kernel_rfl
theorem cellsB : Try.prog.cellsOf 4 = 1 := by kernel_rfl
theorem four {A : Type} {l : List A} (h : l.length = 4) : ∃ a b c d, l = [a, b, c, d] := by
  match l, h with
  | [a, b, c, d], _ => exact ⟨a, b, c, d, rfl⟩
set_option maxRecDepth 100000 in
theorem ops_of {H : Type} {enc : TypeId × Value → H} {W : World} {a0 : Option Addr} {len cap fuel : Nat} {d : DataW H} {p : List MemPlace} (h : DataW.trod enc Try.prog W 0 (fun _ => true) true fuel 22 [.slice a0 len cap] = some (d, p)) :
    ∃ xs : List Sto.OpT, xs.length = len ∧ len ≤ maxLen ∧ Sto.SeesP W a0 xs := by
  obtain ⟨xs, h1, h2, h3, h4, h5⟩ := Opn.elems_of (A := Sto.OpT) (fun cs x => ∃ oL cL, cs = [.bool x.1, .slice oL x.2.1.length cL, .int .i64 x.2.2.1, .int .i64 x.2.2.2] ∧ SeesO W oL x.2.1 ∧ x.2.1.length ≤ maxLen) (by decide : 0 < 4) Try.underlying22 cellsOp
    (fun n cs x hl h => by
      obtain ⟨ys, k, hk, hxy, _, hxl, hf⟩ := DataW.trod_struct Try.underlying36 h
      obtain ⟨v0, v1, v2, v3, rfl⟩ := four hl
      obtain ⟨y0, y1, y2, y3, rfl⟩ := four hxl
      have g0 := hf 0 _ rfl
      have g1 := hf 1 _ rfl
      have g2 := hf 2 _ rfl
      have g3 := hf 3 _ rfl
      simp [cellsB, Opn.cells_i, Opn.cells_l] at g0 g1 g2 g3
      obtain ⟨b, e0, _⟩ := DataW.trod_bool Try.underlying4 g0
      obtain ⟨oL, nL, cL, rfl⟩ := Opn.slice_of Try.underlying34 g1
      obtain ⟨l, rfl, s1, s2, s3, _⟩ := Opn.labels_of (d := y1.1) (p := y1.2) g1
      obtain ⟨t, e2, _, _⟩ := DataW.trod_int Try.underlying3 g2
      obtain ⟨z, e3, _, _⟩ := DataW.trod_int Try.underlying3 g3
      simp at e0 e2 e3
      subst e0 e2 e3
      exact ⟨(b, l, t, z), oL, cL, rfl, s1, by show l.length ≤ maxLen; omega⟩) h
  refine ⟨xs, h1, by omega, ?_⟩
  rcases h5 with h5 | ⟨b, off, e, hb, hc⟩
  · exact .inl h5
  · refine .inr ⟨b, off, e, hb, fun j x hx => ?_⟩
    obtain ⟨cs, hl, hcell, oL, cL, rfl, s1, s2⟩ := hc j x hx
    exact ⟨oL, cL, by simpa using hcell 0 _ rfl, by simpa using hcell 1 _ rfl, s1, s2, by simpa using hcell 2 _ rfl, by simpa using hcell 3 _ rfl⟩
end Go.Proofs.Ytmidpekkomhogaa
end

section

namespace Go.Proofs.Ytmidpekkomhogaa.Sto
open Go.RowKit

end Go.Proofs.Ytmidpekkomhogaa.Sto
end
