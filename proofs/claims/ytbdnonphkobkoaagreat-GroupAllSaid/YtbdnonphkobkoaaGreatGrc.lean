/- Groups in memory, and the sort of groups of one row each. -/
import Derived.Test.YtbdnonphkobkoaaGreatGrb
import Derived.Test.YtbdnonphkobkoaaGreatSwg
namespace Go.Proofs.YtbdnonphkobkoaaGreat.Grp
open Go.RowKit Go.Lib Go.Sort Vec

abbrev One := Labs × Rw
def oneOf (x : One) : Grp := (x.1, [x.2])
/-- A group of one row, as it lies in memory: its row has a block of its own. -/
def EOne : Elem One := fun w u x => ∃ oK cK b oL cL m, u = [.slice oK x.1.length cK, .slice (some ⟨b, 0, none⟩) 1 1] ∧ LabS w 0 oK x.1 ∧ x.1.length ≤ maxLen ∧ w.heap[b]? = some (.cells #[.slice oL x.2.1.length cL, .int .i64 x.2.2] 53 m) ∧ LabS w 0 oL x.2.1 ∧ x.2.1.length ≤ maxLen
/-- A group, as it lies in memory: its rows lie in a block below D. -/
def EGrp (D : Nat) : Elem Grp := fun w u x => ∃ oK cK b cR cs m, u = [.slice oK x.1.length cK, .slice (some ⟨b, 0, none⟩) x.2.length cR] ∧ LabS w 0 oK x.1 ∧ x.1.length ≤ maxLen ∧ b < D ∧ w.heap[b]? = some (.cells cs 53 m) ∧ SeesG (ERow 0) 2 w b 0 x.2 ∧ x.2.length ≤ maxLen

theorem neLG : 62 ≠ 115 := by decide
theorem neRG : 53 ≠ 115 := by decide
theorem heap_lt {w : World} {b : Nat} {o : Obj} (h : w.heap[b]? = some o) : b < w.heap.size := (Array.getElem?_eq_some_iff.1 h).1

theorem heap_grown {w w' : World} {b : Nat} {cs : Array Value} {t t2 : TypeId} {m : Nat × Nat} {row : Option Nat} (h : w.heap[b]? = some (.cells cs t m)) (hne : t ≠ t2) (hr : ∀ g, row = some g → ∃ cs m, w.heap[g]? = some (.cells cs t2 m)) (hg : w.grownBy w' row) : w'.heap[b]? = some (.cells cs t m) := by
  rw [hg.block b (heap_lt h) ?_]; exact h
  intro e
  obtain ⟨cs2, m2, h2⟩ := hr b e.symm
  rw [h] at h2
  cases h2
  exact hne rfl

theorem firmOne {B : Nat} : Firm EOne 2 115 B where
  wide := fun w u x ⟨oK, cK, b, oL, cL, m, h, _⟩ => by rw [h]; rfl
  below := fun w w' u x ⟨oK, cK, b, oL, cL, m, h1, h2, h3, h4, h5, h6⟩ hb => ⟨oK, cK, b, oL, cL, m, h1, h2.below hb, h3, (hb.block b (heap_lt h4)).trans h4, h5.below hb, h6⟩
  grown := fun w w' u x row ⟨oK, cK, b, oL, cL, m, h1, h2, h3, h4, h5, h6⟩ hr hg => ⟨oK, cK, b, oL, cL, m, h1, h2.grown neLG (fun g hg => ⟨Nat.zero_le _, (hr g hg).2⟩) hg, h3, heap_grown h4 neRG (fun g hg => (hr g hg).2) hg, h5.grown neLG (fun g hg => ⟨Nat.zero_le _, (hr g hg).2⟩) hg, h6⟩
  cell := fun w u x ⟨oK, cK, b, oL, cL, m, h, _⟩ v hv => by rw [h] at hv; simp at hv; rcases hv with rfl | rfl <;> rfl

theorem sees_grown {w w' : World} {b : Nat} {xs : List Rw} {row : Option Nat} {t : TypeId} (hne : 62 ≠ t) (h : SeesG (ERow 0) 2 w b 0 xs) (hb : w'.heap[b]? = w.heap[b]?) (hr : ∀ g, row = some g → ∃ cs m, w.heap[g]? = some (.cells cs t m)) (hg : w.grownBy w' row) : SeesG (ERow 0) 2 w' b 0 xs :=
  ⟨Nat.lt_of_lt_of_le h.low hg.size, fun j x hx => by
    obtain ⟨u, ⟨o, c, h1, h2, h3⟩, h4⟩ := h.at0 j x hx
    exact ⟨u, ⟨o, c, h1, h2.grown hne (fun g hg => ⟨Nat.zero_le _, hr g hg⟩) hg, h3⟩, fun i v hv => (World.cell?_of_block hb).trans (h4 i v hv)⟩⟩

theorem firmGrp {D B : Nat} : Firm (EGrp D) 2 115 B where
  wide := fun w u x ⟨oK, cK, b, cR, cs, m, h, _⟩ => by rw [h]; rfl
  below := fun w w' u x ⟨oK, cK, b, cR, cs, m, h1, h2, h3, h4, h5, h6, h7⟩ hb => ⟨oK, cK, b, cR, cs, m, h1, h2.below hb, h3, h4, (hb.block b (heap_lt h5)).trans h5, h6.below frow hb, h7⟩
  grown := fun w w' u x row ⟨oK, cK, b, cR, cs, m, h1, h2, h3, h4, h5, h6, h7⟩ hr hg => by
    have h8 := heap_grown h5 neRG (fun g hg => (hr g hg).2) hg
    exact ⟨oK, cK, b, cR, cs, m, h1, h2.grown neLG (fun g hg => ⟨Nat.zero_le _, (hr g hg).2⟩) hg, h3, h4, h8, sees_grown neLG h6 (h8.trans h5.symm) (fun g hg => (hr g hg).2) hg, h7⟩
  cell := fun w u x ⟨oK, cK, b, cR, cs, m, h, _⟩ v hv => by rw [h] at hv; simp at hv; rcases hv with rfl | rfl <;> rfl

theorem EGrp.mono {D D' : Nat} {w : World} {u : List Value} {x : Grp} (h : EGrp D w u x) (hD : D ≤ D') : EGrp D' w u x := by
  obtain ⟨oK, cK, b, cR, cs, m, h1, h2, h3, h4, h5⟩ := h
  exact ⟨oK, cK, b, cR, cs, m, h1, h2, h3, Nat.lt_of_lt_of_le h4 hD, h5⟩
/-- .. behind a row of rows that grows in a block from D on. -/
theorem EGrp.rows {D : Nat} {w w' : World} {u : List Value} {x : Grp} {row : Option Nat} (h : EGrp D w u x) (hr : ∀ g, row = some g → D ≤ g ∧ ∃ cs m, w.heap[g]? = some (.cells cs 53 m)) (hg : w.grownBy w' row) : EGrp D w' u x := by
  obtain ⟨oK, cK, b, cR, cs, m, h1, h2, h3, h4, h5, h6, h7⟩ := h
  have h8 : w'.heap[b]? = w.heap[b]? := hg.block b (heap_lt h5) (fun e => by have := (hr b e.symm).1; omega)
  exact ⟨oK, cK, b, cR, cs, m, h1, h2.grown neRow (fun g hg => ⟨Nat.zero_le _, (hr g hg).2⟩) hg, h3, h4, h8.trans h5, sees_grown neRow h6 h8 (fun g hg => (hr g hg).2) hg, h7⟩

theorem EOne.grp {w : World} {u : List Value} {x : One} {D : Nat} (h : EOne w u x) (hD : w.heap.size ≤ D) : EGrp D w u (oneOf x) := by
  obtain ⟨oK, cK, b, oL, cL, m, h1, h2, h3, h4, h5, h6⟩ := h
  refine ⟨oK, cK, b, 1, _, m, h1, h2, h3, Nat.lt_of_lt_of_le (heap_lt h4) hD, h4, ⟨heap_lt h4, ?_⟩, by show 1 ≤ maxLen; unfold maxLen; omega⟩
  intro j y hy
  match j, hy with
  | 0, hy =>
    simp only [oneOf, List.getElem?_cons_zero, Option.some.injEq] at hy
    subst hy
    refine ⟨_, ⟨oL, cL, rfl, h5, h6⟩, fun i v hv => ?_⟩
    rw [Nat.zero_add, Nat.zero_mul, Nat.zero_add]
    unfold World.cell?
    simp only [h4]
    match i, hv with
    | 0, hv => simpa using hv
    | 1, hv => simpa using hv
  | j + 1, hy => simp [oneOf] at hy
end Go.Proofs.YtbdnonphkobkoaaGreat.Grp
