/- The book of lists, twelfth part: the book, before one more list is kept and behind it. -/
import Derived.Test.YtbcdgccmokgmhaaKxl
namespace Go.Proofs.Ytbcdgccmokgmhaa.BkX
open Go.RowKit

/-- The book holds lists of runes, and their copies, and no others. -/
structure Booked (B bk : Nat) (w : World) (L L' : List (Value × List El)) : Prop where
  ex : ∃ (cs : Array Value) (R R' : Value), w.heap[bk]? = some (.cells cs 44 (0, 0)) ∧ cs.size = 20 ∧ cs[0]? = some R ∧ cs[1]? = some R' ∧ (∀ i, i < 20 → i ≠ 0 → i ≠ 1 → cs[i]? = some (.slice none 0 0)) ∧ Kept B w R L ∧ Kept B w R' L' ∧ (R'.ownBlock = none ∨ R'.ownBlock ≠ R.ownBlock)
  same : L.map (·.2) = L'.map (·.2)

theorem own_mono {w : World} {base base' e sz n : Nat} {v : Value} {xs : List Value} (h : w.ownsRow base e sz v n xs) (hb : base' ≤ base) : w.ownsRow base' e sz v n xs :=
  ⟨h.1, h.2.imp id fun ⟨g, cap, cur, h1, h2, h3⟩ => ⟨g, cap, cur, h1, Nat.le_trans hb h2, h3⟩⟩

theorem kept_snoc {B : Nat} {w : World} {R : Value} {L : List (Value × List El)} {v : Value} {xs : List El} (hrow : w.ownsRow B 31 1 R (L.length + 1) (L.map (·.1) ++ [v]))
    (heach : ∀ (i : Nat) (y : Value) (ys : List El), L[i]? = some (y, ys) → w.ownsRow B 9 1 y ys.length (flatE ys) ∧ ys.length ≤ 100000) (hv : w.ownsRow B 9 1 v xs.length (flatE xs)) (hx : xs.length ≤ 100000)
    (hap : ∀ (i j : Nat) (p q : Value × List El), i ≠ j → L[i]? = some p → L[j]? = some q → p.1.ownBlock = none ∨ p.1.ownBlock ≠ q.1.ownBlock) (hnew : ∀ (i : Nat) (p : Value × List El), L[i]? = some p → (p.1.ownBlock = none ∨ p.1.ownBlock ≠ v.ownBlock) ∧ (v.ownBlock = none ∨ v.ownBlock ≠ p.1.ownBlock))
    (hfew : L.length < 250) : Kept B w R (L ++ [(v, xs)]) := by
  have hlk : ∀ (i : Nat) (p : Value × List El), (L ++ [(v, xs)])[i]? = some p → (i < L.length ∧ L[i]? = some p) ∨ (i = L.length ∧ p = (v, xs)) := by
    intro i p hi
    by_cases h : i < L.length
    · rw [List.getElem?_append_left h] at hi
      exact .inl ⟨h, hi⟩
    · rw [List.getElem?_append_right (by omega)] at hi
      right
      rcases Nat.lt_or_ge (i - L.length) 1 with h9 | h9
      · have e : i - L.length = 0 := by omega
        rw [e] at hi
        simp at hi
        exact ⟨by omega, hi.symm⟩
      · rw [List.getElem?_eq_none (by simpa using h9)] at hi; cases hi
  refine ⟨by rw [List.length_append, List.map_append]; exact hrow, ?_, ?_, by rw [List.length_append]; simp; omega⟩
  · intro i y ys hi
    rcases hlk i _ hi with ⟨_, h⟩ | ⟨_, h⟩
    · exact heach i y ys h
    · cases h; exact ⟨hv, hx⟩
  · intro i j p q hij hp hq
    rcases hlk i p hp with ⟨_, h⟩ | ⟨hi, rfl⟩ <;> rcases hlk j q hq with ⟨_, h'⟩ | ⟨hj, rfl⟩
    · exact hap i j p q hij h h'
    · exact (hnew i p h).1
    · exact (hnew j q h').2
    · omega

theorem keep_any (B bk : Nat) (L L' : List (Value × List El)) (v : Value) (xs : List El) (w : World) (hB : B ≤ w.heap.size) (hBk : B ≤ bk) (h : Booked B bk w L L') (hv : w.ownsRow B 9 1 v xs.length (flatE xs)) (hx : xs.length ≤ 100000) (hfew : L.length < 250)
    (hnew : ∀ (i : Nat) (p : Value × List El), L[i]? = some p → (p.1.ownBlock = none ∨ p.1.ownBlock ≠ v.ownBlock) ∧ (v.ownBlock = none ∨ v.ownBlock ≠ p.1.ownBlock)) :
    Calls Try.prog 16 #[.pointer (some ⟨bk, 0, none⟩), v] w fun e w' => e = .returned (.tuple #[]) ∧ (∃ u, Booked B bk w' (L ++ [(v, xs)]) (L' ++ [(u, xs)])) ∧ Below B w w' ∧ ∀ (n : Nat) (y : Value) (ys : List Value), w.ownsRow B 9 1 y n ys → w'.ownsRow B 9 1 y n ys := by
  obtain ⟨⟨cs, R, R', hbk, hcs, h4, h5, hno, hK, hK', hne⟩, hsame⟩ := h
  have hLL : L'.length = L.length := by have := congrArg List.length hsame; simpa using this.symm
  refine (bookRunes_any B bk cs R R' L L' v xs w hB hK hK' hbk h4 h5 hv hx hfew hLL hne).mono ?_
  rintro e w' ⟨rfl, o1, o2, w3, w1, w5, g1, c1, g2, c2, u, s1, s2, s3, r1, a1, hu, r2, a2, m, rfl⟩
  have hbs := (Array.getElem?_eq_some_iff.1 hbk).1
  have hb3 : w3.heap[bk]? = some (.cells cs 44 (0, 0)) := by
    rw [s1.block bk (by simp; omega) (fun e => own_ne hK.row hbk (by decide) e.symm), Below.heap_alloc _ _ _ hbs]; exact hbk
  have z3 := s1.size
  have z1 := s2.size
  have z5 := s3.size
  simp at z3 z1 z5
  have hb4 := heap_setCell_same w3 bk 0 cs 44 (.slice (some ⟨g1, 0, none⟩) (L.length + 1) c1) hb3
  have hb1 := (s2.block bk (by omega)).trans hb4
  have hR3 : w3.ownsRow B 31 1 R' L'.length (L'.map (·.1)) := (hK'.row.alloc o1).kept s1 hne
  have hR1 : w1.ownsRow B 31 1 R' L'.length (L'.map (·.1)) := own_grown (own_setCell hR3 (own_ne hR3 hb3 (by decide))) (by simpa using s2)
  have hb5 : w5.heap[bk]? = some (.cells (cs.setIfInBounds 0 (.slice (some ⟨g1, 0, none⟩) (L.length + 1) c1)) 44 (0, 0)) := by
    rw [s3.block bk (by simp; omega) (fun e => own_ne hR1 hb1 (by decide) e.symm), Below.heap_alloc _ _ _ (by omega)]; exact hb1
  have hb6 := heap_setCell_same w5 bk 1 _ 44 (.slice (some ⟨g2, 0, none⟩) (L.length + 1) c2) hb5
  have far1 : ∀ {n : Nat} {y : Value} {ys : List Value}, w1.ownsRow B 9 1 y n ys → (w5.setCell ⟨bk, 1, none⟩ (.slice (some ⟨g2, 0, none⟩) (L.length + 1) c2)).ownsRow B 9 1 y n ys := fun hy => by
    have h5' := (hy.alloc o2).kept s3 (own_far hy hR1 (by decide))
    exact own_setCell h5' (own_ne h5' hb5 (by decide))
  have far : ∀ {n : Nat} {y : Value} {ys : List Value}, w.ownsRow B 9 1 y n ys → (w5.setCell ⟨bk, 1, none⟩ (.slice (some ⟨g2, 0, none⟩) (L.length + 1) c2)).ownsRow B 9 1 y n ys := fun hy => by
    have h3' := (hy.alloc o1).kept s1 (own_far hy hK.row (by decide))
    exact far1 (own_grown (own_setCell h3' (own_ne h3' hb3 (by decide))) (by simpa using s2))
  have hlt1 : g1 < w3.heap.size := (r1.lt g1 rfl).2
  have hB1 : B ≤ g1 := (r1.lt g1 rfl).1
  have hB2 : B ≤ g2 := (r2.lt g2 rfl).1
  have hg1R' : R'.ownBlock ≠ some g1 := by
    intro e
    rcases a1 with a1 | a1
    · rcases hne with hne | hne
      · rw [hne] at e; cases e
      · exact hne (e.trans a1.symm)
    · have := (hK'.row.lt g1 e).2
      simp at a1
      omega
  have r1' : (w5.setCell ⟨bk, 1, none⟩ (.slice (some ⟨g2, 0, none⟩) (L.length + 1) c2)).ownsRow B 31 1 (.slice (some ⟨g1, 0, none⟩) (L.length + 1) c1) (L.length + 1) (L.map (·.1) ++ [v]) := by
    have q1 := own_grown (own_setCell (bk := bk) (j := 0) (u := .slice (some ⟨g1, 0, none⟩) (L.length + 1) c1) r1 (own_ne r1 hb3 (by decide))) (by simpa using s2)
    have q5 := (q1.alloc o2).kept s3 (.inr (fun e => hg1R' e.symm))
    exact own_setCell q5 (own_ne q5 hb5 (by decide))
  have r2' : (w5.setCell ⟨bk, 1, none⟩ (.slice (some ⟨g2, 0, none⟩) (L.length + 1) c2)).ownsRow B 31 1 (.slice (some ⟨g2, 0, none⟩) (L.length + 1) c2) (L'.length + 1) (L'.map (·.1) ++ [u]) := by
    rw [hLL]; exact own_setCell r2 (own_ne r2 hb5 (by decide))
  have hu' : w1.ownsRow B 9 1 u xs.length (flatE xs) := own_mono hu (by omega)
  refine ⟨rfl, ⟨u, ⟨(cs.setIfInBounds 0 (.slice (some ⟨g1, 0, none⟩) (L.length + 1) c1)).setIfInBounds 1 (.slice (some ⟨g2, 0, none⟩) (L.length + 1) c2), .slice (some ⟨g1, 0, none⟩) (L.length + 1) c1, .slice (some ⟨g2, 0, none⟩) (L.length + 1) c2, hb6, ?_, ?_, ?_, ?_, ?_, ?_, ?_⟩, by simp [hsame]⟩, ?_, fun n y ys hy => far hy⟩
  · simp [hcs]
  · exact Array.getElem?_setIfInBounds_ne (by decide) |>.trans (by simp [hcs])
  · simp [hcs]
  · intro i hi h4' h5'
    rw [Array.getElem?_setIfInBounds_ne (by omega), Array.getElem?_setIfInBounds_ne (by omega)]
    exact hno i hi h4' h5'
  · exact kept_snoc r1' (fun i y ys hi => ⟨far (hK.each i y ys hi).1, (hK.each i y ys hi).2⟩) (far hv) hx hK.apart hnew hfew
  · refine kept_snoc r2' (fun i y ys hi => ⟨far (hK'.each i y ys hi).1, (hK'.each i y ys hi).2⟩) (far1 hu') hx hK'.apart (fun i p hi => ?_) (by omega)
    have hp := hK'.each i p.1 p.2 hi
    constructor
    · cases hx : p.1.ownBlock with
      | none => exact .inl rfl
      | some b =>
        refine .inr fun e => ?_
        have b1 := (hp.1.lt b hx).2
        have b2 := (hu.lt b e.symm).1
        omega
    · cases hx : u.ownBlock with
      | none => exact .inl rfl
      | some b =>
        refine .inr fun e => ?_
        have b1 := (hp.1.lt b e.symm).2
        have b2 := (hu.lt b hx).1
        omega
  · refine .inr fun e => ?_
    have e' : g2 = g1 := Option.some.inj e
    rcases a2 with a2 | a2
    · exact hg1R' (by rw [a2, e'])
    · simp at a2; omega
  · refine ⟨s3.os.trans (s2.os.trans s1.os), s3.tape.trans (s2.tape.trans s1.tape), s3.output.trans (s2.output.trans s1.output), by show w.heap.size ≤ (w5.setCell _ _).heap.size; simp; omega, fun k hk => ?_⟩
    show (w5.setCell _ _).heap[k]? = _
    rw [heap_setCell_other _ _ _ _ (by show k ≠ bk; omega), s3.block k (by simp; omega) (fun e => by have := (hR1.lt k e.symm).1; omega), Below.heap_alloc _ _ _ (by omega), s2.block k (by omega), heap_setCell_other _ _ _ _ (by show k ≠ bk; omega), s1.block k (by simp; omega) (fun e => by have := (hK.row.lt k e.symm).1; omega), Below.heap_alloc _ _ _ (by omega)]
end Go.Proofs.Ytbcdgccmokgmhaa.BkX
