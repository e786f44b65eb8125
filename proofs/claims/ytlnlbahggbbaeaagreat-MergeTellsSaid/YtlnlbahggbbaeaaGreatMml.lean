/- The book of lists, with rows and with numbers in it: one more list is kept. -/
import Derived.Test.YtlnlbahggbbaeaaGreatMmk
import Derived.Test.YtlnlbahggbbaeaaGreatKr
import Derived.Test.YtlnlbahggbbaeaaGreatKi
namespace Go.Proofs.YtlnlbahggbbaeaaGreat.BkM
open Go.RowKit
open Go.Proofs.YtlnlbahggbbaeaaGreat.Vec (Rw RowsS ERow)

structure Booked (BM B bk : Nat) (w : World) (L L' : List (Value × List BkR.El)) (LI LI' : List (Value × List BkI.El)) : Prop where
  ex : ∃ (cs : Array Value) (R R' RI RI' : Value), w.heap[bk]? = some (.cells cs 38 (0, 0)) ∧ cs.size = 20 ∧ cs[16]? = some R ∧ cs[17]? = some R' ∧ cs[2]? = some RI ∧ cs[3]? = some RI' ∧ (∀ i, i < 20 → i ≠ 2 → i ≠ 3 → i ≠ 16 → i ≠ 17 → cs[i]? = some (.slice none 0 0)) ∧ BkR.Kept B w R L ∧ BkR.Kept B w R' L' ∧ BkI.Kept B w RI LI ∧ BkI.Kept B w RI' LI' ∧ (R'.ownBlock = none ∨ R'.ownBlock ≠ R.ownBlock) ∧ (RI'.ownBlock = none ∨ RI'.ownBlock ≠ RI.ownBlock)
  len : L'.length = L.length
  same : ∀ (i : Nat) (v : Value) (xs : List BkR.El) (v' : Value) (xs' : List BkR.El), L[i]? = some (v, xs) → L'[i]? = some (v', xs') → ∃ ms, BkR.Means BM w xs ms ∧ BkR.Means BM w xs' ms
  ints : LI.map (·.2) = LI'.map (·.2)

section
open Go.Proofs.YtlnlbahggbbaeaaGreat.BkR
theorem keep_rows (B bk : Nat) (L L' : List (Value × List El)) (LI LI' : List (Value × List BkI.El)) (v : Value) (xs : List El) (w : World) (hB : B ≤ w.heap.size) (hBk : B ≤ bk) (BM : Nat) (ms : List Rw) (hBM : BM ≤ B) (hM : Means BM w xs ms) (hl : ∀ m ∈ ms, m.1.length ≤ 1000000) (h : Booked BM B bk w L L' LI LI') (hv : w.ownsRow B 51 2 v xs.length (flatE xs)) (hx : xs.length ≤ 100000) (hfew : L.length < 250)
    (hnew : ∀ (i : Nat) (p : Value × List El), L[i]? = some p → (p.1.ownBlock = none ∨ p.1.ownBlock ≠ v.ownBlock) ∧ (v.ownBlock = none ∨ v.ownBlock ≠ p.1.ownBlock)) :
    Calls Tryz.prog 9 #[.pointer (some ⟨bk, 0, none⟩), v] w fun e w' => e = .returned (.tuple #[]) ∧ (∃ u ys, Booked BM B bk w' (L ++ [(v, xs)]) (L' ++ [(u, ys)]) LI LI') ∧ Below B w w' ∧ (∀ (e2 s2 n : Nat) (y : Value) (ys : List Value), e2 ≠ 25 → e2 ≠ 38 → w.ownsRow B e2 s2 y n ys → w'.ownsRow B e2 s2 y n ys) ∧ ∀ (zs : List El) (ns : List Rw), Means BM w zs ns → Means BM w' zs ns := by
  obtain ⟨⟨cs, R, R', RI, RI', hbk, hcs, h4, h5, g4, g5, hno, hK, hK', GI, GI', hne, hneI⟩, hLL, hsame, hLI⟩ := h
  refine (bookRunes_any B bk cs R R' L L' v xs w hB hK hK' hbk h4 h5 hv hx hfew hLL hne BM ms hBM hBk hM hl).mono ?_
  rintro e w' ⟨rfl, o1, o2, w3, w1, w5, g1, c1, g2, c2, u, s1, s2, s3, r1, a1, ⟨ys, hyl, hu, hym⟩, r2, a2, m, rfl⟩
  have hbs := (Array.getElem?_eq_some_iff.1 hbk).1
  have hb3 : w3.heap[bk]? = some (.cells cs 38 (0, 0)) := by
    rw [s1.block bk (by simp; omega) (fun e => own_ne hK.row hbk (by decide) e.symm), Below.heap_alloc _ _ _ hbs]; exact hbk
  have z3 := s1.size
  have z1 := s2.size
  have z5 := s3.size
  simp at z3 z1 z5
  have hb4 := heap_setCell_same w3 bk 16 cs 38 (.slice (some ⟨g1, 0, none⟩) (L.length + 1) c1) hb3
  have hb1 := (s2.block bk (by omega)).trans hb4
  have hR3 : w3.ownsRow B 25 1 R' L'.length (L'.map (·.1)) := (hK'.row.alloc o1).kept s1 hne
  have hR1 : w1.ownsRow B 25 1 R' L'.length (L'.map (·.1)) := own_grown (own_setCell hR3 (own_ne hR3 hb3 (by decide))) (by simpa using s2)
  have hb5 : w5.heap[bk]? = some (.cells (cs.setIfInBounds 16 (.slice (some ⟨g1, 0, none⟩) (L.length + 1) c1)) 38 (0, 0)) := by
    rw [s3.block bk (by simp; omega) (fun e => own_ne hR1 hb1 (by decide) e.symm), Below.heap_alloc _ _ _ (by omega)]; exact hb1
  have hb6 := heap_setCell_same w5 bk 17 _ 38 (.slice (some ⟨g2, 0, none⟩) (L.length + 1) c2) hb5
  have far1 : ∀ {e2 s2 n : Nat} {y : Value} {ys : List Value}, e2 ≠ 25 → e2 ≠ 38 → w1.ownsRow B e2 s2 y n ys → (w5.setCell ⟨bk, 17, none⟩ (.slice (some ⟨g2, 0, none⟩) (L.length + 1) c2)).ownsRow B e2 s2 y n ys := fun n1 n2 hy => by
    have h5' := (hy.alloc o2).kept s3 (own_far hy hR1 n1)
    exact own_setCell h5' (own_ne h5' hb5 n2.symm)
  have far : ∀ {e2 s2 n : Nat} {y : Value} {ys : List Value}, e2 ≠ 25 → e2 ≠ 38 → w.ownsRow B e2 s2 y n ys → (w5.setCell ⟨bk, 17, none⟩ (.slice (some ⟨g2, 0, none⟩) (L.length + 1) c2)).ownsRow B e2 s2 y n ys := fun n1 n2 hy => by
    have h3' := (hy.alloc o1).kept s1 (own_far hy hK.row n1)
    exact far1 n1 n2 (own_grown (own_setCell h3' (own_ne h3' hb3 n2.symm)) (by simpa using s2))
  have farM1 : ∀ {zs : List El} {ns : List Rw}, Means BM w1 zs ns → Means BM (w5.setCell ⟨bk, 17, none⟩ (.slice (some ⟨g2, 0, none⟩) (L.length + 1) c2)) zs ns := fun hy =>
    ((hy.alloc o2).grown (t := 25) (by decide) (fun g e => by
      have := Vec.own_row (hR1.alloc o2) g e
      exact ⟨Nat.le_trans hBM this.1, this.2⟩) s3).put hb5 (Nat.le_trans hBM hBk)
  have farM : ∀ {zs : List El} {ns : List Rw}, Means BM w zs ns → Means BM (w5.setCell ⟨bk, 17, none⟩ (.slice (some ⟨g2, 0, none⟩) (L.length + 1) c2)) zs ns := fun hy =>
    farM1 ((((hy.alloc o1).grown (t := 25) (by decide) (fun g e => by
      have := Vec.own_row (hK.row.alloc o1) g e
      exact ⟨Nat.le_trans hBM this.1, this.2⟩) s1).put hb3 (Nat.le_trans hBM hBk)).below (by simpa using s2))
  have hlt1 : g1 < w3.heap.size := (r1.lt g1 rfl).2
  have hB1 : B ≤ g1 := (r1.lt g1 rfl).1
  have hB2 : B ≤ g2 := (r2.lt g2 rfl).1
  have hg1R' : R'.ownBlock ≠ some g1 := by
    intro e
    rcases a1 with a1 | a1
    · rcases hne with hne | hne
      · rw [hne] at e; cases e
      · exact hne (e.trans a1.symm)
    · have := (hK'.row.lt g1 e).2
      simp at a1
      omega
  have r1' : (w5.setCell ⟨bk, 17, none⟩ (.slice (some ⟨g2, 0, none⟩) (L.length + 1) c2)).ownsRow B 25 1 (.slice (some ⟨g1, 0, none⟩) (L.length + 1) c1) (L.length + 1) (L.map (·.1) ++ [v]) := by
    have q1 := own_grown (own_setCell (bk := bk) (j := 16) (u := .slice (some ⟨g1, 0, none⟩) (L.length + 1) c1) r1 (own_ne r1 hb3 (by decide))) (by simpa using s2)
    have q5 := (q1.alloc o2).kept s3 (.inr (fun e => hg1R' e.symm))
    exact own_setCell q5 (own_ne q5 hb5 (by decide))
  have r2' : (w5.setCell ⟨bk, 17, none⟩ (.slice (some ⟨g2, 0, none⟩) (L.length + 1) c2)).ownsRow B 25 1 (.slice (some ⟨g2, 0, none⟩) (L.length + 1) c2) (L'.length + 1) (L'.map (·.1) ++ [u]) := by
    rw [hLL]; exact own_setCell r2 (own_ne r2 hb5 (by decide))
  have hu' : w1.ownsRow B 51 2 u ys.length (flatE ys) := by rw [hyl]; exact own_mono hu (by omega)
  have hsame' : ∀ (i : Nat) (v2 : Value) (zs : List El) (v' : Value) (zs' : List El), (L ++ [(v, xs)])[i]? = some (v2, zs) → (L' ++ [(u, ys)])[i]? = some (v', zs') → ∃ ns, Means BM (w5.setCell ⟨bk, 17, none⟩ (.slice (some ⟨g2, 0, none⟩) (L.length + 1) c2)) zs ns ∧ Means BM (w5.setCell ⟨bk, 17, none⟩ (.slice (some ⟨g2, 0, none⟩) (L.length + 1) c2)) zs' ns := by
    intro i v2 zs v' zs' hi hi'
    by_cases hl : i < L.length
    · rw [List.getElem?_append_left hl] at hi
      rw [List.getElem?_append_left (by omega)] at hi'
      obtain ⟨ns, h1, h2⟩ := hsame i v2 zs v' zs' hi hi'
      exact ⟨ns, farM h1, farM h2⟩
    · rw [List.getElem?_append_right (by omega)] at hi hi'
      rw [hLL] at hi'
      rcases Nat.lt_or_ge (i - L.length) 1 with h9 | h9
      · rw [show i - L.length = 0 by omega] at hi hi'
        simp at hi hi'
        obtain ⟨rfl, rfl⟩ := hi
        obtain ⟨rfl, rfl⟩ := hi'
        exact ⟨ms, farM hM, farM1 hym⟩
      · rw [List.getElem?_eq_none (by simpa using h9)] at hi; cases hi
  refine ⟨rfl, ⟨u, ys, ⟨(cs.setIfInBounds 16 (.slice (some ⟨g1, 0, none⟩) (L.length + 1) c1)).setIfInBounds 17 (.slice (some ⟨g2, 0, none⟩) (L.length + 1) c2), .slice (some ⟨g1, 0, none⟩) (L.length + 1) c1, .slice (some ⟨g2, 0, none⟩) (L.length + 1) c2, RI, RI', hb6, ?_, ?_, ?_, ?_, ?_, ?_, ?_, ?_, ?_, ?_, ?_, hneI⟩, by rw [List.length_append, List.length_append, hLL]; rfl, fun i v2 zs v' zs' hi hi' => (hsame' i v2 zs v' zs' hi hi').imp fun ns h => ⟨h.1.below (quietB ⟨m, rfl⟩), h.2.below (quietB ⟨m, rfl⟩)⟩, hLI⟩, ?_, fun e2 s2 n y ys n1 n2 hy => far n1 n2 hy, fun zs ns hz => (farM hz).below (quietB ⟨m, rfl⟩)⟩
  · simp [hcs]
  · exact Array.getElem?_setIfInBounds_ne (by decide) |>.trans (by simp [hcs])
  · simp [hcs]
  · rw [Array.getElem?_setIfInBounds_ne (by omega), Array.getElem?_setIfInBounds_ne (by omega)]; exact g4
  · rw [Array.getElem?_setIfInBounds_ne (by omega), Array.getElem?_setIfInBounds_ne (by omega)]; exact g5
  · intro i hi k1 k2 h4' h5'
    rw [Array.getElem?_setIfInBounds_ne (by omega), Array.getElem?_setIfInBounds_ne (by omega)]
    exact hno i hi k1 k2 h4' h5'
  · exact kept_snoc r1' (fun i y ys hi => ⟨far (by decide) (by decide) (hK.each i y ys hi).1, (hK.each i y ys hi).2⟩) (far (by decide) (by decide) hv) hx hK.apart hnew hfew
  · refine kept_snoc r2' (fun i y ys hi => ⟨far (by decide) (by decide) (hK'.each i y ys hi).1, (hK'.each i y ys hi).2⟩) (far1 (by decide) (by decide) hu') (by omega) hK'.apart (fun i p hi => ?_) (by omega)
    have hp := hK'.each i p.1 p.2 hi
    constructor
    · cases hx : p.1.ownBlock with
      | none => exact .inl rfl
      | some b =>
        refine .inr fun e => ?_
        have b1 := (hp.1.lt b hx).2
        have b2 := (hu.lt b e.symm).1
        omega
    · cases hx : u.ownBlock with
      | none => exact .inl rfl
      | some b =>
        refine .inr fun e => ?_
        have b1 := (hp.1.lt b e.symm).2
        have b2 := (hu.lt b hx).1
        omega
  · exact ⟨far (by decide) (by decide) GI.row, fun i v xs hi => ⟨far (by decide) (by decide) (GI.each i v xs hi).1, (GI.each i v xs hi).2⟩, GI.apart, GI.few⟩
  · exact ⟨far (by decide) (by decide) GI'.row, fun i v xs hi => ⟨far (by decide) (by decide) (GI'.each i v xs hi).1, (GI'.each i v xs hi).2⟩, GI'.apart, GI'.few⟩
  · refine .inr fun e => ?_
    have e' : g2 = g1 := Option.some.inj e
    rcases a2 with a2 | a2
    · exact hg1R' (by rw [a2, e'])
    · simp at a2; omega
  · refine ⟨s3.os.trans (s2.os.trans s1.os), s3.tape.trans (s2.tape.trans s1.tape), s3.output.trans (s2.output.trans s1.output), by show w.heap.size ≤ (w5.setCell _ _).heap.size; simp; omega, fun k hk => ?_⟩
    show (w5.setCell _ _).heap[k]? = _
    rw [heap_setCell_other _ _ _ _ (by show k ≠ bk; omega), s3.block k (by simp; omega) (fun e => by have := (hR1.lt k e.symm).1; omega), Below.heap_alloc _ _ _ (by omega), s2.block k (by omega), heap_setCell_other _ _ _ _ (by show k ≠ bk; omega), s1.block k (by simp; omega) (fun e => by have := (hK.row.lt k e.symm).1; omega), Below.heap_alloc _ _ _ (by omega)]
end

section
open Go.Proofs.YtlnlbahggbbaeaaGreat.BkI
theorem keep_ints (BM B bk : Nat) (hBM : BM ≤ B) (LR LR' : List (Value × List BkR.El)) (L L' : List (Value × List El)) (v : Value) (xs : List El) (w : World) (hB : B ≤ w.heap.size) (hBk : B ≤ bk) (h : Booked BM B bk w LR LR' L L') (hv : w.ownsRow B 3 1 v xs.length (flatE xs)) (hx : xs.length ≤ 100000) (hfew : L.length < 250)
    (hnew : ∀ (i : Nat) (p : Value × List El), L[i]? = some p → (p.1.ownBlock = none ∨ p.1.ownBlock ≠ v.ownBlock) ∧ (v.ownBlock = none ∨ v.ownBlock ≠ p.1.ownBlock)) :
    Calls Tryz.prog 10 #[.pointer (some ⟨bk, 0, none⟩), v] w fun e w' => e = .returned (.tuple #[]) ∧ (∃ u, Booked BM B bk w' LR LR' (L ++ [(v, xs)]) (L' ++ [(u, xs)])) ∧ Below B w w' ∧ (∀ (e2 s2 n : Nat) (y : Value) (ys : List Value), e2 ≠ 40 → e2 ≠ 38 → w.ownsRow B e2 s2 y n ys → w'.ownsRow B e2 s2 y n ys) ∧ ∀ (zs : List BkR.El) (ns : List Rw), BkR.Means BM w zs ns → BkR.Means BM w' zs ns := by
  obtain ⟨⟨cs, RR, RR', R, R', hbk, hcs, g4, g5, h4, h5, hno, GR, GR', hK, hK', hneR, hne⟩, hlenR, hsameR, hsame⟩ := h
  have hLL : L'.length = L.length := by have := congrArg List.length hsame; simpa using this.symm
  refine (bookRunes_any B bk cs R R' L L' v xs w hB hK hK' hbk h4 h5 hv hx hfew hLL hne).mono ?_
  rintro e w' ⟨rfl, o1, o2, w3, w1, w5, g1, c1, g2, c2, u, s1, s2, s3, r1, a1, hu, r2, a2, m, rfl⟩
  have hbs := (Array.getElem?_eq_some_iff.1 hbk).1
  have hb3 : w3.heap[bk]? = some (.cells cs 38 (0, 0)) := by
    rw [s1.block bk (by simp; omega) (fun e => own_ne hK.row hbk (by decide) e.symm), Below.heap_alloc _ _ _ hbs]; exact hbk
  have z3 := s1.size
  have z1 := s2.size
  have z5 := s3.size
  simp at z3 z1 z5
  have hb4 := heap_setCell_same w3 bk 2 cs 38 (.slice (some ⟨g1, 0, none⟩) (L.length + 1) c1) hb3
  have hb1 := (s2.block bk (by omega)).trans hb4
  have hR3 : w3.ownsRow B 40 1 R' L'.length (L'.map (·.1)) := (hK'.row.alloc o1).kept s1 hne
  have hR1 : w1.ownsRow B 40 1 R' L'.length (L'.map (·.1)) := own_grown (own_setCell hR3 (own_ne hR3 hb3 (by decide))) (by simpa using s2)
  have hb5 : w5.heap[bk]? = some (.cells (cs.setIfInBounds 2 (.slice (some ⟨g1, 0, none⟩) (L.length + 1) c1)) 38 (0, 0)) := by
    rw [s3.block bk (by simp; omega) (fun e => own_ne hR1 hb1 (by decide) e.symm), Below.heap_alloc _ _ _ (by omega)]; exact hb1
  have hb6 := heap_setCell_same w5 bk 3 _ 38 (.slice (some ⟨g2, 0, none⟩) (L.length + 1) c2) hb5
  have far1 : ∀ {e2 s2 n : Nat} {y : Value} {ys : List Value}, e2 ≠ 40 → e2 ≠ 38 → w1.ownsRow B e2 s2 y n ys → (w5.setCell ⟨bk, 3, none⟩ (.slice (some ⟨g2, 0, none⟩) (L.length + 1) c2)).ownsRow B e2 s2 y n ys := fun n1 n2 hy => by
    have h5' := (hy.alloc o2).kept s3 (own_far hy hR1 n1)
    exact own_setCell h5' (own_ne h5' hb5 n2.symm)
  have far : ∀ {e2 s2 n : Nat} {y : Value} {ys : List Value}, e2 ≠ 40 → e2 ≠ 38 → w.ownsRow B e2 s2 y n ys → (w5.setCell ⟨bk, 3, none⟩ (.slice (some ⟨g2, 0, none⟩) (L.length + 1) c2)).ownsRow B e2 s2 y n ys := fun n1 n2 hy => by
    have h3' := (hy.alloc o1).kept s1 (own_far hy hK.row n1)
    exact far1 n1 n2 (own_grown (own_setCell h3' (own_ne h3' hb3 n2.symm)) (by simpa using s2))
  have farM : ∀ {zs : List BkR.El} {ns : List Rw}, BkR.Means BM w zs ns → BkR.Means BM (w5.setCell ⟨bk, 3, none⟩ (.slice (some ⟨g2, 0, none⟩) (L.length + 1) c2)) zs ns := fun hy =>
    ((((((hy.alloc o1).grown (t := 40) (by decide) (fun g e => by
      have := Vec.own_row (hK.row.alloc o1) g e
      exact ⟨Nat.le_trans hBM this.1, this.2⟩) s1).put hb3 (Nat.le_trans hBM hBk)).below (by simpa using s2)).alloc o2).grown (t := 40) (by decide) (fun g e => by
      have := Vec.own_row (hR1.alloc o2) g e
      exact ⟨Nat.le_trans hBM this.1, this.2⟩) s3).put hb5 (Nat.le_trans hBM hBk)
  have hlt1 : g1 < w3.heap.size := (r1.lt g1 rfl).2
  have hB1 : B ≤ g1 := (r1.lt g1 rfl).1
  have hB2 : B ≤ g2 := (r2.lt g2 rfl).1
  have hg1R' : R'.ownBlock ≠ some g1 := by
    intro e
    rcases a1 with a1 | a1
    · rcases hne with hne | hne
      · rw [hne] at e; cases e
      · exact hne (e.trans a1.symm)
    · have := (hK'.row.lt g1 e).2
      simp at a1
      omega
  have r1' : (w5.setCell ⟨bk, 3, none⟩ (.slice (some ⟨g2, 0, none⟩) (L.length + 1) c2)).ownsRow B 40 1 (.slice (some ⟨g1, 0, none⟩) (L.length + 1) c1) (L.length + 1) (L.map (·.1) ++ [v]) := by
    have q1 := own_grown (own_setCell (bk := bk) (j := 2) (u := .slice (some ⟨g1, 0, none⟩) (L.length + 1) c1) r1 (own_ne r1 hb3 (by decide))) (by simpa using s2)
    have q5 := (q1.alloc o2).kept s3 (.inr (fun e => hg1R' e.symm))
    exact own_setCell q5 (own_ne q5 hb5 (by decide))
  have r2' : (w5.setCell ⟨bk, 3, none⟩ (.slice (some ⟨g2, 0, none⟩) (L.length + 1) c2)).ownsRow B 40 1 (.slice (some ⟨g2, 0, none⟩) (L.length + 1) c2) (L'.length + 1) (L'.map (·.1) ++ [u]) := by
    rw [hLL]; exact own_setCell r2 (own_ne r2 hb5 (by decide))
  have hu' : w1.ownsRow B 3 1 u xs.length (flatE xs) := own_mono hu (by omega)
  refine ⟨rfl, ⟨u, ⟨(cs.setIfInBounds 2 (.slice (some ⟨g1, 0, none⟩) (L.length + 1) c1)).setIfInBounds 3 (.slice (some ⟨g2, 0, none⟩) (L.length + 1) c2), RR, RR', .slice (some ⟨g1, 0, none⟩) (L.length + 1) c1, .slice (some ⟨g2, 0, none⟩) (L.length + 1) c2, hb6, ?_, ?_, ?_, ?_, ?_, ?_, ?_, ?_, ?_, ?_, hneR, ?_⟩, hlenR, fun i v2 zs v' zs' hi hi' => (hsameR i v2 zs v' zs' hi hi').imp fun ns h => ⟨(farM h.1).below (quietB ⟨m, rfl⟩), (farM h.2).below (quietB ⟨m, rfl⟩)⟩, by simp [hsame]⟩, ?_, fun e2 s2 n y ys n1 n2 hy => far n1 n2 hy, fun zs ns hz => (farM hz).below (quietB ⟨m, rfl⟩)⟩
  · simp [hcs]
  · rw [Array.getElem?_setIfInBounds_ne (by omega), Array.getElem?_setIfInBounds_ne (by omega)]; exact g4
  · rw [Array.getElem?_setIfInBounds_ne (by omega), Array.getElem?_setIfInBounds_ne (by omega)]; exact g5
  · exact Array.getElem?_setIfInBounds_ne (by decide) |>.trans (by simp [hcs])
  · simp [hcs]
  · intro i hi h4' h5' k1 k2
    rw [Array.getElem?_setIfInBounds_ne (by omega), Array.getElem?_setIfInBounds_ne (by omega)]
    exact hno i hi h4' h5' k1 k2
  · exact ⟨far (by decide) (by decide) GR.row, fun i v xs hi => ⟨far (by decide) (by decide) (GR.each i v xs hi).1, (GR.each i v xs hi).2⟩, GR.apart, GR.few⟩
  · exact ⟨far (by decide) (by decide) GR'.row, fun i v xs hi => ⟨far (by decide) (by decide) (GR'.each i v xs hi).1, (GR'.each i v xs hi).2⟩, GR'.apart, GR'.few⟩
  · exact kept_snoc r1' (fun i y ys hi => ⟨far (by decide) (by decide) (hK.each i y ys hi).1, (hK.each i y ys hi).2⟩) (far (by decide) (by decide) hv) hx hK.apart hnew hfew
  · refine kept_snoc r2' (fun i y ys hi => ⟨far (by decide) (by decide) (hK'.each i y ys hi).1, (hK'.each i y ys hi).2⟩) (far1 (by decide) (by decide) hu') hx hK'.apart (fun i p hi => ?_) (by omega)
    have hp := hK'.each i p.1 p.2 hi
    constructor
    · cases hx : p.1.ownBlock with
      | none => exact .inl rfl
      | some b =>
        refine .inr fun e => ?_
        have b1 := (hp.1.lt b hx).2
        have b2 := (hu.lt b e.symm).1
        omega
    · cases hx : u.ownBlock with
      | none => exact .inl rfl
      | some b =>
        refine .inr fun e => ?_
        have b1 := (hp.1.lt b e.symm).2
        have b2 := (hu.lt b hx).1
        omega
  · refine .inr fun e => ?_
    have e' : g2 = g1 := Option.some.inj e
    rcases a2 with a2 | a2
    · exact hg1R' (by rw [a2, e'])
    · simp at a2; omega
  · refine ⟨s3.os.trans (s2.os.trans s1.os), s3.tape.trans (s2.tape.trans s1.tape), s3.output.trans (s2.output.trans s1.output), by show w.heap.size ≤ (w5.setCell _ _).heap.size; simp; omega, fun k hk => ?_⟩
    show (w5.setCell _ _).heap[k]? = _
    rw [heap_setCell_other _ _ _ _ (by show k ≠ bk; omega), s3.block k (by simp; omega) (fun e => by have := (hR1.lt k e.symm).1; omega), Below.heap_alloc _ _ _ (by omega), s2.block k (by omega), heap_setCell_other _ _ _ _ (by show k ≠ bk; omega), s1.block k (by simp; omega) (fun e => by have := (hK.row.lt k e.symm).1; omega), Below.heap_alloc _ _ _ (by omega)]
end

end Go.Proofs.YtlnlbahggbbaeaaGreat.BkM
