/- The book of lists, eleventh part: one more list is kept. -/
import Derived.Test.YtbcdgccmokgmhaaKxj
import Derived.Deep.RegionLaw
import Derived.Deep.AppendLies
namespace Go.Proofs.Ytbcdgccmokgmhaa.BkX
open Go.RowKit

theorem own_setCell {w : World} {B e sz n : Nat} {v : Value} {xs : List Value} {bk j : Nat} {u : Value} (h : w.ownsRow B e sz v n xs) (hne : v.ownBlock ≠ some bk) : (w.setCell ⟨bk, j, none⟩ u).ownsRow B e sz v n xs :=
  h.kept (row := some bk) ⟨rfl, rfl, rfl, by simp, fun k _ hk => heap_setCell_other w ⟨bk, j, none⟩ k u (fun e => hk (by simp [e]))⟩ (.inr hne)
theorem spelt_form {B : Nat} {xs : List El} {v : Value} {w : World} (h : w.ownsRow B 9 1 v xs.length (flatE xs)) : ∃ o c, v = .slice o xs.length c := by
  rcases own_open h with ⟨rfl, h0, _⟩ | ⟨g, cap, rfl, _⟩
  · exact ⟨none, 0, by rw [h0]⟩
  · exact ⟨_, cap, rfl⟩

set_option maxHeartbeats 8000000 in
set_option maxRecDepth 100000 in
theorem bookRunes_any (B bk : Nat) (cs : Array Value) (R R' : Value) (L L' : List (Value × List El)) (v : Value) (xs : List El) (w : World) (hB : B ≤ w.heap.size) (h : Kept B w R L) (h' : Kept B w R' L') (hbk : w.heap[bk]? = some (.cells cs 44 (0, 0)))
    (h4 : cs[0]? = some R) (h5 : cs[1]? = some R') (hv : w.ownsRow B 9 1 v xs.length (flatE xs)) (hx : xs.length ≤ 100000) (hfew : L.length < 250) (hLL : L'.length = L.length) (hne : R'.ownBlock = none ∨ R'.ownBlock ≠ R.ownBlock) :
    Calls Try.prog 16 #[.pointer (some ⟨bk, 0, none⟩), v] w fun e w' => e = .returned (.tuple #[]) ∧ ∃ (o1 o2 : Obj) (w3 w1 w5 : World) (g1 c1 g2 c2 : Nat) (u : Value) (_s1 : (w.alloc o1).grownBy w3 R.ownBlock) (_s2 : Below w3.heap.size (w3.setCell ⟨bk, 0, none⟩ (.slice (some ⟨g1, 0, none⟩) (L.length + 1) c1)) w1) (_s3 : (w1.alloc o2).grownBy w5 R'.ownBlock),
      w3.ownsRow B 31 1 (.slice (some ⟨g1, 0, none⟩) (L.length + 1) c1) (L.length + 1) (L.map (·.1) ++ [v]) ∧ (R.ownBlock = some g1 ∨ g1 = (w.alloc o1).heap.size) ∧
      w1.ownsRow w3.heap.size 9 1 u xs.length (flatE xs) ∧
      w5.ownsRow B 31 1 (.slice (some ⟨g2, 0, none⟩) (L.length + 1) c2) (L.length + 1) (L'.map (·.1) ++ [u]) ∧ (R'.ownBlock = some g2 ∨ g2 = (w1.alloc o2).heap.size) ∧
      ∃ m, w' = (w5.setCell ⟨bk, 1, none⟩ (.slice (some ⟨g2, 0, none⟩) (L.length + 1) c2)).drewN m := by
  obtain ⟨i1, hi1, hy0, hy1, hy2⟩ := info_parts infoS
  obtain ⟨nL, hnL⟩ : ∃ n, L.length = n := ⟨_, rfl⟩
  have hR : ∃ o c, R = .slice o nL c := by
    rcases own_open h.row with ⟨rfl, h0, _⟩ | ⟨g, cap, rfl, _⟩
    · exact ⟨none, 0, by rw [← hnL, h0]⟩
    · exact ⟨_, cap, by rw [hnL]⟩
  have hR' : ∃ o c, R' = .slice o nL c := by
    rcases own_open h'.row with ⟨rfl, h0, _⟩ | ⟨g, cap, rfl, _⟩
    · exact ⟨none, 0, by rw [← hnL, ← hLL, h0]⟩
    · exact ⟨_, cap, by rw [hLL, hnL]⟩
  have hvv : ∃ o c, v = .slice o xs.length c := by
    rcases own_open hv with ⟨rfl, h0, _⟩ | ⟨g, cap, rfl, _⟩
    · exact ⟨none, 0, by rw [h0]⟩
    · exact ⟨_, cap, rfl⟩
  obtain ⟨ov, cv, rfl⟩ := hvv
  obtain ⟨o, c, rfl⟩ := hR
  obtain ⟨o', c', rfl⟩ := hR'
  have hrow := h.row
  have hrow' := h'.row
  rw [hLL] at hrow'
  rw [hnL] at hfew hrow hrow' ⊢
  obtain ⟨vs, hvs⟩ : ∃ vs, vs = L.map (·.1) := ⟨_, rfl⟩
  obtain ⟨us, hus⟩ : ∃ us, us = L'.map (·.1) := ⟨_, rfl⟩
  rw [← hvs] at hrow ⊢
  rw [← hus] at hrow' ⊢
  have HB := Lib.hid hbk
  have H4 := Lib.hid h4
  have H5 := Lib.hid h5
  have HV := Lib.hid hv
  have HR := Lib.hid hrow
  have HR' := Lib.hid hrow'
  have f4 : w.cell? ⟨bk, 0, none⟩ = some (.slice o nL c) := by rw [cell_of_row w bk 0 cs 44 (0, 0) hbk]; exact h4
  have hone : ∀ (a : Option Addr) (n c : Nat), (Value.slice a n c).oneCell' = true := fun _ _ _ => rfl
  have HNE := Lib.hid hne
  clear h h' hbk h4 h5 hv hnL hLL hvs hus hone hne
  go_enter Try.func16, Try.ntmps16
  go_wp2_with (at_builtin
               go_must (refine wpList_append_lies _ rfl _ _ 33 rfl B 31 i1 (.slice none 0 0) 1 24 Try.underlying33 hi1 hy0 hy1 hy2 rfl (by decide) _ _ _ rfl (hrow.alloc _) ⟨w.heap.size, 0, none⟩ 1 1 [.slice ov xs.length cv] rfl rfl (cell_1 _ _ _) (by intro u hu; simp at hu; subst hu; rfl) (by decide) (by unfold maxLen; omega) (by omega) (by simp; omega) _ rfl ?_)
               intro g1 c1 w3 hown3 hgrow3 hat3 hlt3
               have hb3 : w3.heap[bk]? = some (.cells cs 44 (0, 0)) := by
                 rw [hgrow3.block bk (by have := (Array.getElem?_eq_some_iff.1 HB.out).1; simp; omega) (fun e => own_ne HR.out HB.out (by decide) e.symm), Below.heap_alloc _ _ _ (Array.getElem?_eq_some_iff.1 HB.out).1]; exact HB.out
               have q4 : w3.cell? ⟨bk, 0, none⟩ = some (.slice o nL c) := by rw [cell_of_row w3 bk 0 cs 44 (0, 0) hb3]; exact H4.out
               have z4 : w3.frozen? ⟨bk, 0, none⟩ = false := frozen_of_row w3 bk 0 cs 44 hb3)
  obtain ⟨W4, hW4⟩ : ∃ W4, W4 = w3.setCell ⟨bk, 0, none⟩ (.slice (some ⟨g1, 0, none⟩) (nL + 1) c1) := ⟨_, rfl⟩
  rw [← hW4]
  have hr3 : w3.ownsRow B 31 1 (.slice o' nL c') nL us := ((HR'.out).alloc _).kept hgrow3 HNE.out
  have hv3 : w3.ownsRow B 9 1 (.slice ov xs.length cv) xs.length (flatE xs) := ((HV.out).alloc _).kept hgrow3 (own_far HV.out HR.out (by decide))
  have hr4 : W4.ownsRow B 31 1 (.slice o' nL c') nL us := by rw [hW4]; exact own_setCell hr3 (own_ne hr3 hb3 (by decide))
  have hv4 : W4.ownsRow B 9 1 (.slice ov xs.length cv) xs.length (flatE xs) := by rw [hW4]; exact own_setCell hv3 (own_ne hv3 hb3 (by decide))
  have hb4 : W4.heap[bk]? = some (.cells (cs.setIfInBounds 0 (.slice (some ⟨g1, 0, none⟩) (nL + 1) c1)) 44 (0, 0)) := by rw [hW4]; exact heap_setCell_same w3 bk 0 cs 44 _ hb3
  have q5 : ∀ n, (W4.drewN n).cell? ⟨bk, 1, none⟩ = some (.slice o' nL c') := fun _ => by
    show W4.cell? _ = _
    rw [cell_of_row W4 bk 1 _ 44 (0, 0) hb4, Array.getElem?_setIfInBounds_ne (by decide)]; exact H5.out
  have q50 : W4.cell? ⟨bk, 1, none⟩ = some (.slice o' nL c') := q5 0
  have hbk4 : bk < W4.heap.size := (Array.getElem?_eq_some_iff.1 hb4).1
  have hsz4 : W4.heap.size = w3.heap.size := by rw [hW4]; simp
  have hsz3 : w.heap.size ≤ w3.heap.size := by have := hgrow3.size; simp at this; omega
  have HB4 := Lib.hid hb4
  have HRR := Lib.hid hr4
  have HVV := Lib.hid hv4
  have HW4 := Lib.hid hW4
  have HG3 := Lib.hid (And.intro hown3 (And.intro hgrow3 hat3))
  clear hW4 hr3 hv3 hr4 hv4 hb3 q4 z4 f4 hown3 hgrow3 hat3 hrow hrow' hb4
  have HC := Lib.hid (show Calls Try.prog 25 #[.slice ov xs.length cv] W4.drew fun e w1 => ∃ ou cu, e = .returned (.slice ou xs.length cu) ∧ w1.ownsRow W4.heap.size 9 1 (.slice ou xs.length cu) xs.length (flatE xs) ∧ Below W4.heap.size W4 w1 ∧ W4.heap.size ≤ w1.heap.size ∧ bk < w1.heap.size ∧
      w1.heap[bk]? = some (.cells (cs.setIfInBounds 0 (.slice (some ⟨g1, 0, none⟩) (nL + 1) c1)) 44 (0, 0)) ∧ w1.ownsRow B 31 1 (.slice o' nL c') nL us ∧ w1.cell? ⟨bk, 1, none⟩ = some (.slice o' nL c') from by
    refine (copyRunes_any _ B xs (by omega) W4.drew (show W4.ownsRow _ _ _ _ _ _ from HVV.out)).mono ?_
    rintro e w1 ⟨⟨u, rfl, hu⟩, hb1⟩
    obtain ⟨ou, cu, rfl⟩ := spelt_form hu
    have hbz : Below W4.heap.size W4 w1 := ⟨hb1.os, hb1.tape, hb1.output, hb1.size, hb1.block⟩
    have hsz1 := hbz.size
    have hB1 : w1.heap[bk]? = some (.cells (cs.setIfInBounds 0 (.slice (some ⟨g1, 0, none⟩) (nL + 1) c1)) 44 (0, 0)) := (hbz.block bk hbk4).trans HB4.out
    exact ⟨ou, cu, rfl, hu, hbz, hsz1, by omega, hB1, own_grown HRR.out hbz, by rw [cell_of_row w1 bk 1 _ 44 (0, 0) hB1, Array.getElem?_setIfInBounds_ne (by decide)]; exact H5.out⟩)
  go_region_law (first
    | (refine step_append_lies _ rfl _ _ 33 rfl B 31 i1 (.slice none 0 0) 1 24 Try.underlying33 hi1 hy0 hy1 hy2 rfl (by decide) _ _ _ rfl (HR1.out.alloc _) ⟨w1.heap.size, 0, none⟩ 1 1 [.slice ou xs.length cu] rfl rfl (cell_1 _ _ _) (by intro u hu; simp at hu; subst hu; rfl) (by decide) (by unfold maxLen; omega) (by omega) (by simp; omega) _ rfl ?_
       intro g2 c2 w5 hown5 hgrow5 hat5 hlt5
       have hb5 : w5.heap[bk]? = some (.cells (cs.setIfInBounds 0 (.slice (some ⟨g1, 0, none⟩) (nL + 1) c1)) 44 (0, 0)) := by
         rw [hgrow5.block bk (by simp; omega) (fun e => own_ne HR1.out HB1.out (by decide) e.symm), Below.heap_alloc _ _ _ hbk1]; exact HB1.out
       have q52 : w5.cell? ⟨bk, 1, none⟩ = some (.slice o' nL c') := by rw [cell_of_row w5 bk 1 _ 44 (0, 0) hb5, Array.getElem?_setIfInBounds_ne (by decide)]; exact H5.out
       have z5 : w5.frozen? ⟨bk, 1, none⟩ = false := frozen_of_row w5 bk 1 _ 44 hb5
       have HG5 := Lib.hid (And.intro hown5 (And.intro hgrow5 hat5))
       clear hown5 hgrow5 hat5 hb5)
    | (go_simp
       refine (HC.out).mono ?_
       rintro e w1 ⟨ou, cu, rfl, hu, hbz, hsz1, hbk1, hB1, hR1, q51⟩
       have HB1 := Lib.hid hB1
       have HR1 := Lib.hid hR1
       have HU := Lib.hid (And.intro hu hbz)
       clear hu hbz hB1 hR1))
  all_goals
    go_wp2
    go_end0
    have hu := HU.out.1
    have hbz := HU.out.2
    rw [hsz4] at hu hbz
    rw [HW4.out] at hbz
    exact ⟨rfl, _, _, w3, w1, w5, g1, c1, g2, c2, _, HG3.out.2.1, hbz, HG5.out.2.1, HG3.out.1, HG3.out.2.2, hu, HG5.out.1, HG5.out.2.2, 0, rfl⟩
end Go.Proofs.Ytbcdgccmokgmhaa.BkX
