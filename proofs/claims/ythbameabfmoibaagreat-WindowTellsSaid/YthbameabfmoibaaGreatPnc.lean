/- Lists of points: their cells; the same as itself. -/
import Derived.Test.YthbameabfmoibaaGreatPna
namespace Go.Proofs.YthbameabfmoibaaGreat.Pnt
open Go.RowKit Go.Lib

theorem sees_all {w : World} {b off : Nat} {xs : List Pt} (h : Sees w b off xs) : ∀ j u, (flatL xs)[j]? = some u → w.cell? ((⟨b, off, none⟩ : Addr).add j) = some u := by
  intro j u hj
  have hjl : j < xs.length * 2 := by have := (List.getElem?_eq_some_iff.1 hj).1; rw [flatL_len] at this; exact this
  have ha : (⟨b, off, none⟩ : Addr).add j = ⟨b, off + j, none⟩ := by
    unfold Addr.add; split
    · next h => subst h; rfl
    · rfl
  rw [ha]
  obtain ⟨x, hx⟩ : ∃ x, xs[j / 2]? = some x := ⟨_, List.getElem?_eq_getElem (by omega)⟩
  have hf := flatL_at _ _ _ hx
  rcases Nat.mod_two_eq_zero_or_one j with hm | hm
  · rw [show j = j / 2 * 2 by omega, hf.1] at hj
    have := h.at0 _ _ hx
    rw [show off + j / 2 * 2 = off + j by omega] at this
    rw [this]; exact hj
  · rw [show j = j / 2 * 2 + 1 by omega, hf.2] at hj
    have := h.at1 _ _ hx
    rw [show off + j / 2 * 2 + 1 = off + j by omega] at this
    rw [this]; exact hj
theorem flatL_cells (xs : List Pt) : ∀ v ∈ flatL xs, v.oneCell' = true := by
  intro v hv
  obtain ⟨x, _, hv⟩ := List.mem_flatMap.1 hv
  simp at hv
  rcases hv with rfl | rfl <;> rfl
theorem sameL_refl : ∀ xs : List Pt, sameL xs xs = true
  | [] => rfl
  | x :: xs => by rw [sameL, sameL_refl xs, Bool.and_true]; simp [eqB]
end Go.Proofs.YthbameabfmoibaaGreat.Pnt
