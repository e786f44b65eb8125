/- Labels: a row of the call's own, before the library's sort and behind it. -/
import Derived.Test.YtiopnccmhocaaaaGreatLf
namespace Go.Proofs.YtiopnccmhocaaaaGreat
open Go.RowKit Go.Lib Go.Sort

def encL (x : Lab) : List Value := [.string x.1, .string x.2]
theorem encL_len (x : Lab) : (encL x).length = 2 := rfl
theorem flat_encL (s : List Lab) : (flatK encL 2 s.toArray).toList = flatL s := by
  apply List.ext_getElem?
  intro t
  by_cases ht : t < s.length * 2
  · have hj : t / 2 < s.length := by omega
    obtain ⟨x, hx⟩ : ∃ x, s[t / 2]? = some x := ⟨_, List.getElem?_eq_getElem hj⟩
    have hget : s.toArray[t / 2]! = x := by
      rw [getElem!_pos _ _ (by simpa using hj)]
      have := List.getElem?_eq_getElem hj
      rw [hx] at this
      simpa using (Option.some.inj this).symm
    have hf := flatL_at s (t / 2) x hx
    have hl : (flatK encL 2 s.toArray)[t]? = some (encL x)[t % 2]! := by
      have h1 := get_flatK encL 2 s.toArray t (by simpa using ht)
      rw [hget] at h1
      rw [← h1, Array.getElem?_eq_getElem (by simpa using ht), getElem!_pos _ _ (by simpa using ht)]
    rw [Array.getElem?_toList, hl]
    rcases Nat.mod_two_eq_zero_or_one t with h | h
    · rw [show (flatL s)[t]? = (flatL s)[t / 2 * 2]? by congr 1; omega, hf.1, h]; rfl
    · rw [show (flatL s)[t]? = (flatL s)[t / 2 * 2 + 1]? by congr 1; omega, hf.2, h]; rfl
  · rw [List.getElem?_eq_none (by simp; omega), List.getElem?_eq_none (by rw [flatL_len]; omega)]
theorem holdsK_own {w : World} {B g cap : Nat} {xs : List Lab} (h : w.ownsRow B 56 2 (.slice (some ⟨g, 0, none⟩) xs.length cap) xs.length (flatL xs)) : HoldsK encL 2 w g 0 xs.toArray ∧ g < w.heap.size := by
  rcases h.2 with ⟨e, _⟩ | ⟨g', cap', cur, e, hbg, hb, h1, h2, h3, h4⟩
  · cases e
  · cases e
    refine ⟨fun j hj => ⟨?_, by simp [World.frozen?, hb]⟩, (Array.getElem?_eq_some_iff.1 hb).1⟩
    have hj' : j < (flatL xs).length := by rw [flatL_len]; simpa using hj
    have h5 := h.cells (g := g) rfl j (flatL xs)[j] (List.getElem?_eq_getElem hj')
    have e1 : (⟨g, 0, none⟩ : Addr).add j = ⟨g, 0 + j, none⟩ := by
      unfold Addr.add; split
      · next h => subst h; rfl
      · simp
    rw [e1] at h5
    rw [h5, getElem!_pos (flatK encL 2 xs.toArray) j hj]
    congr 1
    have := flat_encL xs
    simp only [id]
    have h6 : (flatK encL 2 xs.toArray).toList[j]? = (flatL xs)[j]? := by rw [this]
    rw [Array.getElem?_toList, Array.getElem?_eq_getElem hj, List.getElem?_eq_getElem hj'] at h6
    exact (Option.some.inj h6).symm
theorem grownBy_sortK {w : World} {g n : Nat} {os : Array Obj} (d : Array Lab) : w.grownBy (sortWorldK encL 2 w g 0 n d os) (some g) := by
  refine ⟨rfl, rfl, rfl, by simp [sortWorldK, putRowK], fun k hk hne => ?_⟩
  unfold sortWorldK putRowK
  rw [heap_grow_old _ _ (by simpa using hk)]
  have : g ≠ k := fun e => hne (by rw [e])
  simp [putRow, mapBlock, Sort.ahead, Array.getElem?_modify, this]
theorem own_sortK {w : World} {B g cap n : Nat} {os : Array Obj} {xs ys : List Lab} (hl : ys.length = xs.length) (h : w.ownsRow B 56 2 (.slice (some ⟨g, 0, none⟩) xs.length cap) xs.length (flatL xs)) :
    (sortWorldK encL 2 w g 0 n ys.toArray os).ownsRow B 56 2 (.slice (some ⟨g, 0, none⟩) xs.length cap) xs.length (flatL ys) := by
  rcases h.2 with ⟨e, _⟩ | ⟨g', cap', cur, e, hbg, hb, h1, h2, h3, h4⟩
  · cases e
  · cases e
    have hg : g < w.heap.size := (Array.getElem?_eq_some_iff.1 hb).1
    have hheap : (sortWorldK encL 2 w g 0 n ys.toArray os).heap[g]? = some (.cells (putCells id 0 (flatK encL 2 ys.toArray) cur) 56 (0, 0)) := by
      unfold sortWorldK putRowK
      rw [heap_grow_old _ _ (by simpa using hg)]
      simp [putRow, mapBlock, Sort.ahead, Array.getElem?_modify, hb, onCells]
    refine ⟨by rw [flatL_len, hl], .inr ⟨g, cap, _, rfl, hbg, hheap, h1, h2, by simp [putCells, h3], ?_⟩⟩
    apply List.ext_getElem?
    intro j
    have hsz : xs.length * 2 ≤ cur.size := by rw [h3]; exact Nat.mul_le_mul_right _ h1
    by_cases hj : j < xs.length * 2
    · rw [List.getElem?_take_of_lt hj, Array.getElem?_toList]
      have hj2 : j < ys.length * 2 := by omega
      have h6 : (flatK encL 2 ys.toArray).toList[j]? = (flatL ys)[j]? := by rw [flat_encL]
      rw [Array.getElem?_toList] at h6
      rw [← h6]
      simp [putCells, hj2, show j < cur.size by omega]
    · rw [List.getElem?_take_eq_none (by omega), List.getElem?_eq_none (by rw [flatL_len]; omega)]
end Go.Proofs.YtiopnccmhocaaaaGreat
