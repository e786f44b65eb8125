/- A row of elements of two cells, ahead of a sort and behind it. -/
import Derived.Test.YtbdnonphkobkoaaGreatGh
namespace Go.Proofs.YtbdnonphkobkoaaGreat.Grp
open Go.RowKit Go.Lib Go.Sort Vec
section
variable {α : Type} [Inhabited α] {enc : α → List Value} {t : TypeId}
theorem flat_enc (hk : ∀ x, (enc x).length = 2) (d : List α) : (flatK enc 2 d.toArray).toList = (d.map enc).flatten := by
  have hw : ∀ u ∈ d.map enc, u.length = 2 := fun u hu => by
    obtain ⟨r, _, rfl⟩ := List.mem_map.1 hu
    exact hk r
  have hlen : (d.map enc).flatten.length = d.length * 2 := by
    clear hw
    induction d with
    | nil => rfl
    | cons r d ih => rw [List.map_cons, List.flatten_cons, List.length_append, ih, hk, List.length_cons]; omega
  apply List.ext_getElem?
  intro t
  by_cases ht : t < d.length * 2
  · have hj : t / 2 < d.length := by omega
    have hi : t % 2 < 2 := Nat.mod_lt _ (by omega)
    have hget : d.toArray[t / 2]! = d[t / 2] := by
      rw [getElem!_pos _ _ (by simpa using hj)]; simp
    have hl : (flatK enc 2 d.toArray)[t]? = some (enc d[t / 2])[t % 2]! := by
      have h1 := get_flatK enc 2 d.toArray t (by simpa using ht)
      rw [hget] at h1
      rw [← h1, Array.getElem?_eq_getElem (by simpa using ht), getElem!_pos _ _ (by simpa using ht)]
    have hf := flat_at (k := 2) (d.map enc) hw (t / 2) (t % 2) (enc d[t / 2]) ((enc d[t / 2])[t % 2]'(by rw [hk]; exact hi)) (by rw [List.getElem?_map, List.getElem?_eq_getElem hj]; rfl) (List.getElem?_eq_getElem _)
    rw [Array.getElem?_toList, hl, show (d.map enc).flatten[t]? = (d.map enc).flatten[t / 2 * 2 + t % 2]? by congr 1; omega, hf, getElem!_pos _ _ (by rw [hk]; exact hi)]
  · rw [List.getElem?_eq_none (by simp; omega), List.getElem?_eq_none (by rw [hlen]; omega)]
variable {t : TypeId}
theorem holdsK_own (hk : ∀ x, (enc x).length = 2) {w : World} {B g cap : Nat} {d : List α} (h : w.ownsRow B t 2 (.slice (some ⟨g, 0, none⟩) d.length cap) d.length (d.map enc).flatten) : HoldsK enc 2 w g 0 d.toArray ∧ g < w.heap.size := by
  rcases h.2 with ⟨e, _⟩ | ⟨g', cap', cur, e, hbg, hb, h1, h2, h3, h4⟩
  · cases e
  · cases e
    refine ⟨fun j hj => ⟨?_, by simp [World.frozen?, hb]⟩, (Array.getElem?_eq_some_iff.1 hb).1⟩
    have hf := flat_enc hk d
    have hj' : j < (d.map enc).flatten.length := by rw [← hf]; simpa using hj
    have h5 := h.cells (g := g) rfl j _ (List.getElem?_eq_getElem hj')
    have e1 : (⟨g, 0, none⟩ : Addr).add j = ⟨g, 0 + j, none⟩ := by
      unfold Addr.add; split
      · next h => subst h; rfl
      · simp
    rw [e1] at h5
    rw [h5, getElem!_pos (flatK enc 2 d.toArray) j hj]
    congr 1
    simp only [id]
    have h6 : (flatK enc 2 d.toArray).toList[j]? = (d.map enc).flatten[j]? := by rw [hf]
    rw [Array.getElem?_toList, Array.getElem?_eq_getElem hj, List.getElem?_eq_getElem hj'] at h6
    exact (Option.some.inj h6).symm
theorem grownBy_sort {w : World} {g n : Nat} {os : Array Obj} (d : Array α) : w.grownBy (sortWorldK enc 2 w g 0 n d os) (some g) := by
  refine ⟨rfl, rfl, rfl, by simp [sortWorldK, putRowK], fun k hk hne => ?_⟩
  unfold sortWorldK putRowK
  rw [heap_grow_old _ _ (by simpa using hk)]
  have : g ≠ k := fun e => hne (by rw [e])
  simp [putRow, mapBlock, Sort.ahead, Array.getElem?_modify, this]
theorem own_sort (hk : ∀ x, (enc x).length = 2) {w : World} {B g cap n : Nat} {os : Array Obj} {d e : List α} (hl : e.length = d.length) (h : w.ownsRow B t 2 (.slice (some ⟨g, 0, none⟩) d.length cap) d.length (d.map enc).flatten) :
    (sortWorldK enc 2 w g 0 n e.toArray os).ownsRow B t 2 (.slice (some ⟨g, 0, none⟩) d.length cap) d.length (e.map enc).flatten := by
  have hlen : ∀ f : List α, (f.map enc).flatten.length = f.length * 2 := by
    intro f
    induction f with
    | nil => rfl
    | cons r f ih => rw [List.map_cons, List.flatten_cons, List.length_append, ih, hk, List.length_cons]; omega
  rcases h.2 with ⟨e1, _⟩ | ⟨g', cap', cur, e1, hbg, hb, h1, h2, h3, h4⟩
  · cases e1
  · cases e1
    have hg : g < w.heap.size := (Array.getElem?_eq_some_iff.1 hb).1
    have hheap : (sortWorldK enc 2 w g 0 n e.toArray os).heap[g]? = some (.cells (putCells id 0 (flatK enc 2 e.toArray) cur) t (0, 0)) := by
      unfold sortWorldK putRowK
      rw [heap_grow_old _ _ (by simpa using hg)]
      simp [putRow, mapBlock, Sort.ahead, Array.getElem?_modify, hb, onCells]
    refine ⟨by rw [hlen, hl], .inr ⟨g, cap, _, rfl, hbg, hheap, h1, h2, by simp [putCells, h3], ?_⟩⟩
    apply List.ext_getElem?
    intro j
    have hsz : d.length * 2 ≤ cur.size := by rw [h3]; exact Nat.mul_le_mul_right _ h1
    by_cases hj : j < d.length * 2
    · rw [List.getElem?_take_of_lt hj, Array.getElem?_toList]
      have hj2 : j < e.length * 2 := by omega
      have h6 : (flatK enc 2 e.toArray).toList[j]? = (e.map enc).flatten[j]? := by rw [flat_enc hk]
      rw [Array.getElem?_toList] at h6
      rw [← h6]
      simp [putCells, hj2, show j < cur.size by omega]
    · rw [List.getElem?_take_eq_none (by omega), List.getElem?_eq_none (by rw [hlen]; omega)]
end
end Go.Proofs.YtbdnonphkobkoaaGreat.Grp
