/- Numbers in order, plain: the least, the greatest, how many are not greater. -/
import Derived.Test.YtbdnonphkobkoaaGreatFg
namespace Go.Proofs.YtbdnonphkobkoaaGreat.Fix

theorem sorted_le {l : List Int} (h : l.Pairwise (fun a b => a ≤ b)) {i j : Nat} (hij : i ≤ j) (hj : j < l.length) : l.getD i 0 ≤ l.getD j 0 := by
  have hi : i < l.length := by omega
  simp only [List.getD, List.getElem?_eq_getElem hi, List.getElem?_eq_getElem hj, Option.getD_some]
  rcases Nat.lt_or_eq_of_le hij with h1 | rfl
  · exact List.pairwise_iff_getElem.1 h i j hi hj h1
  · exact Int.le_refl _
theorem getD_mem {l : List Int} {i : Nat} (h : i < l.length) : l.getD i 0 ∈ l := by
  simp [List.getD, List.getElem?_eq_getElem h]
theorem mem_getD {l : List Int} {x : Int} (h : x ∈ l) : ∃ i, i < l.length ∧ l.getD i 0 = x := by
  obtain ⟨i, hi, e⟩ := List.getElem_of_mem h
  exact ⟨i, hi, by simp [List.getD, List.getElem?_eq_getElem hi, e]⟩
theorem foldl_min_le (l : List Int) : ∀ z, l.foldl min z ≤ z ∧ (∀ x ∈ l, l.foldl min z ≤ x) ∧ (l.foldl min z = z ∨ l.foldl min z ∈ l) := by
  induction l with
  | nil => intro z; simp
  | cons y l ih =>
    intro z
    obtain ⟨h1, h2, h3⟩ := ih (min z y)
    rw [List.foldl_cons]
    refine ⟨by omega, fun x hx => ?_, ?_⟩
    · rcases List.mem_cons.1 hx with rfl | hx
      · omega
      · exact h2 x hx
    · rcases h3 with h3 | h3
      · by_cases hz : z ≤ y
        · left; omega
        · right; rw [h3, show min z y = y by omega]; simp
      · right; exact List.mem_cons_of_mem _ h3
theorem foldl_max_le (l : List Int) : ∀ z, z ≤ l.foldl max z ∧ (∀ x ∈ l, x ≤ l.foldl max z) ∧ (l.foldl max z = z ∨ l.foldl max z ∈ l) := by
  induction l with
  | nil => intro z; simp
  | cons y l ih =>
    intro z
    obtain ⟨h1, h2, h3⟩ := ih (max z y)
    rw [List.foldl_cons]
    refine ⟨by omega, fun x hx => ?_, ?_⟩
    · rcases List.mem_cons.1 hx with rfl | hx
      · omega
      · exact h2 x hx
    · rcases h3 with h3 | h3
      · by_cases hz : y ≤ z
        · left; omega
        · right; rw [h3, show max z y = y by omega]; simp
      · right; exact List.mem_cons_of_mem _ h3

theorem len_pos {zs : List Int} (hne : zs ≠ []) : 0 < (risen zs).length := by rw [risen_length]; exact List.length_pos_iff.2 hne
theorem least_is {zs : List Int} (hne : zs ≠ []) {z : Int} (hz : z ∈ zs) : (risen zs).getD 0 0 = zs.foldl min z := by
  have hl := len_pos hne
  obtain ⟨h1, h2, h3⟩ := foldl_min_le zs z
  have hm : zs.foldl min z ∈ zs := by rcases h3 with h3 | h3; rw [h3]; exact hz; exact h3
  have a1 := h2 _ ((risen_perm zs).mem_iff.1 (getD_mem hl))
  obtain ⟨i, hi, e⟩ := mem_getD ((risen_perm zs).mem_iff.2 hm)
  have a2 := sorted_le (risen_sorted zs) (Nat.zero_le i) hi
  omega
theorem most_is {zs : List Int} (hne : zs ≠ []) {z : Int} (hz : z ∈ zs) : (risen zs).getD (zs.length - 1) 0 = zs.foldl max z := by
  have hl := len_pos hne
  have hl2 := risen_length zs
  obtain ⟨h1, h2, h3⟩ := foldl_max_le zs z
  have hm : zs.foldl max z ∈ zs := by rcases h3 with h3 | h3; rw [h3]; exact hz; exact h3
  have a1 := h2 _ ((risen_perm zs).mem_iff.1 (getD_mem (i := zs.length - 1) (by omega)))
  obtain ⟨i, hi, e⟩ := mem_getD ((risen_perm zs).mem_iff.2 hm)
  have a2 := sorted_le (risen_sorted zs) (show i ≤ zs.length - 1 by omega) (by omega)
  omega

theorem place_pos (p : Int) (n : Nat) : 1 ≤ placeF p n := by unfold placeF; omega
theorem place_le {p : Int} {n : Nat} (hp : p ≤ 100) (hn : 1 ≤ n) : placeF p n ≤ n := by
  have h1 := Nat.mul_le_mul_right n (show p.toNat ≤ 100 by omega)
  unfold placeF; omega
theorem place_mono {p q : Int} {n : Nat} (h : p ≤ q) : placeF p n ≤ placeF q n := by
  have h1 := Nat.mul_le_mul_right n (show p.toNat ≤ q.toNat by omega)
  unfold placeF; omega
theorem place_zero (n : Nat) : placeF 0 n = 1 := by unfold placeF; simp
theorem place_full {n : Nat} (hn : 1 ≤ n) : placeF 100 n = n := by
  have : (100 : Int).toNat = 100 := rfl
  unfold placeF; rw [this]; omega
theorem rank_is {p : Int} {zs : List Int} (hne : zs ≠ []) (h0 : 0 ≤ p) (h1 : p ≤ 100) : rankF p zs = ((risen zs).getD (placeF p zs.length - 1) 0, true) := by
  unfold rankF; rw [if_neg (by simp [hne]; omega)]
/-- As many as the place says are not greater. -/
theorem count_ge (l : List Int) (hs : l.Pairwise (fun a b => a ≤ b)) (k : Nat) (hk : k < l.length) : k + 1 ≤ l.countP (fun x => decide (x ≤ l.getD k 0)) := by
  have h1 : (l.take (k + 1)).countP (fun x => decide (x ≤ l.getD k 0)) = (l.take (k + 1)).length := by
    rw [List.countP_eq_length]
    intro x hx
    obtain ⟨i, hi, e⟩ := List.getElem_of_mem hx
    have hi2 : i < k + 1 := by rw [List.length_take] at hi; omega
    have : x = l.getD i 0 := by rw [← e]; simp [List.getD, List.getElem?_eq_getElem (show i < l.length by omega)]
    rw [this]
    simpa using sorted_le hs (show i ≤ k by omega) hk
  have h2 : (l.take (k + 1)).length = k + 1 := by rw [List.length_take]; omega
  have h3 := List.countP_append (p := fun x => decide (x ≤ l.getD k 0)) (l₁ := l.take (k + 1)) (l₂ := l.drop (k + 1))
  rw [List.take_append_drop] at h3
  omega
theorem count_place {p : Int} {zs : List Int} (hne : zs ≠ []) (h0 : 0 ≤ p) (h1 : p ≤ 100) : p * zs.length ≤ 100 * (zs.countP (fun x => decide (x ≤ (rankF p zs).1)) : Nat) := by
  have hn : 1 ≤ zs.length := List.length_pos_iff.2 hne
  rw [rank_is hne h0 h1]
  have hl := place_le (n := zs.length) h1 hn
  have hp := place_pos p zs.length
  have hc := count_ge (risen zs) (risen_sorted zs) (placeF p zs.length - 1) (by rw [risen_length]; omega)
  rw [(risen_perm zs).countP_eq] at hc
  obtain ⟨q, rfl⟩ : ∃ q : Nat, p = q := ⟨p.toNat, by omega⟩
  have hpl : placeF (q : Int) zs.length = max ((q * zs.length + 99) / 100) 1 := by unfold placeF; rw [Int.toNat_natCast]
  have hqn : ((q * zs.length : Nat) : Int) = (q : Int) * zs.length := Int.natCast_mul q zs.length
  rw [← hqn]
  dsimp only
  omega
theorem rank_mono {p q : Int} {zs : List Int} (hne : zs ≠ []) (h0 : 0 ≤ p) (h1 : p ≤ q) (h2 : q ≤ 100) : (rankF p zs).1 ≤ (rankF q zs).1 := by
  have hn : 1 ≤ zs.length := List.length_pos_iff.2 hne
  rw [rank_is hne h0 (by omega), rank_is hne (by omega) h2]
  have := place_mono (n := zs.length) h1
  have h3 := place_le (n := zs.length) h2 hn
  have h4 := place_pos q zs.length
  exact sorted_le (risen_sorted zs) (by omega) (by rw [risen_length]; omega)
theorem rank_mem {p : Int} {zs : List Int} (hne : zs ≠ []) (h0 : 0 ≤ p) (h1 : p ≤ 100) : (rankF p zs).1 ∈ zs := by
  have hn : 1 ≤ zs.length := List.length_pos_iff.2 hne
  rw [rank_is hne h0 h1]
  have h3 := place_le (n := zs.length) h1 hn
  have h4 := place_pos p zs.length
  exact (risen_perm zs).mem_iff.1 (getD_mem (by rw [risen_length]; omega))
end Go.Proofs.YtbdnonphkobkoaaGreat.Fix
