/- Groups: numbers by places, plain. -/
import Derived.Test.YtbdnonphkobkoaaGreatGrn
import Derived.Test.YtbdnonphkobkoaaGreatKa
namespace Go.Proofs.YtbdnonphkobkoaaGreat.Grp
open Go.RowKit Go.Lib Go.Sort Vec Fix

/-- Each group's number. -/
def valsOf (a : Nat × Int) (gs : List Grp) : List Rw := gs.map fun g => (g.1, (numF a (nums g.2)).1)
theorem rows_vals {a : Nat × Int} (h6 : a.1 ≠ 6) : ∀ {gs : List Grp}, (∀ g ∈ gs, (numF a (nums g.2)).2 = 0) → rowsOf a gs = valsOf a gs
  | [], _ => rfl
  | g :: gs, he => by
    have ih := rows_vals h6 (gs := gs) fun x hx => he x (by simp [hx])
    have e : reckG a g = ([(g.1, (numF a (nums g.2)).1)], 0) := by unfold reckG; rw [if_neg h6, if_pos (he g (by simp))]
    unfold rowsOf valsOf at ih ⊢
    rw [List.map_cons, List.flatten_cons, ih, List.map_cons, e]; rfl
theorem reck_none {a : Nat × Int} {g : Grp} (he : (numF a (nums g.2)).2 = 0) : (reckG a g).2 = 0 := by
  unfold reckG
  split
  · rfl
  · rfl
theorem vals_rise (a : Nat × Int) (mode : Int) (ns : List ByteArray) (xs : List Rw) : risesR (valsOf a (splitR mode ns xs)) = true := by
  rw [rises_iff]
  unfold valsOf
  exact List.pairwise_map.2 (split_rise mode ns xs)
theorem vals_len (a : Nat × Int) (gs : List Grp) : (valsOf a gs).length = gs.length := by unfold valsOf; exact List.length_map _
theorem vals_at {a : Nat × Int} {gs : List Grp} {k : Nat} {x : Rw} (h : (valsOf a gs)[k]? = some x) : ∃ g, gs[k]? = some g ∧ x = (g.1, (numF a (nums g.2)).1) := by
  unfold valsOf at h
  rw [List.getElem?_map] at h
  cases hg : gs[k]? with
  | none => rw [hg] at h; simp at h
  | some g => rw [hg] at h; simp at h; exact ⟨g, rfl, h.symm⟩
theorem nums_ne {l : List Rw} (h : l ≠ []) : nums l ≠ [] := by unfold nums; simp [h]
/-- The kinds of aggregation that come to no error. -/
theorem num_plain {a : Nat × Int} (ha : a.1 = 2 ∨ a.1 = 3 ∨ a.1 = 4 ∨ a.1 = 5) (zs : List Int) : (numF a zs).2 = 0 := by
  obtain ⟨k, p⟩ := a
  simp only at ha
  rcases ha with rfl | rfl | rfl | rfl <;> rfl
theorem fold_same_min (x : Int) (xs : List Int) : (x :: xs).foldl min x = xs.foldl min x := by rw [List.foldl_cons, Int.min_self]
theorem fold_same_max (x : Int) (xs : List Int) : (x :: xs).foldl max x = xs.foldl max x := by rw [List.foldl_cons, Int.max_self]
theorem rank_low {zs : List Int} (h : zs ≠ []) : (rankF 0 zs).1 = Win.minL zs := by
  match zs, h with
  | x :: xs, h =>
    rw [rank_is h (by decide) (by decide), place_zero, show (1 : Nat) - 1 = 0 from rfl, least_is h (z := x) (by simp), fold_same_min]; rfl
theorem rank_high {zs : List Int} (h : zs ≠ []) : (rankF 100 zs).1 = Win.maxL zs := by
  match zs, h with
  | x :: xs, h =>
    rw [rank_is h (by decide) (by decide), place_full (by simp), most_is h (z := x) (by simp), fold_same_max]; rfl
theorem vals_low (n : Int) (mode : Int) (ns : List ByteArray) (xs : List Rw) : valsOf (5, 0) (splitR mode ns xs) = valsOf (2, n) (splitR mode ns xs) := by
  unfold valsOf
  refine List.map_congr_left fun g hg => ?_
  exact congrArg (Prod.mk g.1) (rank_low (nums_ne (split_ne mode ns xs g hg)))
theorem vals_high (n : Int) (mode : Int) (ns : List ByteArray) (xs : List Rw) : valsOf (5, 100) (splitR mode ns xs) = valsOf (3, n) (splitR mode ns xs) := by
  unfold valsOf
  refine List.map_congr_left fun g hg => ?_
  exact congrArg (Prod.mk g.1) (rank_high (nums_ne (split_ne mode ns xs g hg)))
theorem vals_mono {p q mode : Int} {ns : List ByteArray} {xs : List Rw} (h0 : 0 ≤ p) (h1 : p ≤ q) (h2 : q ≤ 100) {k : Nat} {x y : Rw} (hx : (valsOf (5, p) (splitR mode ns xs))[k]? = some x) (hy : (valsOf (5, q) (splitR mode ns xs))[k]? = some y) : x.2 ≤ y.2 ∧ x.1 = y.1 := by
  obtain ⟨g, hg, rfl⟩ := vals_at hx
  obtain ⟨g', hg', rfl⟩ := vals_at hy
  rw [hg] at hg'; cases hg'
  exact ⟨rank_mono (nums_ne (split_ne mode ns xs g (List.mem_of_getElem? hg))) h0 h1 h2, rfl⟩
theorem agg_rank {p : Int} (h : 0 ≤ p ∧ p ≤ 100) : aggF ⟨#[113, 117, 97, 110, 116, 105, 108, 101]⟩ p = some (5, p) := by
  unfold aggF
  rw [if_neg (by decide), if_neg (by decide), if_neg (by decide), if_neg (by decide), if_neg (by decide), if_pos rfl, if_pos h]
theorem agg_min (n : Int) : aggF ⟨#[109, 105, 110]⟩ n = some (2, 0) := by
  unfold aggF
  rw [if_neg (by decide), if_neg (by decide), if_pos rfl]
theorem agg_max (n : Int) : aggF ⟨#[109, 97, 120]⟩ n = some (3, 0) := by
  unfold aggF
  rw [if_neg (by decide), if_neg (by decide), if_neg (by decide), if_pos rfl]
theorem agg_count (n : Int) : aggF ⟨#[99, 111, 117, 110, 116]⟩ n = some (4, 0) := by
  unfold aggF
  rw [if_neg (by decide), if_neg (by decide), if_neg (by decide), if_neg (by decide), if_pos rfl]
end Go.Proofs.YtbdnonphkobkoaaGreat.Grp
