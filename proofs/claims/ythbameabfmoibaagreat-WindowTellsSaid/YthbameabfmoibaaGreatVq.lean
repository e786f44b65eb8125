/- Walks: the document's own functions of points. -/
import Derived.Test.YthbameabfmoibaaGreatVo
import Derived.Test.YthbameabfmoibaaGreatVh
import Derived.Test.YthbameabfmoibaaGreatTb0
import Derived.Test.YthbameabfmoibaaGreatRbm
namespace Go.Proofs.YthbameabfmoibaaGreat.Win
open Go.RowKit Go.Lib

/-- Is one of the steps not to be? -/
def ovF (zs : List Int) : Bool := (stepsF zs).any fun d => !decide (valP d)
theorem steps_app : ∀ (l : List Int) (a b : Int), stepsF (l ++ [a, b]) = stepsF (l ++ [a]) ++ [if a ≤ b then b - a else b]
  | [], a, b => by simp [stepsF]
  | [x], a, b => by simp [stepsF]
  | x :: y :: l, a, b => by
    have := steps_app (y :: l) a b
    simp only [List.cons_append] at this ⊢
    rw [stepsF, stepsF, this]; rfl
theorem nums_two {xs : List Pt} {m : Nat} {x y : Pt} (hy : xs[m]? = some y) (hx : xs[m + 1]? = some x) : ∃ l, numsF (xs.take (m + 1)) = l ++ [y.2] ∧ numsF (xs.take (m + 1 + 1)) = l ++ [y.2, x.2] := by
  refine ⟨numsF (xs.take m), ?_, ?_⟩
  · exact (nums_take rfl hy).symm
  · rw [← nums_take rfl hx, ← nums_take rfl hy]; simp
theorem ov_next {xs : List Pt} {m : Nat} {x y : Pt} (hy : xs[m]? = some y) (hx : xs[m + 1]? = some x) : ovF (numsF (xs.take (m + 1 + 1))) = (ovF (numsF (xs.take (m + 1))) || !decide (valP (if y.2 ≤ x.2 then x.2 - y.2 else x.2))) := by
  obtain ⟨l, e1, e2⟩ := nums_two hy hx
  rw [e1, e2]
  unfold ovF
  rw [steps_app, List.any_append]; simp
theorem grown_next {xs : List Pt} {m : Nat} {x y : Pt} (hy : xs[m]? = some y) (hx : xs[m + 1]? = some x) : grownF (numsF (xs.take (m + 1 + 1))) = grownF (numsF (xs.take (m + 1))) + (if y.2 ≤ x.2 then x.2 - y.2 else x.2) := by
  obtain ⟨l, e1, e2⟩ := nums_two hy hx
  rw [e1, e2]
  exact grown_snoc l y.2 x.2
theorem grown_bound {xs : List Pt} (hl : xs.length ≤ 25) (hv : ∀ x ∈ xs, valP x.2) : -25000000000000 ≤ grownF (numsF xs) ∧ grownF (numsF xs) ≤ 50000000000000 := by
  have hs := steps_bound (-1000000000000) 1000000000000 (by omega) (by omega) (numsF xs) (fun v h => by
    obtain ⟨x, hx, rfl⟩ := List.mem_map.1 h
    exact hv x hx)
  have h1 := sum_between (-1000000000000) 2000000000000 (stepsF (numsF xs)) (fun d hd => by have := hs d hd; omega)
  have h2 := steps_len (numsF xs)
  have h3 := nums_len xs
  rw [← grown_sum] at h1
  omega
theorem min_start {xs : List Pt} {x0 : Pt} (h : xs[0]? = some x0) : minL (x0.2 :: numsF xs) = minL (numsF xs) := by
  cases xs with
  | nil => simp at h
  | cons z zs =>
    simp at h; subst h
    show (numsF (z :: zs)).foldl min z.2 = (numsF zs).foldl min z.2
    show (z.2 :: numsF zs).foldl min z.2 = _
    rw [List.foldl_cons, Int.min_self]
theorem max_start {xs : List Pt} {x0 : Pt} (h : xs[0]? = some x0) : maxL (x0.2 :: numsF xs) = maxL (numsF xs) := by
  cases xs with
  | nil => simp at h
  | cons z zs =>
    simp at h; subst h
    show (numsF (z :: zs)).foldl max z.2 = (numsF zs).foldl max z.2
    show (z.2 :: numsF zs).foldl max z.2 = _
    rw [List.foldl_cons, Int.max_self]
theorem min_next {xs : List Pt} {k : Nat} {x x0 : Pt} (hx : xs[k]? = some x) : minL (x0.2 :: numsF (xs.take (k + 1))) = min (minL (x0.2 :: numsF (xs.take k))) x.2 := by
  rw [← nums_take rfl hx, ← List.cons_append]
  exact minL_snoc x.2 (by simp)
theorem max_next {xs : List Pt} {k : Nat} {x x0 : Pt} (hx : xs[k]? = some x) : maxL (x0.2 :: numsF (xs.take (k + 1))) = max (maxL (x0.2 :: numsF (xs.take k))) x.2 := by
  rw [← nums_take rfl hx, ← List.cons_append]
  exact maxL_snoc x.2 (by simp)
theorem grow_ov (zs : List Int) : growE zs = if ovF zs = false ∧ valP (grownF zs) then (grownF zs, 0) else (0, 4) := by
  unfold growE
  have : (∀ d ∈ stepsF zs, valP d) ↔ ovF zs = false := by
    unfold ovF
    rw [List.any_eq_false]
    constructor
    · intro h d hd; simp [h d hd]
    · intro h d hd; simpa using h d hd
  simp only [this]
/-- What the loop has told of so many points. -/
structure LoopP (xs : List Pt) (x0 : Pt) (k : Nat) (zs : List Int) (lo hi g : Int) (ov : Bool) : Prop where
  z : zs = numsF (xs.take k)
  lo : lo = minL (x0.2 :: numsF (xs.take k))
  hi : hi = maxL (x0.2 :: numsF (xs.take k))
  g : g = grownF (numsF (xs.take k))
  ov : ov = ovF (numsF (xs.take k))
theorem loop_start (xs : List Pt) (x0 : Pt) : LoopP xs x0 0 [] x0.2 x0.2 0 false := ⟨rfl, rfl, rfl, rfl, rfl⟩
theorem loop_first {xs : List Pt} {x0 x : Pt} {zs : List Int} {lo hi g : Int} {ov : Bool} (h : LoopP xs x0 0 zs lo hi g ov) (hx : xs[0]? = some x) : LoopP xs x0 (0 + 1) (zs ++ [x.2]) (min lo x.2) (max hi x.2) g ov := by
  refine ⟨nums_take h.z hx, by rw [min_next hx, h.lo], by rw [max_next hx, h.hi], ?_, ?_⟩
  · rw [h.g, ← nums_take rfl hx]; rfl
  · rw [h.ov, ← nums_take rfl hx]; rfl
theorem loop_next {xs : List Pt} {x0 x y : Pt} {m : Nat} {zs : List Int} {lo hi g : Int} {ov : Bool} (h : LoopP xs x0 (m + 1) zs lo hi g ov) (hy : xs[m]? = some y) (hx : xs[m + 1]? = some x) :
    LoopP xs x0 (m + 1 + 1) (zs ++ [x.2]) (min lo x.2) (max hi x.2) (g + (if y.2 ≤ x.2 then x.2 - y.2 else x.2)) (ov || !decide (valP (if y.2 ≤ x.2 then x.2 - y.2 else x.2))) :=
  ⟨nums_take h.z hx, by rw [min_next hx, h.lo], by rw [max_next hx, h.hi], by rw [grown_next hy hx, h.g], by rw [ov_next hy hx, h.ov]⟩
/-- At the loop's end: what is asked of each function. -/
structure EndP (xs : List Pt) (zs : List Int) (lo hi g : Int) (ov : Bool) : Prop where
  z : zs = numsF xs
  o0 : overF 0 xs = ((sumF zs).1, (sumF zs).2 == 0, (sumF zs).2)
  o1 : overF 1 xs = (lo, true, 0)
  o2 : overF 2 xs = (hi, true, 0)
  o3 : overF 3 xs = ((xs.length : Int), true, 0)
  o4 : overF 4 xs = ((meanF zs).1, (meanF zs).2 == 0, (meanF zs).2)
  o6 : 2 ≤ xs.length → overF 6 xs = if ov = false ∧ valP g then (g, true, 0) else (0, false, 4)
  o7 : 2 ≤ xs.length → overF 7 xs = if ov = false ∧ valP g then (if valP (g * 1000) then ((g * 1000).tdiv (((timesP xs).getLast?).getD 0 - ((timesP xs).head?).getD 0), true, 0) else (0, false, 4)) else (0, false, 4)
theorem loop_end {xs : List Pt} {x0 : Pt} {k : Nat} {zs : List Int} {lo hi g : Int} {ov : Bool} (h : LoopP xs x0 k zs lo hi g ov) (hk : xs.length ≤ k) (hp : pointsB xs = true) (hx : xs[0]? = some x0) : EndP xs zs lo hi g ov := by
  have ht : xs.take k = xs := List.take_of_length_le hk
  obtain ⟨h1, h2, h3, h4, h5⟩ := h
  rw [ht] at h1 h2 h3 h4 h5
  rw [min_start hx] at h2
  rw [max_start hx] at h3
  subst h1 h2 h3 h4 h5
  have hne : xs ≠ [] := fun e => by rw [e] at hx; simp at hx
  have hpos := List.length_pos_iff.2 hne
  have hg : ∀ j, j < 8 → ¬ (8 ≤ j ∨ pointsB xs = false) := fun j hj hh => by
    rcases hh with hh | hh
    · omega
    · rw [hp] at hh; cases hh
  have hl : ∀ j, (2 ≤ xs.length ∨ j < 6) → ¬ xs.length < leastN j := fun j hh h => by
    unfold leastN at h; split at h <;> omega
  have hw : ∀ j, j < 8 → (2 ≤ xs.length ∨ j < 6) → overF j xs = ((reckonP j xs).1, (reckonP j xs).2 == 0, (reckonP j xs).2) := fun j hj hh => by
    rw [← wdo_over]; unfold wdoF; rw [if_neg (hg j hj), if_neg (hl j hh)]
  refine ⟨rfl, hw 0 (by omega) (.inr (by omega)), hw 1 (by omega) (.inr (by omega)), hw 2 (by omega) (.inr (by omega)), ?_, hw 4 (by omega) (.inr (by omega)), fun h2 => ?_, fun h2 => ?_⟩
  · rw [hw 3 (by omega) (.inr (by omega))]
    show (((numsF xs).length : Int), true, 0) = _
    rw [nums_len]
  · rw [hw 6 (by omega) (.inl h2)]
    show ((growE (numsF xs)).1, (growE (numsF xs)).2 == 0, (growE (numsF xs)).2) = _
    rw [grow_ov]
    split <;> rfl
  · rw [hw 7 (by omega) (.inl h2)]
    show ((rateE xs).1, (rateE xs).2 == 0, (rateE xs).2) = _
    unfold rateE
    rw [grow_ov]
    by_cases hc : ovF (numsF xs) = false ∧ valP (grownF (numsF xs))
    · rw [if_pos hc, if_pos hc]
      dsimp only
      rw [if_neg (by simp)]
      unfold withinF
      by_cases hv : valP (grownF (numsF xs) * 1000)
      · rw [if_pos (show rgt _ from hv), if_pos hv]; rfl
      · rw [if_neg (show ¬ rgt _ from hv), if_neg hv]; rfl
    · rw [if_neg hc, if_neg hc]; rfl
theorem sum_err {zs : List Int} (h : (sumF zs).2 ≠ 0) : (sumF zs).1 = 0 := by
  unfold sumF at h ⊢
  split
  · next q =>
    rw [if_pos q] at h
    unfold withinF at h ⊢
    split
    · next r => rw [if_pos r] at h; exact absurd rfl h
    · rfl
  · rfl
theorem mean_err {zs : List Int} (h : (meanF zs).2 ≠ 0) : (meanF zs).1 = 0 := by
  unfold meanF at h ⊢
  split
  · rfl
  · next q =>
    split
    · next r => rw [if_neg q, if_pos r] at h; exact absurd rfl h
    · rfl
end Go.Proofs.YthbameabfmoibaaGreat.Win
