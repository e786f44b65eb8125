/- Functions of points, plain: what each answers, and what holds of the answers. No program in it. -/
import Derived.Test.YthbameabfmoibaaGreatPnp
namespace Go.Proofs.YthbameabfmoibaaGreat.Win

def minL : List Int → Int
  | [] => 0
  | x :: xs => xs.foldl min x
def maxL : List Int → Int
  | [] => 0
  | x :: xs => xs.foldl max x
theorem foldl_min : ∀ (xs : List Int) (a : Int), xs.foldl min a ≤ a ∧ (∀ x ∈ xs, xs.foldl min a ≤ x) ∧ (xs.foldl min a = a ∨ xs.foldl min a ∈ xs)
  | [], a => by simp
  | y :: ys, a => by
    obtain ⟨h1, h2, h3⟩ := foldl_min ys (min a y)
    rw [List.foldl_cons]
    refine ⟨by omega, fun x hx => ?_, ?_⟩
    · rcases List.mem_cons.1 hx with rfl | hx
      · omega
      · exact h2 x hx
    · rcases h3 with h3 | h3
      · rw [h3]
        by_cases h : a ≤ y
        · exact .inl (by omega)
        · exact .inr (List.mem_cons.2 (.inl (by omega)))
      · exact .inr (List.mem_cons_of_mem _ h3)
theorem foldl_max : ∀ (xs : List Int) (a : Int), a ≤ xs.foldl max a ∧ (∀ x ∈ xs, x ≤ xs.foldl max a) ∧ (xs.foldl max a = a ∨ xs.foldl max a ∈ xs)
  | [], a => by simp
  | y :: ys, a => by
    obtain ⟨h1, h2, h3⟩ := foldl_max ys (max a y)
    rw [List.foldl_cons]
    refine ⟨by omega, fun x hx => ?_, ?_⟩
    · rcases List.mem_cons.1 hx with rfl | hx
      · omega
      · exact h2 x hx
    · rcases h3 with h3 | h3
      · rw [h3]
        by_cases h : y ≤ a
        · exact .inl (by omega)
        · exact .inr (List.mem_cons.2 (.inl (by omega)))
      · exact .inr (List.mem_cons_of_mem _ h3)
theorem min_le {l : List Int} : ∀ x ∈ l, minL l ≤ x := by
  cases l with
  | nil => intro x hx; simp at hx
  | cons y ys =>
    intro x hx
    obtain ⟨h1, h2, _⟩ := foldl_min ys y
    rcases List.mem_cons.1 hx with rfl | hx
    · exact h1
    · exact h2 x hx
theorem le_max {l : List Int} : ∀ x ∈ l, x ≤ maxL l := by
  cases l with
  | nil => intro x hx; simp at hx
  | cons y ys =>
    intro x hx
    obtain ⟨h1, h2, _⟩ := foldl_max ys y
    rcases List.mem_cons.1 hx with rfl | hx
    · exact h1
    · exact h2 x hx
theorem min_mem {l : List Int} (h : l ≠ []) : minL l ∈ l := by
  cases l with
  | nil => exact absurd rfl h
  | cons y ys =>
    obtain ⟨_, _, h3⟩ := foldl_min ys y
    show ys.foldl min y ∈ y :: ys
    rcases h3 with h3 | h3
    · rw [h3]; exact List.mem_cons_self
    · exact List.mem_cons_of_mem _ h3
theorem max_mem {l : List Int} (h : l ≠ []) : maxL l ∈ l := by
  cases l with
  | nil => exact absurd rfl h
  | cons y ys =>
    obtain ⟨_, _, h3⟩ := foldl_max ys y
    show ys.foldl max y ∈ y :: ys
    rcases h3 with h3 | h3
    · rw [h3]; exact List.mem_cons_self
    · exact List.mem_cons_of_mem _ h3
theorem sum_between (lo hi : Int) : ∀ l : List Int, (∀ x ∈ l, lo ≤ x ∧ x ≤ hi) → lo * l.length ≤ l.sum ∧ l.sum ≤ hi * l.length
  | [], _ => by simp
  | x :: xs, h => by
    obtain ⟨h1, h2⟩ := sum_between lo hi xs (fun y hy => h y (List.mem_cons_of_mem _ hy))
    have h3 := h x List.mem_cons_self
    have e : ((x :: xs).length : Int) = xs.length + 1 := by simp
    rw [List.sum_cons, e, Int.mul_add, Int.mul_add, Int.mul_one, Int.mul_one]
    omega
/-- A mean, cut towards nought, is no further out than what it is the mean of. -/
theorem mean_between {lo hi s : Int} {n : Nat} (hn : 0 < n) (h1 : lo * n ≤ s) (h2 : s ≤ hi * n) : lo ≤ s.tdiv n ∧ s.tdiv n ≤ hi := by
  have hn0 : (0 : Int) < n := by omega
  have e := Int.mul_tdiv_add_tmod s n
  rcases Int.lt_or_le s 0 with hs | hs
  · -- below nought: the quotient is rounded up
    have hr : s.tmod n ≤ 0 := by
      have := Int.tmod_nonneg (n : Int) (show 0 ≤ -s by omega)
      rw [Int.neg_tmod] at this; omega
    have hr2 : -(n : Int) < s.tmod n := by
      have := Int.lt_tmod_of_pos s hn0
      exact this
    constructor
    · by_cases h : lo ≤ s.tdiv n
      · exact h
      · exfalso
        have h3 : s.tdiv n + 1 ≤ lo := by omega
        have h4 : (n : Int) * (s.tdiv n + 1) ≤ n * lo := Int.mul_le_mul_of_nonneg_left h3 (by omega)
        rw [Int.mul_add, Int.mul_one] at h4
        rw [Int.mul_comm] at h1
        omega
    · by_cases h : s.tdiv n ≤ hi
      · exact h
      · exfalso
        have h3 : hi + 1 ≤ s.tdiv n := by omega
        have h4 : (n : Int) * (hi + 1) ≤ n * s.tdiv n := Int.mul_le_mul_of_nonneg_left h3 (by omega)
        rw [Int.mul_add, Int.mul_one] at h4
        rw [Int.mul_comm] at h2
        omega
  · have hr : 0 ≤ s.tmod n := Int.tmod_nonneg _ hs
    have hr2 : s.tmod n < n := Int.tmod_lt_of_pos s hn0
    constructor
    · by_cases h : lo ≤ s.tdiv n
      · exact h
      · exfalso
        have h3 : s.tdiv n + 1 ≤ lo := by omega
        have h4 : (n : Int) * (s.tdiv n + 1) ≤ n * lo := Int.mul_le_mul_of_nonneg_left h3 (by omega)
        rw [Int.mul_add, Int.mul_one] at h4
        rw [Int.mul_comm] at h1
        omega
    · by_cases h : s.tdiv n ≤ hi
      · exact h
      · exfalso
        have h3 : hi + 1 ≤ s.tdiv n := by omega
        have h4 : (n : Int) * (hi + 1) ≤ n * s.tdiv n := Int.mul_le_mul_of_nonneg_left h3 (by omega)
        rw [Int.mul_add, Int.mul_one] at h4
        rw [Int.mul_comm] at h2
        omega
theorem steps_bound (lo hi : Int) (hlo : lo ≤ 0) (hhi : 0 ≤ hi) : ∀ l : List Int, (∀ x ∈ l, lo ≤ x ∧ x ≤ hi) → ∀ d ∈ stepsF l, lo ≤ d ∧ d ≤ hi - lo
  | [], _ => by simp [stepsF]
  | [_], _ => by simp [stepsF]
  | a :: b :: l, h => by
    intro d hd
    rw [stepsF] at hd
    have ha := h a (by simp)
    have hb := h b (by simp)
    rcases List.mem_cons.1 hd with rfl | hd
    · split <;> omega
    · exact steps_bound lo hi hlo hhi (b :: l) (fun x hx => h x (List.mem_cons_of_mem _ hx)) d hd

/-- The numbers, the times. -/
def numsF (l : List Pt) : List Int := l.map fun x => x.2
def timesP (l : List Pt) : List Int := l.map fun x => x.1
/-- The eight functions, by their places in chapter 5's row of names. -/
def withinP (v : Int) : Int × Bool × Int := if valP v then (v, true, 0) else (0, false, 4)
def growP (l : List Int) : Option Int := if (∀ d ∈ stepsF l, valP d) ∧ valP (grownF l) then some (grownF l) else none
def overF (k : Nat) (l : List Pt) : Int × Bool × Int :=
  if 8 ≤ k ∨ pointsB l = false then (0, false, 1)
  else if l = [] ∨ (l.length < 2 ∧ 6 ≤ k) then (0, false, 0)
  else match k with
    | 0 => withinP (numsF l).sum
    | 1 => (minL (numsF l), true, 0)
    | 2 => (maxL (numsF l), true, 0)
    | 3 => (l.length, true, 0)
    | 4 => ((numsF l).sum.tdiv l.length, true, 0)
    | 5 => (((numsF l).getLast?).getD 0, true, 0)
    | 6 => match growP (numsF l) with | some g => (g, true, 0) | none => (0, false, 4)
    | _ => match growP (numsF l) with
      | some g => if valP (g * 1000) then ((g * 1000).tdiv (((timesP l).getLast?).getD 0 - ((timesP l).head?).getD 0), true, 0) else (0, false, 4)
      | none => (0, false, 4)
end Go.Proofs.YthbameabfmoibaaGreat.Win
