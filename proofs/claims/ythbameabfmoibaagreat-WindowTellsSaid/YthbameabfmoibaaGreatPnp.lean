/- Points of a while, plain: which points may be, those of a while, how much numbers grow. No program in it. -/
import Derived.Lib.MapLaws
namespace Go.Proofs.YthbameabfmoibaaGreat.Win

/-- A point: its time, its number. -/
abbrev Pt := Int × Int
/-- A number that may be, as chapter 4 says. -/
def valP (v : Int) : Prop := -1000000000000 ≤ v ∧ v ≤ 1000000000000
instance (v : Int) : Decidable (valP v) := by unfold valP; infer_instance
def timeP (t : Int) : Prop := 0 ≤ t ∧ t ≤ 1000000000
instance (t : Int) : Decidable (timeP t) := by unfold timeP; infer_instance
/-- Do the times rise, and may each point be? -/
def risesP : Option Int → List Pt → Bool
  | _, [] => true
  | none, x :: xs => decide (timeP x.1) && (decide (valP x.2) && risesP (some x.1) xs)
  | some p, x :: xs => decide (timeP x.1) && (decide (p < x.1) && (decide (valP x.2) && risesP (some x.1) xs))
def pointsB (l : List Pt) : Bool := decide (l.length ≤ 25) && risesP none l
theorem rises_some : ∀ (xs : List Pt) (p : Int), risesP (some p) xs = true ↔ (∀ x ∈ xs, p < x.1) ∧ xs.Pairwise (fun a b => a.1 < b.1) ∧ ∀ x ∈ xs, timeP x.1 ∧ valP x.2
  | [], p => by simp [risesP]
  | x :: xs, p => by
    have ih := rises_some xs x.1
    simp only [risesP, Bool.and_eq_true, decide_eq_true_eq, ih, List.pairwise_cons, List.forall_mem_cons]
    constructor
    · rintro ⟨h1, h2, h3, h4, h5, h6⟩
      exact ⟨⟨h2, fun y hy => Int.lt_trans h2 (h4 y hy)⟩, ⟨h4, h5⟩, ⟨h1, h3⟩, h6⟩
    · rintro ⟨⟨h1, _⟩, ⟨h3, h4⟩, ⟨h5, h6⟩, h7⟩
      exact ⟨h5, h1, h6, h3, h4, h7⟩
theorem rises_none (xs : List Pt) : risesP none xs = true ↔ xs.Pairwise (fun a b => a.1 < b.1) ∧ ∀ x ∈ xs, timeP x.1 ∧ valP x.2 := by
  cases xs with
  | nil => simp [risesP]
  | cons x xs =>
    simp only [risesP, Bool.and_eq_true, decide_eq_true_eq, rises_some, List.pairwise_cons, List.forall_mem_cons]
    constructor
    · rintro ⟨h1, h2, h3, h4, h5⟩
      exact ⟨⟨h3, h4⟩, ⟨h1, h2⟩, h5⟩
    · rintro ⟨⟨h3, h4⟩, ⟨h1, h2⟩, h5⟩
      exact ⟨h1, h2, h3, h4, h5⟩
/-- Just these points are right. -/
theorem points_iff (l : List Pt) : pointsB l = true ↔ l.length ≤ 25 ∧ l.Pairwise (fun a b => a.1 < b.1) ∧ ∀ x ∈ l, timeP x.1 ∧ valP x.2 := by
  unfold pointsB
  rw [Bool.and_eq_true, decide_eq_true_eq, rises_none]

/-- Is a time in a while: above the one, at most the other? -/
def inW (c t : Int) (x : Pt) : Bool := decide (c < x.1) && decide (x.1 ≤ t)
/-- The points of a while, as chapter 5 says. -/
def ofF (l : List Pt) (t w : Int) : List Pt := if pointsB l = true ∧ timeP t ∧ timeP w then l.filter (inW (t - w) t) else []
def lastF (l : List Pt) (t w : Int) : Int × Bool := match (ofF l t w).getLast? with | some x => (x.2, true) | none => (0, false)
/-- A while is its first part, and the rest. -/
theorem win_split {l : List Pt} (h : l.Pairwise (fun a b => a.1 < b.1)) {c d t : Int} (h1 : c ≤ d) (h2 : d ≤ t) : l.filter (inW c t) = l.filter (inW c d) ++ l.filter (inW d t) := by
  induction l with
  | nil => rfl
  | cons x xs ih =>
    obtain ⟨hx, hp⟩ := List.pairwise_cons.1 h
    have ih := ih hp
    by_cases hd : x.1 ≤ d
    · have e2 : inW d t x = false := by unfold inW; rw [decide_eq_false (by omega)]; rfl
      have e3 : inW c t x = inW c d x := by
        unfold inW
        rw [decide_eq_true (p := x.1 ≤ t) (by omega), decide_eq_true (p := x.1 ≤ d) hd]
      rw [List.filter_cons, List.filter_cons, List.filter_cons, e2, e3, ih]
      cases inW c d x <;> simp
    · have e1 : inW c d x = false := by unfold inW; rw [decide_eq_false (p := x.1 ≤ d) hd, Bool.and_false]
      have e3 : inW c t x = inW d t x := by
        unfold inW
        rw [decide_eq_true (p := c < x.1) (by omega), decide_eq_true (p := d < x.1) (by omega)]
      have e4 : xs.filter (inW c d) = [] := by
        rw [List.filter_eq_nil_iff]
        intro y hy
        have := hx y hy
        unfold inW
        rw [decide_eq_false (p := y.1 ≤ d) (by omega), Bool.and_false]; exact fun h => by cases h
      rw [e4, List.nil_append] at ih
      rw [List.filter_cons, List.filter_cons, List.filter_cons, e1, e3, e4, ih]
      simp
/-- What is in a while stays at its end when the while begins earlier. -/
theorem win_tail {l : List Pt} (h : l.Pairwise (fun a b => a.1 < b.1)) {c d t : Int} (h1 : c ≤ d) (h2 : d ≤ t) : (l.filter (inW d t)).length ≤ (l.filter (inW c t)).length ∧ (l.filter (inW c t)).drop ((l.filter (inW c t)).length - (l.filter (inW d t)).length) = l.filter (inW d t) := by
  rw [win_split h h1 h2, List.length_append]
  refine ⟨by omega, ?_⟩
  rw [show (l.filter (inW c d)).length + (l.filter (inW d t)).length - (l.filter (inW d t)).length = (l.filter (inW c d)).length by omega, List.drop_left]
/-- How much numbers grow from each to the next. -/
def grownF : List Int → Int
  | [] => 0
  | [_] => 0
  | a :: b :: l => (if a ≤ b then b - a else b) + grownF (b :: l)
/-- The single steps. -/
def stepsF : List Int → List Int
  | [] => []
  | [_] => []
  | a :: b :: l => (if a ≤ b then b - a else b) :: stepsF (b :: l)
theorem grown_sum : ∀ l : List Int, grownF l = (stepsF l).sum
  | [] => rfl
  | [_] => rfl
  | a :: b :: l => by rw [grownF, stepsF, List.sum_cons, grown_sum (b :: l)]
theorem steps_len : ∀ l : List Int, (stepsF l).length = l.length - 1
  | [] => rfl
  | [_] => rfl
  | a :: b :: l => by
    have := steps_len (b :: l)
    simp only [stepsF, List.length_cons] at this ⊢; omega
/-- Numbers that never fall grow by the last one less the first one. -/
theorem grown_rise : ∀ (l : List Int) (a : Int), (a :: l).Pairwise (fun x y => x ≤ y) → grownF (a :: l) = (a :: l).getLast (by simp) - a
  | [], a, _ => by simp [grownF]
  | b :: l, a, h => by
    obtain ⟨h1, h2⟩ := List.pairwise_cons.1 h
    rw [grownF, if_pos (h1 b (by simp)), grown_rise l b h2, List.getLast_cons (List.cons_ne_nil b l)]
    omega
theorem grown_snoc : ∀ (l : List Int) (a b : Int), grownF (l ++ [a, b]) = grownF (l ++ [a]) + (if a ≤ b then b - a else b)
  | [], a, b => by simp [grownF]
  | [x], a, b => by simp [grownF]
  | x :: y :: l, a, b => by
    have := grown_snoc (y :: l) a b
    simp only [List.cons_append] at this ⊢
    rw [grownF, grownF, this]; omega
/-- Grown in two parts that have a number in common. -/
theorem grown_parts : ∀ (l : List Int) (a : Int) (r : List Int), grownF (l ++ a :: r) = grownF (l ++ [a]) + grownF (a :: r)
  | [], a, r => by simp [grownF]
  | [x], a, r => by simp [grownF]
  | x :: y :: l, a, r => by
    have := grown_parts (y :: l) a r
    simp only [List.cons_append] at this ⊢
    rw [grownF, grownF, this]; omega
end Go.Proofs.YthbameabfmoibaaGreat.Win
