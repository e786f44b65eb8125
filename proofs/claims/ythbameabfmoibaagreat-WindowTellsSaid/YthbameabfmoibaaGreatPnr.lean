/- Points of a while, plain: the last one; what the functions answer of numbers that are small. No program in it. -/
import Derived.Test.YthbameabfmoibaaGreatPnq
namespace Go.Proofs.YthbameabfmoibaaGreat.Win

def upTo (t : Int) (x : Pt) : Bool := decide (x.1 ≤ t)
theorem inW_two (c t : Int) (l : List Pt) : l.filter (inW c t) = (l.filter (upTo t)).filter (fun x => decide (c < x.1)) := by
  rw [List.filter_filter]; congr 1
/-- The last point of a while is the last one that is not too young, if it is not too old. -/
theorem last_win {l : List Pt} (h : l.Pairwise (fun a b => a.1 < b.1)) (c t : Int) :
    (l.filter (inW c t)).getLast? = match (l.filter (upTo t)).getLast? with | some x => if c < x.1 then some x else none | none => none := by
  rw [inW_two]
  have hp : (l.filter (upTo t)).Pairwise (fun a b => a.1 < b.1) := h.sublist List.filter_sublist
  generalize l.filter (upTo t) = m at hp
  cases hm : m.getLast? with
  | none =>
    have : m = [] := List.getLast?_eq_none_iff.1 hm
    rw [this]; rfl
  | some x =>
    obtain ⟨m', rfl⟩ := List.getLast?_eq_some_iff.1 hm
    show _ = if c < x.1 then some x else none
    rw [List.filter_append]
    by_cases hc : c < x.1
    · rw [if_pos hc, List.filter_cons, if_pos (by simpa using hc)]; simp
    · rw [if_neg hc, List.filter_cons, if_neg (by simpa using hc)]
      have : m'.filter (fun x => decide (c < x.1)) = [] := by
        rw [List.filter_eq_nil_iff]
        intro y hy
        have h2 := (List.pairwise_append.1 hp).2.2 y hy x (by simp)
        simp; omega
      rw [this]; rfl
theorem upTo_step {l : List Pt} {i : Nat} {x : Pt} (hx : l[i]? = some x) (t : Int) : (l.take (i + 1)).filter (upTo t) = (l.take i).filter (upTo t) ++ (if x.1 ≤ t then [x] else []) := by
  have e : l.take (i + 1) = l.take i ++ [x] := by rw [List.take_add_one, hx]; rfl
  rw [e, List.filter_append]
  congr 1
  unfold upTo
  by_cases h : x.1 ≤ t
  · rw [if_pos h, List.filter_cons, if_pos (by simpa using h)]; rfl
  · rw [if_neg h, List.filter_cons, if_neg (by simpa using h)]; rfl
theorem nums_len (l : List Pt) : (numsF l).length = l.length := List.length_map _
theorem small_sum {l : List Int} (hl : l.length ≤ 25) (h : ∀ x ∈ l, -1000000000 ≤ x ∧ x ≤ 1000000000) : valP l.sum := by
  have := sum_between (-1000000000) 1000000000 l h
  unfold valP; omega
theorem small_grow {l : List Int} (hl : l.length ≤ 25) (h : ∀ x ∈ l, -1000000000 ≤ x ∧ x ≤ 1000000000) : growP l = some (grownF l) := by
  have hs := steps_bound (-1000000000) 1000000000 (by omega) (by omega) l h
  have hlen := steps_len l
  have hsum := sum_between (-1000000000) 2000000000 (stepsF l) (fun d hd => by have := hs d hd; omega)
  unfold growP
  rw [if_pos]
  refine ⟨fun d hd => ?_, ?_⟩
  · have := hs d hd; unfold valP; omega
  · rw [grown_sum]; unfold valP; omega
/-- Points whose numbers are small: each function's answer. -/
theorem over_small {l : List Pt} (hr : pointsB l = true) (h2 : 2 ≤ l.length) (h : ∀ x ∈ numsF l, -1000000000 ≤ x ∧ x ≤ 1000000000) :
    overF 0 l = ((numsF l).sum, true, 0) ∧ overF 1 l = (minL (numsF l), true, 0) ∧ overF 2 l = (maxL (numsF l), true, 0) ∧ overF 3 l = ((l.length : Int), true, 0) ∧ overF 4 l = ((numsF l).sum.tdiv l.length, true, 0) ∧ overF 5 l = (((numsF l).getLast?).getD 0, true, 0) ∧ overF 6 l = (grownF (numsF l), true, 0) ∧
    overF 7 l = (if valP (grownF (numsF l) * 1000) then ((grownF (numsF l) * 1000).tdiv (((timesP l).getLast?).getD 0 - ((timesP l).head?).getD 0), true, 0) else (0, false, 4)) := by
  have hl := ((points_iff l).1 hr).1
  have hn : (numsF l).length ≤ 25 := by rw [nums_len]; exact hl
  have hs := small_sum hn h
  have hg := small_grow hn h
  have hne : l ≠ [] := fun e => by rw [e] at h2; simp at h2
  have k : ∀ j : Nat, j < 8 → ¬ (8 ≤ j ∨ pointsB l = false) := fun j hj hh => by
    rcases hh with hh | hh
    · omega
    · rw [hr] at hh; cases hh
  have k2 : ∀ j : Nat, ¬ (l = [] ∨ (l.length < 2 ∧ 6 ≤ j)) := fun j hh => by
    rcases hh with hh | hh
    · exact hne hh
    · omega
  refine ⟨?_, ?_, ?_, ?_, ?_, ?_, ?_, ?_⟩ <;> (unfold overF; rw [if_neg (k _ (by decide)), if_neg (k2 _)])
  · show withinP _ = _
    unfold withinP; rw [if_pos hs]
  · rfl
  · rfl
  · rfl
  · rfl
  · rfl
  · simp only [hg]
  · simp only [hg]
/-- Of one point. -/
theorem over_one {p : Pt} (hr : pointsB [p] = true) : overF 0 [p] = (p.2, true, 0) ∧ overF 1 [p] = (p.2, true, 0) ∧ overF 2 [p] = (p.2, true, 0) ∧ overF 3 [p] = (1, true, 0) ∧ overF 4 [p] = (p.2, true, 0) ∧ overF 5 [p] = (p.2, true, 0) ∧ overF 6 [p] = (0, false, 0) ∧ overF 7 [p] = (0, false, 0) := by
  have hv := ((points_iff [p]).1 hr).2.2 p (by simp)
  refine ⟨?_, ?_, ?_, ?_, ?_, ?_, ?_, ?_⟩
  · simp [overF, hr, numsF, withinP, hv.2]
  · simp [overF, hr, numsF, minL]
  · simp [overF, hr, numsF, maxL]
  · simp [overF, hr]
  · simp [overF, hr, numsF]
  · simp [overF, hr, numsF]
  · simp [overF, hr]
  · simp [overF, hr]
theorem over_none (k : Nat) (hk : k < 8) : overF k [] = (0, false, 0) := by
  unfold overF
  rw [if_neg (by rintro (h | h); omega; exact absurd h (by decide)), if_pos (.inl rfl)]
end Go.Proofs.YthbameabfmoibaaGreat.Win
