/- Patterns, plain: two patterns one behind the other, one or the other, one again and again: what the parts say. No program in it. -/
import Derived.Test.YtfpdhmecomgbdaaQf
namespace Go.Proofs.Ytfpdhmecomgbdaa

theorem plus_app {P : List Int → Prop} {u v : List Int} (h : Plus P u) (k : Plus P v) : Plus P (u ++ v) := by
  induction h with
  | one h => exact .more h k
  | more h _ ih => rw [List.append_assoc]; exact .more h ih
theorem plus_last {P : List Int → Prop} {s : List Int} (h : Plus P s) : s ≠ [] → ∃ i, i < s.length ∧ (s.take i = [] ∨ Plus P (s.take i)) ∧ P (s.drop i) := by
  induction h with
  | one h => intro hne; exact ⟨0, List.length_pos_iff.2 hne, .inl (by simp), by simpa using h⟩
  | @more u v h k ih =>
    intro hne
    by_cases hv : v = []
    · subst hv
      rw [List.append_nil] at hne ⊢
      exact ⟨0, List.length_pos_iff.2 hne, .inl (by simp), by simpa using h⟩
    · obtain ⟨i, hi, h1, h2⟩ := ih hv
      refine ⟨u.length + i, by rw [List.length_append]; omega, .inr ?_, ?_⟩
      · have e : (u ++ v).take (u.length + i) = u ++ v.take i := by rw [List.take_append, List.take_of_length_le (by omega)]; congr 2; omega
        rw [e]
        rcases h1 with h1 | h1
        · rw [h1, List.append_nil]; exact .one h
        · exact .more h h1
      · have e : (u ++ v).drop (u.length + i) = v.drop i := by rw [List.drop_append, List.drop_eq_nil_of_le (by omega), List.nil_append]; congr 1; omega
        rw [e]; exact h2
theorem plus_cut {P : List Int → Prop} {s : List Int} (hne : s ≠ []) : Plus P s ↔ ∃ i, i < s.length ∧ (s.take i = [] ∨ Plus P (s.take i)) ∧ P (s.drop i) := by
  constructor
  · intro h; exact plus_last h hne
  · rintro ⟨i, _, h1, h2⟩
    rw [← List.take_append_drop i s]
    rcases h1 with h1 | h1
    · rw [h1, List.nil_append]; exact .one h2
    · exact plus_app h1 (.one h2)
/-- One part ahead of a place below k, the other behind it. -/
def innF (T U : Eg × Gr) (rs : List Int) (k : Nat) : Bool := (List.range k).any fun i => wholeF T (rs.take i) && wholeF U (rs.drop i)
/-- A place below j that is reached, and the part from there to k. -/
def accF (T S : Eg × Gr) (rs : List Int) (k j : Nat) : Bool := decide (k = 0) || (List.range j).any fun i => wholeF S (rs.take i) && wholeF T ((rs.drop i).take (k - i))
theorem innF_step (T U : Eg × Gr) (rs : List Int) (k : Nat) : innF T U rs (k + 1) = (innF T U rs k || (wholeF T (rs.take k) && wholeF U (rs.drop k))) := by
  unfold innF; rw [List.range_succ, List.any_append]; simp
theorem accF_step (T S : Eg × Gr) (rs : List Int) (k j : Nat) : accF T S rs k (j + 1) = (accF T S rs k j || (wholeF S (rs.take j) && wholeF T ((rs.drop j).take (k - j)))) := by
  unfold accF; rw [List.range_succ, List.any_append]; simp [Bool.or_assoc]
theorem accF_zero (T S : Eg × Gr) (rs : List Int) (k : Nat) : accF T S rs k 0 = decide (k = 0) := by
  unfold accF; simp
theorem innF_zero (T U : Eg × Gr) (rs : List Int) : innF T U rs 0 = false := rfl
/-- What the five patterns say of a text. -/
structure PartsAt (rs : List Int) (T U B O S : Eg × Gr) : Prop where
  both : wholeF B rs = innF T U rs (rs.length + 1)
  either : wholeF O rs = (wholeF T rs || wholeF U rs)
  star : ∀ k, k ≤ rs.length → wholeF S (rs.take k) = accF T S rs k k
  nil : wholeF S [] = true
theorem parts_at (x y : Pt) (rs : List Int) : PartsAt rs (layF x ⟨[], []⟩) (layF y ⟨[], []⟩) (layF (.choice [.chain [x, y]]) ⟨[], []⟩) (layF (.choice [.chain [x], .chain [y]]) ⟨[], []⟩) (layF (.choice [.chain [.times x true true]]) ⟨[], []⟩) := by
  refine ⟨?_, ?_, ?_, ?_⟩
  · rw [Bool.eq_iff_iff, whole_lang, lang_both]
    unfold innF
    rw [List.any_eq_true]
    constructor
    · rintro ⟨u, v, rfl, h1, h2⟩
      refine ⟨u.length, by rw [List.mem_range, List.length_append]; omega, ?_⟩
      rw [List.take_left, List.drop_left, Bool.and_eq_true, whole_lang, whole_lang]
      exact ⟨h1, h2⟩
    · rintro ⟨i, _, h⟩
      rw [Bool.and_eq_true, whole_lang, whole_lang] at h
      exact ⟨_, _, (List.take_append_drop i rs).symm, h.1, h.2⟩
  · rw [Bool.eq_iff_iff, whole_lang, lang_either, Bool.or_eq_true, whole_lang, whole_lang]
  · intro k hk
    rw [Bool.eq_iff_iff, whole_lang, lang_star]
    unfold accF
    by_cases h0 : k = 0
    · subst h0; simp
    · have hne : rs.take k ≠ [] := by
        intro h
        have := congrArg List.length h
        rw [List.length_take, List.length_nil] at this
        omega
      have hl : (rs.take k).length = k := by rw [List.length_take]; omega
      rw [or_iff_right hne, plus_cut hne, hl, Bool.or_eq_true, decide_eq_true_iff, or_iff_right h0, List.any_eq_true]
      refine exists_congr fun i => ?_
      rw [List.mem_range]
      refine and_congr_right fun hi => ?_
      rw [Bool.and_eq_true, whole_lang, whole_lang, lang_star, List.take_take, Nat.min_eq_left (by omega), List.drop_take]
  · rw [whole_lang, lang_star]; exact .inl rfl
end Go.Proofs.Ytfpdhmecomgbdaa
