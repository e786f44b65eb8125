/- Labels: the order of names, plain. -/
import Derived.Test.YtiopnccmhocaaaaGreatLg
import Derived.Sort.Walk0
namespace Go.Proofs.YtiopnccmhocaaaaGreat
open Go.RowKit Go.Lib Go.Sort

theorem cmpB_spec : ∀ (a b : List UInt8), (compareBytes a b < 0 ↔ a < b) ∧ (compareBytes a b = 0 ↔ a = b) ∧ (0 < compareBytes a b ↔ b < a)
  | [], [] => by simp [compareBytes]
  | [], d :: ds => by simp [compareBytes]
  | c :: cs, [] => by simp [compareBytes]
  | a :: at_, b :: bs => by
    obtain ⟨h1, h2, h3⟩ := cmpB_spec at_ bs
    simp only [compareBytes, List.cons_lt_cons_iff, List.cons.injEq]
    by_cases hab : a < b
    · have n1 : ¬ a = b := fun e => by subst e; exact absurd hab (UInt8.lt_irrefl a)
      have n2 : ¬ b < a := fun e => absurd (UInt8.lt_trans hab e) (UInt8.lt_irrefl a)
      have n3 : ¬ b = a := fun e => n1 e.symm
      simp [hab, n1, n2, n3]
    · by_cases hba : b < a
      · have n1 : ¬ a = b := fun e => by subst e; exact absurd hba (UInt8.lt_irrefl a)
        have n3 : ¬ b = a := fun e => n1 e.symm
        simp [hab, hba, n1, n3]
      · have e : a = b := UInt8.le_antisymm (UInt8.not_lt.1 hba) (UInt8.not_lt.1 hab)
        subst e
        simp [UInt8.lt_irrefl, h1, h2, h3]
theorem cmpB_swap (a b : List UInt8) : compareBytes b a = -compareBytes a b := by
  induction a generalizing b with
  | nil => cases b <;> simp [compareBytes]
  | cons x xs ih =>
    cases b with
    | nil => simp [compareBytes]
    | cons y ys =>
      simp only [compareBytes]
      by_cases h1 : x < y
      · have n2 : ¬ y < x := fun e => absurd (UInt8.lt_trans h1 e) (UInt8.lt_irrefl x)
        simp [h1, n2]
      · by_cases h2 : y < x
        · simp [h1, h2]
        · simp [h1, h2, ih]
theorem lt_asymm' {a b : List UInt8} (h : a < b) : ¬ b < a := by
  intro h2
  have h1 := (cmpB_spec a b).1.2 h
  have h3 := (cmpB_spec a b).2.2.2 h2
  omega
theorem lt_trans' {a b c : List UInt8} (h : a < b) (h2 : b < c) : a < c := List.lt_trans h h2
theorem lt_of_not {a b : List UInt8} (h : ¬ a < b) (hne : a ≠ b) : b < a := by
  obtain ⟨h1, h2, h3⟩ := cmpB_spec a b
  rw [← h1] at h
  rw [← h3]
  have : compareBytes a b ≠ 0 := fun e => hne (h2.1 e)
  omega
theorem swoN : SWO (ltOf cmpN) where
  irrefl x := by
    have : ¬ cmpN x x < 0 := by unfold cmpN; rw [(cmpB_spec _ _).1]; exact List.lt_irrefl _
    simp [ltOf, this]
  trans x y z h1 h2 := by
    simp only [ltOf, decide_eq_true_eq] at *
    unfold cmpN at *
    rw [(cmpB_spec _ _).1] at *
    exact lt_trans' h1 h2
  ntrans x y z h1 h2 := by
    simp only [ltOf, decide_eq_false_iff_not] at *
    unfold cmpN at *
    rw [(cmpB_spec _ _).1] at *
    intro h
    by_cases e : x.1.data.toList = y.1.data.toList
    · rw [e] at h; exact h2 h
    · have := lt_of_not h1 e
      exact h2 (lt_trans' this h)
end Go.Proofs.YtiopnccmhocaaaaGreat
