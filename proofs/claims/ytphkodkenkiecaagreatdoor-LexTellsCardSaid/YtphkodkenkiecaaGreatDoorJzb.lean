/- Walks (the document's words): digits, numbers, spans. -/
import Derived.Test.YtphkodkenkiecaaGreatDoorJza
import Derived.Laws.IdiomStrings
import Derived.Lib.ItoaLen
import Derived.IntWalk
namespace Go.Proofs.YtphkodkenkiecaaGreatDoor
open Go.RowKit

/-! ### plain -/
def numR (l : List UInt8) : Option Tk :=
  if 13 < digitsL l ∨ 1000000000000 < valL (l.take (min (digitsL l) 13)) then none
  else if chainL (l.drop (digitsL l)) = 0 then some (2, Lib.decDigits (valL (l.take (min (digitsL l) 13))), digitsL l)
  else if secsL ((l.drop (digitsL l)).take (chainL (l.drop (digitsL l)))) = 0 ∨ 1000000000 / secsL ((l.drop (digitsL l)).take (chainL (l.drop (digitsL l)))) < valL (l.take (min (digitsL l) 13)) then none
  else some (4, Lib.decDigits (valL (l.take (min (digitsL l) 13)) * secsL ((l.drop (digitsL l)).take (chainL (l.drop (digitsL l))))), digitsL l + 1)
theorem head_digits (l : List UInt8) : ∀ c ∈ l.take (digitsL l), digB c = true := by
  intro c hc
  unfold digitsL at hc
  rw [← List.prefix_iff_eq_take.1 (List.takeWhile_prefix _)] at hc
  exact List.all_eq_true.1 List.all_takeWhile c hc
theorem digits_cons (c : UInt8) (u : List UInt8) : digitsL (c :: u) = if digB c = true then 1 + digitsL u else 0 := by
  unfold digitsL
  rw [List.takeWhile_cons]
  split
  · rw [List.length_cons]; omega
  · rfl
theorem rest_digits (l : List UInt8) (k : Nat) : digitsL ((l.drop (digitsL l)).take k) = 0 := by
  have h : ∀ m : List UInt8, digitsL (m.drop (digitsL m)) = 0 := by
    intro m
    induction m with
    | nil => rfl
    | cons c u ih =>
      rw [digits_cons]
      by_cases hc : digB c = true
      · rw [if_pos hc, Nat.add_comm, List.drop_succ_cons]; exact ih
      · rw [if_neg hc, List.drop_zero, digits_cons, if_neg hc]
  have h2 := h l
  cases hx : l.drop (digitsL l) with
  | nil => simp [digitsL]
  | cons c u =>
    rw [hx, digits_cons] at h2
    have hc : ¬ digB c = true := by intro h3; rw [if_pos h3] at h2; omega
    cases k with
    | zero => rfl
    | succ k => rw [List.take_succ_cons, digits_cons, if_neg hc]
theorem secs_one {l : List UInt8} (h : secsL l ≠ 0) : l.length = 1 := by
  unfold secsL at h
  split at h
  · rename_i e; rw [e]; rfl
  · split at h
    · rename_i e; rw [e]; rfl
    · split at h
      · rename_i e; rw [e]; rfl
      · exact absurd rfl h
theorem numR_eq (l : List UInt8) : numR l = numL (l.take (chainL l)) := by
  have hle := digitsL_le l
  have hsplit : l.take (digitsL l) ++ l.drop (digitsL l) = l := List.take_append_drop _ _
  have htl : (l.take (digitsL l)).length = digitsL l := by rw [List.length_take]; omega
  have hch : chainL l = digitsL l + chainL (l.drop (digitsL l)) := by
    have := chain_digits (l.take (digitsL l)) (l.drop (digitsL l)) (head_digits l)
    rw [hsplit, htl] at this; exact this
  obtain ⟨m, hm⟩ : ∃ m, chainL (l.drop (digitsL l)) = m := ⟨_, rfl⟩
  have hml : m ≤ (l.drop (digitsL l)).length := by rw [← hm]; exact chainL_le _
  have htake : l.take (chainL l) = l.take (digitsL l) ++ (l.drop (digitsL l)).take m := by
    rw [hch, hm]
    have key : (l.take (digitsL l) ++ l.drop (digitsL l)).take (digitsL l + m) = l.take (digitsL l) ++ (l.drop (digitsL l)).take m := by
      rw [List.take_append, htl, List.take_of_length_le (by rw [htl]; omega), Nat.add_sub_cancel_left]
    rw [hsplit] at key
    exact key
  have hd : digitsL (l.take (chainL l)) = digitsL l := by
    rw [htake, digits_app _ _ (head_digits l), rest_digits, htl]; rfl
  have ht2 : (l.take (chainL l)).take (digitsL l) = l.take (digitsL l) := by
    rw [htake, List.take_append, htl, List.take_of_length_le (by rw [htl]; omega), Nat.sub_self, List.take_zero, List.append_nil]
  have hd2 : (l.take (chainL l)).drop (digitsL l) = (l.drop (digitsL l)).take m := by
    rw [htake, List.drop_append, htl, List.drop_of_length_le (by rw [htl]; omega), Nat.sub_self, List.drop_zero, List.nil_append]
  have hlen : (l.take (chainL l)).length = digitsL l + m := by rw [htake, List.length_append, htl, List.length_take, Nat.min_eq_left hml]
  unfold numR numL
  rw [hd, ht2, hd2, hlen, hm]
  by_cases h13 : 13 < digitsL l
  · simp [h13]
  · rw [Nat.min_eq_left (by omega)]
    by_cases hv : 1000000000000 < valL (l.take (digitsL l))
    · simp [hv]
    · simp only [h13, hv, or_self, if_false]
      by_cases hm0 : m = 0
      · simp [hm0]
      · have e1 : ¬ digitsL l = digitsL l + m := by omega
        simp only [hm0, e1, if_false]
        obtain ⟨k, hk⟩ : ∃ k, secsL ((l.drop (digitsL l)).take m) = k := ⟨_, rfl⟩
        rw [hk]
        by_cases hk0 : k = 0
        · simp [hk0]
        · have h1 := secs_one (l := (l.drop (digitsL l)).take m) (by rw [hk]; exact hk0)
          rw [List.length_take, Nat.min_eq_left hml] at h1
          have hiff : (1000000000 / k < valL (l.take (digitsL l))) ↔ (1000000000 < valL (l.take (digitsL l)) * k) := Nat.div_lt_iff_lt_mul (by omega)
          by_cases hg : 1000000000 / k < valL (l.take (digitsL l))
          · have hg2 := hiff.1 hg
            simp [hg, hg2]
          · have hg2 : ¬ 1000000000 < valL (l.take (digitsL l)) * k := fun h => hg (hiff.2 h)
            simp only [hk0, hg, hg2, or_self, if_false, h1]
theorem val_snoc (l : List UInt8) (c : UInt8) : valL (l ++ [c]) = valL l * 10 + (c.toNat - 48) := by unfold valL; rw [valGo_app]; rfl
theorem val_bound (l : List UInt8) (h : ∀ c ∈ l, digB c = true) (hl : l.length ≤ 13) : valL l < 10000000000000 := by
  have h1 := Lib.decFrom_lt _ 0 _ (decFrom_dig l 0 h)
  have h2 : (10 : Nat) ^ l.length ≤ 10 ^ 13 := Nat.pow_le_pow_right (by decide) hl
  have h3 : valGo 0 l < 10 ^ l.length := by simpa using h1
  show valGo 0 l < _
  omega
end Go.Proofs.YtphkodkenkiecaaGreatDoor
