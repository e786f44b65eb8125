/- Plain: the words of a text (lex), as lists of bytes. No program in it. -/
import Derived.Test.YtphkodkenkiecaaGreatDoorMra
import Derived.Lib.ItoaNum
import Derived.Lib.Atoi
namespace Go.Proofs.YtphkodkenkiecaaGreatDoor
open Go.Lib

/-- A letter or a digit. -/
def wordy (t : List UInt8) : Bool := decide (kindZ (rune t) = 1 ∨ kindZ (rune t) = 2)
def wideL (t : List UInt8) : Nat := (decodeL t).2
/-- How many bytes of letters and digits there are first. -/
def chainL (l : List UInt8) : Nat := (((sufs l).takeWhile wordy).map wideL).sum
theorem chainL_nil : chainL [] = 0 := rfl
theorem chainL_step (l : List UInt8) (hne : l ≠ []) : chainL l = if wordy l = true then wideL l + chainL (l.drop (wideL l)) else 0 := by
  unfold chainL
  rw [sufs_step l hne, List.takeWhile_cons]
  split
  · rw [List.map_cons, List.sum_cons]; rfl
  · rfl
theorem wide_pos (l : List UInt8) : 1 ≤ wideL l := decodeL_width l
theorem wide_le {l : List UInt8} (hne : l ≠ []) : wideL l ≤ l.length := decodeL_le l hne
theorem chainL_le (l : List UInt8) : chainL l ≤ l.length := by
  induction l using sufs_induct with
  | h0 => exact Nat.le_refl _
  | h1 l hne ih =>
    rw [chainL_step l hne]
    have := wide_le hne
    split
    · have e : (List.drop (wideL l) l).length = l.length - wideL l := List.length_drop ..
      have ih' : chainL (List.drop (wideL l) l) ≤ (List.drop (wideL l) l).length := ih
      omega
    · omega

/-! ### bytes and runes -/
theorem dec_ascii (c : UInt8) (u : List UInt8) (hc : c.toNat < 128) : decodeL (c :: u) = (c.toNat, 1) := by
  rw [decodeL_N]
  unfold decodeN
  simp; omega
theorem dec_high (c : UInt8) (u : List UInt8) (hc : 128 ≤ c.toNat) : 128 ≤ (decodeL (c :: u)).1 := by
  rw [decodeL_N]
  have h0 : ((c :: u).getD 0 0).toNat = c.toNat := rfl
  rcases decodeN_shape (c :: u).length ((c :: u).getD 0 0).toNat ((c :: u).getD 1 0).toNat ((c :: u).getD 2 0).toNat ((c :: u).getD 3 0).toNat with ⟨c1, e⟩ | ⟨c1, c2, c3, cv, e⟩ | ⟨c1, c2, c3, c4, cv, cs, e⟩ | ⟨c1, c2, c3, c4, c5, cv, cw, e⟩ | e
  · omega
  all_goals (rw [e]; dsimp only; omega)
/-- The bytes of a piece behind its first one are no ASCII. -/
theorem tail_high (l : List UInt8) (i : Nat) (h1 : 1 ≤ i) (hi : i < wideL l) : 128 ≤ (l.getD i 0).toNat := by
  unfold wideL at hi
  rw [decodeL_N] at hi
  rcases decodeN_shape l.length (l.getD 0 0).toNat (l.getD 1 0).toNat (l.getD 2 0).toNat (l.getD 3 0).toNat with ⟨c1, e⟩ | ⟨c1, c2, c3, cv, e⟩ | ⟨c1, c2, c3, c4, cv, cs, e⟩ | ⟨c1, c2, c3, c4, c5, cv, cw, e⟩ | e
  all_goals (rw [e] at hi; dsimp only at hi)
  · omega
  · obtain rfl : i = 1 := by omega
    omega
  · rcases (by omega : i = 1 ∨ i = 2) with rfl | rfl <;> omega
  · rcases (by omega : i = 1 ∨ i = 2 ∨ i = 3) with rfl | rfl | rfl <;> omega
  · omega

/-! ### where pieces end -/
inductive Bd : List UInt8 → Nat → Prop where
  | zero (l : List UInt8) : Bd l 0
  | step (l : List UInt8) (n : Nat) : l ≠ [] → Bd (l.drop (wideL l)) n → Bd l (wideL l + n)
theorem Bd.ge {l : List UInt8} {n : Nat} (h : Bd l n) (hn : 0 < n) : l ≠ [] ∧ wideL l ≤ n ∧ Bd (l.drop (wideL l)) (n - wideL l) := by
  cases h with
  | zero => omega
  | step _ n hne h => exact ⟨hne, by omega, by rwa [Nat.add_sub_cancel_left]⟩
theorem Bd.le {l : List UInt8} {n : Nat} (h : Bd l n) : n ≤ l.length := by
  induction h with
  | zero => exact Nat.zero_le _
  | step l n hne _ ih => rw [List.length_drop] at ih; have := wide_le hne; omega
theorem bd_chain (l : List UInt8) : Bd l (chainL l) := by
  induction l using sufs_induct with
  | h0 => exact .zero _
  | h1 l hne ih =>
    rw [chainL_step l hne]
    split
    · exact .step _ _ hne ih
    · exact .zero _
/-- An ASCII byte stands at a piece's beginning, and the piece ends behind it. -/
theorem bd_ascii (l : List UInt8) : ∀ i, i < l.length → (l.getD i 0).toNat < 128 → Bd l i ∧ Bd l (i + 1) := by
  induction l using sufs_induct with
  | h0 => intro i h; simp at h
  | h1 l hne ih =>
    intro i hi hc
    have hw := wide_pos l
    by_cases h0 : i = 0
    · subst h0
      refine ⟨.zero _, ?_⟩
      have e : wideL l = 1 := by
        cases l with
        | nil => exact absurd rfl hne
        | cons c u => unfold wideL; rw [dec_ascii c u hc]
      have := Bd.step l 0 hne (.zero _)
      rw [e] at this; exact this
    · have hge : wideL l ≤ i := by
        refine Classical.byContradiction fun hlt => ?_
        have := tail_high l i (by omega) (by omega)
        omega
      have hd : (List.drop (wideL l) l).getD (i - wideL l) 0 = l.getD i 0 := by
        simp only [List.getD, List.getElem?_drop]; rw [Nat.add_sub_cancel' hge]
      obtain ⟨a, b⟩ := ih (i - wideL l) (by have := List.length_drop (l := l) (i := (decodeL l).2); unfold wideL at hge ⊢; omega) (by rw [show (decodeL l).2 = wideL l from rfl, hd]; exact hc)
      have a' := Bd.step l _ hne a
      have b' := Bd.step l _ hne b
      rw [Nat.add_sub_cancel' hge] at a'
      rw [show wideL l + (i - wideL l + 1) = i + 1 by omega] at b'
      exact ⟨a', b'⟩

/-! ### digits -/
def digB (c : UInt8) : Bool := decide (48 ≤ c.toNat ∧ c.toNat ≤ 57)
def digitsL (l : List UInt8) : Nat := (l.takeWhile digB).length
theorem digitsL_le (l : List UInt8) : digitsL l ≤ l.length := by unfold digitsL; exact (List.takeWhile_sublist _).length_le
theorem kind_two (l : List UInt8) (hne : l ≠ []) : kindZ (rune l) = 2 ↔ digB (l.getD 0 0) = true := by
  cases l with
  | nil => exact absurd rfl hne
  | cons c u =>
    show kindZ ((decodeL (c :: u)).1 : Int) = 2 ↔ digB c = true
    unfold digB kindZ
    by_cases hc : c.toNat < 128
    · rw [dec_ascii c u hc]
      simp only [decide_eq_true_eq]
      repeat' split
      all_goals omega
    · have := dec_high c u (by omega)
      simp only [decide_eq_true_eq]
      repeat' split
      all_goals omega
theorem digit_wide (l : List UInt8) (hne : l ≠ []) (h : digB (l.getD 0 0) = true) : wideL l = 1 := by
  cases l with
  | nil => exact absurd rfl hne
  | cons c u =>
    have : 48 ≤ c.toNat ∧ c.toNat ≤ 57 := of_decide_eq_true h
    unfold wideL; rw [dec_ascii c u (by omega)]
theorem digitsL_step (l : List UInt8) (hne : l ≠ []) : digitsL l = if kindZ (rune l) = 2 then 1 + digitsL (l.drop 1) else 0 := by
  cases l with
  | nil => exact absurd rfl hne
  | cons c u =>
    have k2 := kind_two (c :: u) hne
    have hd : (c :: u).getD 0 0 = c := rfl
    rw [hd] at k2
    unfold digitsL
    rw [List.takeWhile_cons]
    by_cases h : digB c = true
    · rw [if_pos h, if_pos (k2.2 h), List.length_cons]; simp [Nat.add_comm]
    · rw [if_neg h, if_neg (fun e => h (k2.1 e))]; rfl
/-- The number that digits are. -/
def valGo (a : Nat) (l : List UInt8) : Nat := l.foldl (fun a c => a * 10 + (c.toNat - 48)) a
def valL (l : List UInt8) : Nat := valGo 0 l
def secsL (l : List UInt8) : Nat := if l = [115] then 1 else if l = [109] then 60 else if l = [104] then 3600 else 0
/-- A token: its kind, its text, how many bytes it has. -/
abbrev Tk := Nat × List UInt8 × Nat
/-- A chain that begins with a digit. -/
def numL (s : List UInt8) : Option Tk :=
  if 13 < digitsL s ∨ 1000000000000 < valL (s.take (digitsL s)) then none
  else if digitsL s = s.length then some (2, decDigits (valL (s.take (digitsL s))), s.length)
  else if secsL (s.drop (digitsL s)) = 0 ∨ 1000000000 < valL (s.take (digitsL s)) * secsL (s.drop (digitsL s)) then none
  else some (4, decDigits (valL (s.take (digitsL s)) * secsL (s.drop (digitsL s))), s.length)

/-! ### a text in quotation marks: where it ends -/
def closeGo (i : Nat) (esc : Bool) : List UInt8 → Nat
  | [] => 0
  | c :: u => if esc = true then closeGo (i + 1) false u else if c.toNat = 92 then closeGo (i + 1) true u else if c.toNat = 34 ∧ 0 < i then i + 1 else closeGo (i + 1) false u
def closeL (l : List UInt8) : Nat := closeGo 0 false l

def signs : List (List UInt8) := [[43], [45], [42], [47], [37], [40], [41], [123], [125], [91], [93], [44], [61], [61, 61], [33, 61], [60], [60, 61], [62], [62, 61], [61, 126], [33, 126]]
def signB (l : List UInt8) : Bool := signs.contains l
def signL (l : List UInt8) : Option Tk :=
  if 2 ≤ l.length ∧ signB (l.take 2) = true then some (5, l.take 2, 2)
  else if 1 ≤ l.length ∧ signB (l.take 1) = true then some (5, l.take 1, 1)
  else none

/-- The token with which a text begins. -/
def firstL (l : List UInt8) : Option Tk :=
  if kindZ (rune l) = 1 then (if nameB (l.take (chainL l)) = true then some (1, l.take (chainL l), chainL l) else none)
  else if kindZ (rune l) = 2 then numL (l.take (chainL l))
  else if rune l = 34 then (match unquoteL (l.take (closeL l)) with | some t => some (3, t, closeL l) | none => none)
  else signL l

/-- A word of a text: its kind, where it begins, its text. -/
abbrev Wd := Nat × Nat × List UInt8
def lexGo : Nat → Nat → List UInt8 → Option (List Wd)
  | 0, _, _ => some []
  | f + 1, at', l => if l = [] then some [] else if kindZ (rune l) = 3 then lexGo f (at' + 1) (l.drop 1)
    else match firstL l with
      | none => none
      | some t => (lexGo f (at' + t.2.2) (l.drop t.2.2)).map ((t.1, at', t.2.1) :: ·)
def lexL (l : List UInt8) : Option (List Wd) := lexGo l.length 0 l
end Go.Proofs.YtphkodkenkiecaaGreatDoor
