import Derived.Test.YtddglepimbfdkaaGreatDoorNb
import Derived.Lib.ItoaNum
import Derived.Lib.Atoi
section
/- Plain: the words of a text (lex), as lists of bytes. No program in it. -/



namespace Go.Proofs.YtddglepimbfdkaaGreatDoor
open Go.Lib

/-- A letter or a digit. -/
def wordy (t : List UInt8) : Bool := decide (kindZ (rune t) = 1 ∨ kindZ (rune t) = 2)
def wideL (t : List UInt8) : Nat := (decodeL t).2
/-- How many bytes of letters and digits there are first. -/
def chainL (l : List UInt8) : Nat := (((sufs l).takeWhile wordy).map wideL).sum
theorem chainL_nil : chainL [] = 0 := rfl
theorem chainL_step (l : List UInt8) (hne : l ≠ []) : chainL l = if wordy l = true then wideL l + chainL (l.drop (wideL l)) else 0 := by
  unfold chainL
  rw [sufs_step l hne, List.takeWhile_cons]
  split
  · rw [List.map_cons, List.sum_cons]; rfl
  · rfl
theorem wide_pos (l : List UInt8) : 1 ≤ wideL l := decodeL_width l
theorem wide_le {l : List UInt8} (hne : l ≠ []) : wideL l ≤ l.length := decodeL_le l hne
theorem chainL_le (l : List UInt8) : chainL l ≤ l.length := by
  induction l using sufs_induct with
  | h0 => exact Nat.le_refl _
  | h1 l hne ih =>
    rw [chainL_step l hne]
    have := wide_le hne
    split
    · have e : (List.drop (wideL l) l).length = l.length - wideL l := List.length_drop ..
      have ih' : chainL (List.drop (wideL l) l) ≤ (List.drop (wideL l) l).length := ih
      omega
    · omega

/-! ### bytes and runes -/
theorem dec_ascii (c : UInt8) (u : List UInt8) (hc : c.toNat < 128) : decodeL (c :: u) = (c.toNat, 1) := by
  rw [decodeL_N]
  unfold decodeN
  simp; omega
theorem dec_high (c : UInt8) (u : List UInt8) (hc : 128 ≤ c.toNat) : 128 ≤ (decodeL (c :: u)).1 := by
  rw [decodeL_N]
  have h0 : ((c :: u).getD 0 0).toNat = c.toNat := rfl
  rcases decodeN_shape (c :: u).length ((c :: u).getD 0 0).toNat ((c :: u).getD 1 0).toNat ((c :: u).getD 2 0).toNat ((c :: u).getD 3 0).toNat with ⟨c1, e⟩ | ⟨c1, c2, c3, cv, e⟩ | ⟨c1, c2, c3, c4, cv, cs, e⟩ | ⟨c1, c2, c3, c4, c5, cv, cw, e⟩ | e
  · omega
  all_goals (rw [e]; dsimp only; omega)
/-- The bytes of a piece behind its first one are no ASCII. -/
theorem tail_high (l : List UInt8) (i : Nat) (h1 : 1 ≤ i) (hi : i < wideL l) : 128 ≤ (l.getD i 0).toNat := by
  unfold wideL at hi
  rw [decodeL_N] at hi
  rcases decodeN_shape l.length (l.getD 0 0).toNat (l.getD 1 0).toNat (l.getD 2 0).toNat (l.getD 3 0).toNat with ⟨c1, e⟩ | ⟨c1, c2, c3, cv, e⟩ | ⟨c1, c2, c3, c4, cv, cs, e⟩ | ⟨c1, c2, c3, c4, c5, cv, cw, e⟩ | e
  all_goals (rw [e] at hi; dsimp only at hi)
  · omega
  · obtain rfl : i = 1 := by omega
    omega
  · rcases (by omega : i = 1 ∨ i = 2) with rfl | rfl <;> omega
  · rcases (by omega : i = 1 ∨ i = 2 ∨ i = 3) with rfl | rfl | rfl <;> omega
  · omega

/-! ### where pieces end -/
inductive Bd : List UInt8 → Nat → Prop where
  | zero (l : List UInt8) : Bd l 0
  | step (l : List UInt8) (n : Nat) : l ≠ [] → Bd (l.drop (wideL l)) n → Bd l (wideL l + n)
theorem Bd.ge {l : List UInt8} {n : Nat} (h : Bd l n) (hn : 0 < n) : l ≠ [] ∧ wideL l ≤ n ∧ Bd (l.drop (wideL l)) (n - wideL l) := by
  cases h with
  | zero => omega
  | step _ n hne h => exact ⟨hne, by omega, by rwa [Nat.add_sub_cancel_left]⟩
theorem Bd.le {l : List UInt8} {n : Nat} (h : Bd l n) : n ≤ l.length := by
  induction h with
  | zero => exact Nat.zero_le _
  | step l n hne _ ih => rw [List.length_drop] at ih; have := wide_le hne; omega
theorem bd_chain (l : List UInt8) : Bd l (chainL l) := by
  induction l using sufs_induct with
  | h0 => exact .zero _
  | h1 l hne ih =>
    rw [chainL_step l hne]
    split
    · exact .step _ _ hne ih
    · exact .zero _
/-- An ASCII byte stands at a piece's beginning, and the piece ends behind it. -/
theorem bd_ascii (l : List UInt8) : ∀ i, i < l.length → (l.getD i 0).toNat < 128 → Bd l i ∧ Bd l (i + 1) := by
  induction l using sufs_induct with
  | h0 => intro i h; simp at h
  | h1 l hne ih =>
    intro i hi hc
    have hw := wide_pos l
    by_cases h0 : i = 0
    · subst h0
      refine ⟨.zero _, ?_⟩
      have e : wideL l = 1 := by
        cases l with
        | nil => exact absurd rfl hne
        | cons c u => unfold wideL; rw [dec_ascii c u hc]
      have := Bd.step l 0 hne (.zero _)
      rw [e] at this; exact this
    · have hge : wideL l ≤ i := by
        refine Classical.byContradiction fun hlt => ?_
        have := tail_high l i (by omega) (by omega)
        omega
      have hd : (List.drop (wideL l) l).getD (i - wideL l) 0 = l.getD i 0 := by
        simp only [List.getD, List.getElem?_drop]; rw [Nat.add_sub_cancel' hge]
      obtain ⟨a, b⟩ := ih (i - wideL l) (by have := List.length_drop (l := l) (i := (decodeL l).2); unfold wideL at hge ⊢; omega) (by rw [show (decodeL l).2 = wideL l from rfl, hd]; exact hc)
      have a' := Bd.step l _ hne a
      have b' := Bd.step l _ hne b
      rw [Nat.add_sub_cancel' hge] at a'
      rw [show wideL l + (i - wideL l + 1) = i + 1 by omega] at b'
      exact ⟨a', b'⟩

/-! ### digits -/
def digB (c : UInt8) : Bool := decide (48 ≤ c.toNat ∧ c.toNat ≤ 57)
def digitsL (l : List UInt8) : Nat := (l.takeWhile digB).length
theorem digitsL_le (l : List UInt8) : digitsL l ≤ l.length := by unfold digitsL; exact (List.takeWhile_sublist _).length_le
theorem kind_two (l : List UInt8) (hne : l ≠ []) : kindZ (rune l) = 2 ↔ digB (l.getD 0 0) = true := by
  cases l with
  | nil => exact absurd rfl hne
  | cons c u =>
    show kindZ ((decodeL (c :: u)).1 : Int) = 2 ↔ digB c = true
    unfold digB kindZ
    by_cases hc : c.toNat < 128
    · rw [dec_ascii c u hc]
      simp only [decide_eq_true_eq]
      repeat' split
      all_goals omega
    · have := dec_high c u (by omega)
      simp only [decide_eq_true_eq]
      repeat' split
      all_goals omega
theorem digit_wide (l : List UInt8) (hne : l ≠ []) (h : digB (l.getD 0 0) = true) : wideL l = 1 := by
  cases l with
  | nil => exact absurd rfl hne
  | cons c u =>
    have : 48 ≤ c.toNat ∧ c.toNat ≤ 57 := of_decide_eq_true h
    unfold wideL; rw [dec_ascii c u (by omega)]
theorem digitsL_step (l : List UInt8) (hne : l ≠ []) : digitsL l = if kindZ (rune l) = 2 then 1 + digitsL (l.drop 1) else 0 := by
  cases l with
  | nil => exact absurd rfl hne
  | cons c u =>
    have k2 := kind_two (c :: u) hne
    have hd : (c :: u).getD 0 0 = c := rfl
    rw [hd] at k2
    unfold digitsL
    rw [List.takeWhile_cons]
    by_cases h : digB c = true
    · rw [if_pos h, if_pos (k2.2 h), List.length_cons]; simp [Nat.add_comm]
    · rw [if_neg h, if_neg (fun e => h (k2.1 e))]; rfl
/-- The number that digits are. -/
def valGo (a : Nat) (l : List UInt8) : Nat := l.foldl (fun a c => a * 10 + (c.toNat - 48)) a
def valL (l : List UInt8) : Nat := valGo 0 l
def secsL (l : List UInt8) : Nat := if l = [115] then 1 else if l = [109] then 60 else if l = [104] then 3600 else 0
/-- A token: its kind, its text, how many bytes it has. -/
abbrev Tk := Nat × List UInt8 × Nat
/-- A chain that begins with a digit. -/
def numL (s : List UInt8) : Option Tk :=
  if 13 < digitsL s ∨ 1000000000000 < valL (s.take (digitsL s)) then none
  else if digitsL s = s.length then some (2, decDigits (valL (s.take (digitsL s))), s.length)
  else if secsL (s.drop (digitsL s)) = 0 ∨ 1000000000 < valL (s.take (digitsL s)) * secsL (s.drop (digitsL s)) then none
  else some (4, decDigits (valL (s.take (digitsL s)) * secsL (s.drop (digitsL s))), s.length)

/-! ### a text in quotation marks: where it ends -/
def closeGo (i : Nat) (esc : Bool) : List UInt8 → Nat
  | [] => 0
  | c :: u => if esc = true then closeGo (i + 1) false u else if c.toNat = 92 then closeGo (i + 1) true u else if c.toNat = 34 ∧ 0 < i then i + 1 else closeGo (i + 1) false u
def closeL (l : List UInt8) : Nat := closeGo 0 false l

def signs : List (List UInt8) := [[43], [45], [42], [47], [37], [40], [41], [123], [125], [91], [93], [44], [61], [61, 61], [33, 61], [60], [60, 61], [62], [62, 61], [61, 126], [33, 126]]
def signB (l : List UInt8) : Bool := signs.contains l
def signL (l : List UInt8) : Option Tk :=
  if 2 ≤ l.length ∧ signB (l.take 2) = true then some (5, l.take 2, 2)
  else if 1 ≤ l.length ∧ signB (l.take 1) = true then some (5, l.take 1, 1)
  else none

/-- The token with which a text begins. -/
def firstL (l : List UInt8) : Option Tk :=
  if kindZ (rune l) = 1 then (if nameB (l.take (chainL l)) = true then some (1, l.take (chainL l), chainL l) else none)
  else if kindZ (rune l) = 2 then numL (l.take (chainL l))
  else if rune l = 34 then (match unquoteL (l.take (closeL l)) with | some t => some (3, t, closeL l) | none => none)
  else signL l

/-- A word of a text: its kind, where it begins, its text. -/
abbrev Wd := Nat × Nat × List UInt8
def lexGo : Nat → Nat → List UInt8 → Option (List Wd)
  | 0, _, _ => some []
  | f + 1, at', l => if l = [] then some [] else if kindZ (rune l) = 3 then lexGo f (at' + 1) (l.drop 1)
    else match firstL l with
      | none => none
      | some t => (lexGo f (at' + t.2.2) (l.drop t.2.2)).map ((t.1, at', t.2.1) :: ·)
def lexL (l : List UInt8) : Option (List Wd) := lexGo l.length 0 l
end Go.Proofs.YtddglepimbfdkaaGreatDoor
end

section
/- Plain: how the words of a text go on: fuel, blanks, what stands behind. -/

namespace Go.Proofs.YtddglepimbfdkaaGreatDoor
open Go.Lib

/-! ### where a token ends -/
theorem closeGo_bd : ∀ (l : List UInt8) (i : Nat) (esc : Bool), closeGo i esc l ≠ 0 → ∃ j, j < l.length ∧ (l.getD j 0).toNat = 34 ∧ closeGo i esc l = i + j + 1
  | [], i, esc, h => absurd rfl h
  | c :: u, i, esc, h => by
    have go : ∀ esc', closeGo (i + 1) esc' u ≠ 0 → ∃ j, j < (c :: u).length ∧ ((c :: u).getD j 0).toNat = 34 ∧ closeGo (i + 1) esc' u = i + j + 1 := by
      intro esc' h'
      obtain ⟨j, h1, h2, h3⟩ := closeGo_bd u (i + 1) esc' h'
      exact ⟨j + 1, by simp; omega, by simpa using h2, by omega⟩
    unfold closeGo at h ⊢
    split
    · rw [if_pos ‹_›] at h; exact go _ h
    · rw [if_neg ‹_›] at h
      split
      · rw [if_pos ‹_›] at h; exact go _ h
      · rw [if_neg ‹_›] at h
        split
        · exact ⟨0, by simp, by simp; omega, rfl⟩
        · rw [if_neg ‹_›] at h; exact go _ h
theorem close_bd {l : List UInt8} (h : closeL l ≠ 0) : Bd l (closeL l) ∧ closeL l ≤ l.length ∧ 1 ≤ closeL l := by
  obtain ⟨j, h1, h2, h3⟩ := closeGo_bd l 0 false h
  have e : closeL l = j + 1 := by unfold closeL; omega
  rw [e]
  exact ⟨(bd_ascii l j h1 (by omega)).2, by omega, by omega⟩
theorem unquote_nil : unquoteL [] = none := by
  cases h : unquoteL [] with
  | none => rfl
  | some t => have := unquoteL_some h; unfold quoteL at this; cases this
theorem sign_ascii : ∀ t ∈ signs, ∀ c ∈ t, c.toNat < 128 := by decide
theorem sign_le : ∀ t ∈ signs, 1 ≤ t.length ∧ t.length ≤ 2 := by decide
theorem signB_mem {l : List UInt8} (h : signB l = true) : l ∈ signs := by unfold signB at h; exact List.contains_iff_mem.1 h
theorem num_len {s : List UInt8} {t : Tk} (h : numL s = some t) : t.2.2 = s.length := by
  unfold numL at h
  repeat' split at h
  all_goals first | cases h; rfl | cases h
theorem chain_pos {l : List UInt8} (hne : l ≠ []) (hk : kindZ (rune l) = 1 ∨ kindZ (rune l) = 2) : 1 ≤ chainL l := by
  rw [chainL_step l hne, if_pos (by unfold wordy; simp [hk])]
  have := wide_pos l; omega
theorem first_len {l : List UInt8} {t : Tk} (hne : l ≠ []) (h : firstL l = some t) : 1 ≤ t.2.2 ∧ t.2.2 ≤ l.length ∧ Bd l t.2.2 := by
  unfold firstL at h
  split at h
  · split at h
    · cases h
      exact ⟨chain_pos hne (.inl ‹_›), chainL_le l, bd_chain l⟩
    · cases h
  · split at h
    · have e := num_len h
      have hc := chainL_le l
      rw [List.length_take, Nat.min_eq_left hc] at e
      rw [e]
      exact ⟨chain_pos hne (.inr ‹_›), hc, bd_chain l⟩
    · split at h
      · split at h
        · cases h
          have h0 : closeL l ≠ 0 := by
            intro h0; rename_i hu; rw [h0, List.take_zero, unquote_nil] at hu; cases hu
          obtain ⟨a, b, c⟩ := close_bd h0
          exact ⟨c, b, a⟩
        · cases h
      · unfold signL at h
        split at h
        · rename_i hs
          cases h
          have h1 := sign_ascii _ (signB_mem hs.2)
          refine ⟨(by decide : (1 : Nat) ≤ 2), hs.1, (bd_ascii l 1 (by omega) ?_).2⟩
          have : l.getD 1 0 ∈ l.take 2 := by
            have hl := hs.1
            match l, hl with
            | a :: b :: u, _ => simp
          exact h1 _ this
        · split at h
          · rename_i hs
            cases h
            have h1 := sign_ascii _ (signB_mem hs.2)
            refine ⟨(by decide : (1 : Nat) ≤ 1), hs.1, (bd_ascii l 0 (by omega) ?_).2⟩
            have : l.getD 0 0 ∈ l.take 1 := by
              have hl := hs.1
              match l, hl with
              | a :: u, _ => simp
            exact h1 _ this
          · cases h

/-! ### the words, step by step -/
theorem lexGo_nil (f a : Nat) : lexGo f a [] = some [] := by cases f <;> simp [lexGo]
theorem lexGo_fuel : ∀ (f g a : Nat) (l : List UInt8), l.length ≤ f → l.length ≤ g → lexGo f a l = lexGo g a l
  | 0, g, a, l, hf, _ => by
    have : l = [] := List.eq_nil_of_length_eq_zero (by omega)
    subst this; rw [lexGo_nil, lexGo_nil]
  | f + 1, 0, a, l, _, hg => by
    have : l = [] := List.eq_nil_of_length_eq_zero (by omega)
    subst this; rw [lexGo_nil, lexGo_nil]
  | f + 1, g + 1, a, l, hf, hg => by
    by_cases hne : l = []
    · subst hne; rw [lexGo_nil, lexGo_nil]
    · have hl : 0 < l.length := List.length_pos_iff.2 hne
      rw [lexGo, lexGo, if_neg hne, if_neg hne]
      split
      · exact lexGo_fuel f g _ _ (by rw [List.length_drop]; omega) (by rw [List.length_drop]; omega)
      · cases hf1 : firstL l with
        | none => rfl
        | some t =>
          have := first_len hne hf1
          show Option.map _ (lexGo f _ _) = Option.map _ (lexGo g _ _)
          rw [lexGo_fuel f g _ _ (by rw [List.length_drop]; omega) (by rw [List.length_drop]; omega)]
/-- The words of a text that stands at a place. -/
def lexAt (a : Nat) (l : List UInt8) : Option (List Wd) := lexGo l.length a l
theorem lexL_at (l : List UInt8) : lexL l = lexAt 0 l := rfl
theorem lexAt_nil (a : Nat) : lexAt a [] = some [] := rfl
theorem lexAt_blank (a : Nat) {l : List UInt8} (hne : l ≠ []) (h : kindZ (rune l) = 3) : lexAt a l = lexAt (a + 1) (l.drop 1) := by
  have hl : 0 < l.length := List.length_pos_iff.2 hne
  obtain ⟨n, hn⟩ : ∃ n, l.length = n + 1 := ⟨l.length - 1, by omega⟩
  unfold lexAt
  rw [hn, lexGo, if_neg hne, if_pos h]
  exact lexGo_fuel _ _ _ _ (by rw [List.length_drop]; omega) (Nat.le_refl _)
theorem lexAt_tok (a : Nat) {l : List UInt8} (hne : l ≠ []) (h : kindZ (rune l) ≠ 3) {t : Tk} (hf : firstL l = some t) : lexAt a l = (lexAt (a + t.2.2) (l.drop t.2.2)).map ((t.1, a, t.2.1) :: ·) := by
  have hl : 0 < l.length := List.length_pos_iff.2 hne
  obtain ⟨n, hn⟩ : ∃ n, l.length = n + 1 := ⟨l.length - 1, by omega⟩
  have := first_len hne hf
  unfold lexAt
  rw [hn, lexGo, if_neg hne, if_neg h, hf]
  show Option.map _ (lexGo n _ _) = _
  rw [lexGo_fuel n _ _ _ (by rw [List.length_drop]; omega) (Nat.le_refl _)]
theorem lexAt_none (a : Nat) {l : List UInt8} (hne : l ≠ []) (h : kindZ (rune l) ≠ 3) (hf : firstL l = none) : lexAt a l = none := by
  have hl : 0 < l.length := List.length_pos_iff.2 hne
  obtain ⟨n, hn⟩ : ∃ n, l.length = n + 1 := ⟨l.length - 1, by omega⟩
  unfold lexAt
  rw [hn, lexGo, if_neg hne, if_neg h, hf]
/-- Induction over what is left. -/
theorem lex_induct {P : List UInt8 → Prop} (h0 : P []) (h1 : ∀ l, l ≠ [] → (∀ m, m.length < l.length → P m) → P l) : ∀ l, P l := by
  have : ∀ n (l : List UInt8), l.length ≤ n → P l := by
    intro n
    induction n with
    | zero => intro l h; have : l = [] := List.eq_nil_of_length_eq_zero (by omega); subst this; exact h0
    | succ n ih =>
      intro l h
      by_cases hne : l = []
      · subst hne; exact h0
      · exact h1 l hne fun m hm => ih m (by omega)
  exact fun l => this l.length l (Nat.le_refl _)
def shiftW (d : Nat) (w : Wd) : Wd := (w.1, w.2.1 + d, w.2.2)
theorem lexAt_shift (l : List UInt8) : ∀ a d, lexAt (a + d) l = (lexAt a l).map (·.map (shiftW d)) := by
  induction l using lex_induct with
  | h0 => intro a d; rfl
  | h1 l hne ih =>
    intro a d
    have hl : 0 < l.length := List.length_pos_iff.2 hne
    by_cases hk : kindZ (rune l) = 3
    · rw [lexAt_blank _ hne hk, lexAt_blank _ hne hk, ← ih _ (by rw [List.length_drop]; omega)]
      congr 1; omega
    · cases hf : firstL l with
      | none => rw [lexAt_none _ hne hk hf, lexAt_none _ hne hk hf]; rfl
      | some t =>
        have hb := first_len hne hf
        rw [lexAt_tok _ hne hk hf, lexAt_tok _ hne hk hf, show a + d + t.2.2 = a + t.2.2 + d by omega, ih _ (by rw [List.length_drop]; omega)]
        cases lexAt (a + t.2.2) (l.drop t.2.2) <;> rfl
def blankB (c : UInt8) : Bool := decide (c.toNat = 32 ∨ c.toNat = 9 ∨ c.toNat = 10)
theorem blank_kind (c : UInt8) (u : List UInt8) (h : blankB c = true) : kindZ (rune (c :: u)) = 3 ∧ c.toNat < 128 := by
  have : c.toNat = 32 ∨ c.toNat = 9 ∨ c.toNat = 10 := of_decide_eq_true h
  refine ⟨?_, by omega⟩
  unfold rune; rw [dec_ascii c u (by omega)]
  unfold kindZ
  rcases this with e | e | e <;> rw [e] <;> decide
/-- Blanks ahead are nothing. -/
theorem lexAt_gap : ∀ (g : List UInt8) (a : Nat) (l : List UInt8), (∀ c ∈ g, blankB c = true) → lexAt a (g ++ l) = lexAt (a + g.length) l
  | [], a, l, _ => rfl
  | c :: g, a, l, h => by
    rw [List.cons_append, lexAt_blank a (by simp) (blank_kind c _ (h c (by simp))).1, List.drop_one, List.tail_cons, lexAt_gap g _ l fun c hc => h c (by simp [hc])]
    rw [List.length_cons]; congr 1; omega
end Go.Proofs.YtddglepimbfdkaaGreatDoor
end

section
/- Plain: words with a blank behind them; texts in quotation marks. -/

namespace Go.Proofs.YtddglepimbfdkaaGreatDoor
open Go.Lib

/-- A character below 128 ends what stands ahead of it. -/
theorem ends_ascii (l : List UInt8) (hne : l ≠ []) (c : UInt8) (hc : c.toNat < 128) (u : List UInt8) : (decodeL (l ++ c :: u)).2 ≤ l.length := by
  have hl : 0 < l.length := List.length_pos_iff.2 hne
  have g : (l ++ c :: u).getD l.length 0 = c := by simp [List.getD]
  rw [decodeL_N]
  rcases decodeN_shape (l ++ c :: u).length ((l ++ c :: u).getD 0 0).toNat ((l ++ c :: u).getD 1 0).toNat ((l ++ c :: u).getD 2 0).toNat ((l ++ c :: u).getD 3 0).toNat with ⟨_, e⟩ | ⟨_, _, c3, _, e⟩ | ⟨_, _, c3, c4, _, _, e⟩ | ⟨_, _, c3, c4, c5, _, _, e⟩ | e
  all_goals rw [e]
  all_goals dsimp only
  · omega
  · by_cases h1 : l.length = 1
    · rw [h1] at g; rw [g] at c3; omega
    · omega
  · by_cases h1 : l.length = 1
    · rw [h1] at g; rw [g] at c3; omega
    · by_cases h2 : l.length = 2
      · rw [h2] at g; rw [g] at c4; omega
      · omega
  · by_cases h1 : l.length = 1
    · rw [h1] at g; rw [g] at c3; omega
    · by_cases h2 : l.length = 2
      · rw [h2] at g; rw [g] at c4; omega
      · by_cases h3 : l.length = 3
        · rw [h3] at g; rw [g] at c5; omega
        · omega
  · omega
theorem dec_app (l : List UInt8) (hne : l ≠ []) (c : UInt8) (hc : c.toNat < 128) (u : List UInt8) : decodeL (l ++ c :: u) = decodeL l := by
  have := decodeL_take (l ++ c :: u) l.length (by simp) (ends_ascii l hne c hc u)
  rw [List.take_left] at this
  exact this.symm
theorem chain_app (c : UInt8) (hb : blankB c = true) (u : List UInt8) (l : List UInt8) : chainL (l ++ c :: u) = chainL l := by
  have hk := blank_kind c u hb
  induction l using sufs_induct with
  | h0 =>
    rw [List.nil_append, chainL_step _ (by simp), if_neg (by unfold wordy; rw [hk.1]; decide)]; rfl
  | h1 l hne ih =>
    have hd := dec_app l hne c hk.2 u
    have hw := wide_le hne
    have e1 : wideL (l ++ c :: u) = wideL l := by unfold wideL; rw [hd]
    have e2 : wordy (l ++ c :: u) = wordy l := by unfold wordy rune; rw [hd]
    rw [chainL_step _ (by simp), chainL_step l hne, e1, e2, List.drop_append_of_le_length hw]
    rw [show wideL l = (decodeL l).2 from rfl, ih]
theorem closeGo_app : ∀ (l u : List UInt8) (i : Nat) (esc : Bool), closeGo i esc l ≠ 0 → closeGo i esc (l ++ u) = closeGo i esc l
  | [], u, i, esc, h => absurd rfl h
  | c :: l, u, i, esc, h => by
    rw [List.cons_append]
    unfold closeGo at h ⊢
    split
    · rw [if_pos ‹_›] at h; exact closeGo_app l u _ _ h
    · rw [if_neg ‹_›] at h
      split
      · rw [if_pos ‹_›] at h; exact closeGo_app l u _ _ h
      · rw [if_neg ‹_›] at h
        split
        · rfl
        · rw [if_neg ‹_›] at h; exact closeGo_app l u _ _ h
theorem sign_blank (x c : UInt8) (hb : blankB c = true) : signB [x, c] = false := by
  refine Bool.eq_false_iff.2 fun h => ?_
  have hm := signB_mem h
  have : ∀ t ∈ signs, ∀ y ∈ t, blankB y = false := by decide
  have := this _ hm c (by simp)
  rw [this] at hb; cases hb
/-- A token stays what it is with a blank behind it. -/
theorem first_app {l : List UInt8} {t : Tk} (hne : l ≠ []) (h : firstL l = some t) (c : UInt8) (hb : blankB c = true) (u : List UInt8) : firstL (l ++ c :: u) = some t := by
  have hk := blank_kind c u hb
  have hr : rune (l ++ c :: u) = rune l := by unfold rune; rw [dec_app l hne c hk.2 u]
  have hl := chainL_le l
  rw [← h]
  unfold firstL at h ⊢
  rw [hr, chain_app c hb u, List.take_append_of_le_length hl]
  split
  · rfl
  · rw [if_neg ‹_›] at h
    split
    · rfl
    · rw [if_neg ‹_›] at h
      split
      · rw [if_pos ‹_›] at h
        have h0 : closeL l ≠ 0 := by
          intro h0; rw [h0, List.take_zero, unquote_nil] at h; cases h
        have e : closeL (l ++ c :: u) = closeL l := closeGo_app l _ 0 false h0
        rw [e, List.take_append_of_le_length (close_bd h0).2.1]
      · unfold signL
        match l, hne with
        | [x], _ => 
          rw [if_neg (fun hh => by have := hh.2; rw [show List.take 2 ([x] ++ c :: u) = [x, c] from rfl, sign_blank x c hb] at this; cases this)]
          rw [if_neg (fun hh : 2 ≤ [x].length ∧ _ => by simp at hh)]
          simp
        | x :: y :: l, _ => simp
/-- What stands behind a text and a blank goes on by itself. -/
theorem lexAt_app (c : UInt8) (hb : blankB c = true) (u : List UInt8) (l : List UInt8) : ∀ (a : Nat) (ws : List Wd), lexAt a l = some ws → lexAt a (l ++ c :: u) = (lexAt (a + l.length) (c :: u)).map (ws ++ ·) := by
  have hk := blank_kind c u hb
  induction l using lex_induct with
  | h0 =>
    intro a ws h
    obtain rfl : [] = ws := Option.some.inj h
    show lexAt a (c :: u) = Option.map _ (lexAt a (c :: u))
    cases lexAt a (c :: u) <;> simp
  | h1 l hne ih =>
    intro a ws h
    have hl : 0 < l.length := List.length_pos_iff.2 hne
    have hne2 : l ++ c :: u ≠ [] := by simp
    have hr : rune (l ++ c :: u) = rune l := by unfold rune; rw [dec_app l hne c hk.2 u]
    by_cases h3 : kindZ (rune l) = 3
    · rw [lexAt_blank a hne h3] at h
      rw [lexAt_blank a hne2 (by rw [hr]; exact h3), List.drop_append_of_le_length (by omega), ih _ (by rw [List.length_drop]; omega) _ _ h]
      rw [List.length_drop]; congr 2; omega
    · cases hf : firstL l with
      | none => rw [lexAt_none a hne h3 hf] at h; cases h
      | some t =>
        have hb1 := first_len hne hf
        rw [lexAt_tok a hne h3 hf] at h
        rw [lexAt_tok a hne2 (by rw [hr]; exact h3) (first_app hne hf c hb u), List.drop_append_of_le_length hb1.2.1]
        cases hx : lexAt (a + t.2.2) (l.drop t.2.2) with
        | none => rw [hx] at h; cases h
        | some vs =>
          rw [hx] at h
          rw [ih _ (by rw [List.length_drop]; omega) _ _ hx]
          obtain rfl := Option.some.inj h
          rw [List.length_drop, show a + t.2.2 + (l.length - t.2.2) = a + l.length by omega]
          cases lexAt (a + l.length) (c :: u) <;> rfl

/-! ### texts in quotation marks -/
theorem close_plain : ∀ (xs u : List UInt8) (i : Nat), (∀ x ∈ xs, x ≠ 34 ∧ x ≠ 92) → closeGo i false (xs ++ u) = closeGo (i + xs.length) false u
  | [], u, i, _ => rfl
  | x :: xs, u, i, h => by
    have hx := h x (by simp)
    have e1 : x.toNat ≠ 34 := fun e => hx.1 (UInt8.toNat_inj.1 e)
    have e2 : x.toNat ≠ 92 := fun e => hx.2 (UInt8.toNat_inj.1 e)
    rw [List.cons_append, closeGo, if_neg (by simp), if_neg e2, if_neg (fun h => e1 h.1), close_plain xs u _ fun y hy => h y (by simp [hy]), List.length_cons]
    congr 1; omega
theorem hexd_other : ∀ n, n < 16 → hexd n ≠ 34 ∧ hexd n ≠ 92 := by decide
theorem close_esc (i : Nat) (x : UInt8) (u : List UInt8) : closeGo i false (92 :: x :: u) = closeGo (i + 2) false u := by
  rw [closeGo, if_neg (by simp), if_pos (by decide), closeGo, if_pos rfl]
theorem close_chunk (t u : List UInt8) (hne : t ≠ []) (i : Nat) : closeGo i false (chunkQ t ++ u) = closeGo (i + (chunkQ t).length) false u := by
  rcases chunk_kinds t hne with ⟨_, e, _⟩ | ⟨_, e, _⟩ | ⟨_, e, _⟩ | ⟨_, _, e, _⟩ | ⟨⟨h1, h2, _⟩, _, e, _⟩
  · rw [e]; exact close_esc i _ u
  · rw [e]; exact close_esc i _ u
  · rw [e]; exact close_esc i _ u
  · rw [e]
    have g1 := hexd_other ((t.getD 0 0).toNat / 16) (by have := (t.getD 0 0).toNat_lt; omega)
    have g2 := hexd_other ((t.getD 0 0).toNat % 16) (by omega)
    show closeGo i false (92 :: 120 :: ([hexd _, hexd _] ++ u)) = _
    rw [close_esc, close_plain _ u _ (by intro x hx; simp at hx; rcases hx with rfl | rfl <;> assumption)]
    rfl
  · rw [e, close_plain _ u _ (encode_plain _ (by omega) (by omega))]
theorem close_body (s : List UInt8) : ∀ (u : List UInt8) (i : Nat), closeGo i false (bodyQ s ++ u) = closeGo (i + (bodyQ s).length) false u := by
  induction s using sufs_induct with
  | h0 => intro u i; rfl
  | h1 l hne ih =>
    intro u i
    rw [bodyQ_step l hne, List.append_assoc, close_chunk l _ hne, ih, List.length_append, Nat.add_assoc]
theorem quote_len (s : List UInt8) : (quoteL s).length = (bodyQ s).length + 2 := by unfold quoteL; simp
theorem close_quote (s u : List UInt8) : closeL (quoteL s ++ u) = (quoteL s).length := by
  rw [quote_len]
  show closeGo 0 false (34 :: (bodyQ s ++ [34] ++ u)) = _
  rw [closeGo, if_neg (by simp), if_neg (by decide), if_neg (by simp), List.append_assoc, close_body]
  show closeGo _ false (34 :: u) = _
  rw [closeGo, if_neg (by simp), if_neg (by decide), if_pos ⟨by decide, by omega⟩]
  omega
theorem rune_quote (u : List UInt8) : rune (34 :: u) = 34 := by unfold rune; rw [dec_ascii 34 u (by decide)]; rfl
theorem first_quote (s u : List UInt8) : firstL (quoteL s ++ u) = some (3, s, (quoteL s).length) := by
  have hr : rune (quoteL s ++ u) = 34 := rune_quote _
  unfold firstL
  rw [hr, if_neg (by decide), if_neg (by decide), if_pos rfl, close_quote, List.take_left, unquoteL_quote]
theorem lexAt_quote (a : Nat) (s u : List UInt8) : lexAt a (quoteL s ++ u) = (lexAt (a + (quoteL s).length) u).map ((3, a, s) :: ·) := by
  have hr : rune (quoteL s ++ u) = 34 := rune_quote _
  rw [lexAt_tok a (by unfold quoteL; simp) (by rw [hr]; decide) (first_quote s u)]
  show Option.map _ (lexAt (a + (quoteL s).length) ((quoteL s ++ u).drop (quoteL s).length)) = _
  rw [List.drop_left]
/-- LexStrings, plain. -/
theorem strings_one (s : List UInt8) : lexL (quoteL s) = some [(3, 0, s)] := by
  have := lexAt_quote 0 s []
  rw [List.append_nil] at this
  rw [lexL_at, this]; rfl
theorem strings_more (s more : List UInt8) : lexL (quoteL s ++ 32 :: more) = (lexL more).map fun ws => (3, 0, s) :: ws.map (shiftW ((quoteL s).length + 1)) := by
  rw [lexL_at, lexAt_quote, lexAt_blank _ (by simp) (blank_kind 32 _ (by decide)).1, List.drop_one, List.tail_cons, Nat.zero_add, lexL_at]
  have := lexAt_shift more 0 ((quoteL s).length + 1)
  rw [Nat.zero_add] at this
  rw [this]
  cases lexAt 0 more <;> rfl
/-- LexBlanks, plain. -/
theorem blanks_all (g s t : List UInt8) (hg : ∀ c ∈ g, blankB c = true) (hne : g ≠ []) (a b : List Wd) (ha : lexL s = some a) (hb : lexL t = some b) :
    lexL (g ++ s ++ g ++ t ++ g) = some (a.map (shiftW g.length) ++ b.map (shiftW (2 * g.length + s.length))) := by
  obtain ⟨c, v, rfl⟩ : ∃ c v, g = c :: v := by cases g with | nil => exact absurd rfl hne | cons c v => exact ⟨c, v, rfl⟩
  have hc := hg c (by simp)
  obtain ⟨n, hn⟩ : ∃ n, (c :: v).length = n := ⟨_, rfl⟩
  have hs : lexAt n s = some (a.map (shiftW n)) := by
    have := lexAt_shift s 0 n; rw [Nat.zero_add] at this; rw [this, ← lexL_at, ha]; rfl
  have ht : lexAt (2 * n + s.length) t = some (b.map (shiftW (2 * n + s.length))) := by
    have := lexAt_shift t 0 (2 * n + s.length); rw [Nat.zero_add] at this; rw [this, ← lexL_at, hb]; rfl
  rw [lexL_at, List.append_assoc, List.append_assoc, List.append_assoc, lexAt_gap _ _ _ hg, Nat.zero_add, hn]
  rw [List.cons_append, lexAt_app c hc _ s _ _ hs, ← List.cons_append, lexAt_gap _ _ _ hg, hn]
  rw [show n + s.length + n = 2 * n + s.length by omega, lexAt_app c hc v t _ _ ht]
  have e : lexAt (2 * n + s.length + t.length) (c :: v) = some [] := by
    have := lexAt_gap (c :: v) (2 * n + s.length + t.length) [] hg
    rw [List.append_nil] at this; rw [this]; rfl
  rw [e]; simp
end Go.Proofs.YtddglepimbfdkaaGreatDoor
end

section
/- Plain: numbers as digits; words that are joined and cut again. -/

namespace Go.Proofs.YtddglepimbfdkaaGreatDoor
open Go.Lib

/-! ### digits -/
theorem dig_ofNat (d : Nat) (h : d < 10) : (UInt8.ofNat (48 + d)).toNat = 48 + d := by simp; omega
theorem decDigits_snoc (u : Nat) (h : ¬ u < 10) : decDigits u = decDigits (u / 10) ++ [UInt8.ofNat (48 + u % 10)] := by rw [decDigits, dif_neg h]
theorem dec_dig (u : Nat) : ∀ c ∈ decDigits u, digB c = true := by
  induction u using Nat.strongRecOn with
  | ind u ih =>
    intro c hc
    by_cases h : u < 10
    · rw [decDigits_one h] at hc
      rw [List.mem_singleton] at hc; subst hc
      unfold digB; rw [dig_ofNat u h]; simp; omega
    · rw [decDigits_snoc u h] at hc
      rcases List.mem_append.1 hc with hc | hc
      · exact ih (u / 10) (by omega) c hc
      · rw [List.mem_singleton] at hc; subst hc
        unfold digB; rw [dig_ofNat (u % 10) (by omega)]; simp; omega
theorem dec_ne (u : Nat) : decDigits u ≠ [] := by
  intro h; have := decDigits_length u; rw [h] at this; have := nDigits_pos u; simp at *; omega
theorem valGo_app (a : Nat) (l m : List UInt8) : valGo a (l ++ m) = valGo (valGo a l) m := by unfold valGo; rw [List.foldl_append]
theorem valGo_mono (l : List UInt8) : ∀ a, a ≤ valGo a l := by
  induction l with
  | nil => intro a; exact Nat.le_refl _
  | cons c l ih => intro a; exact Nat.le_trans (by omega) (ih (a * 10 + (c.toNat - 48)))
theorem val_dec (u : Nat) : valL (decDigits u) = u := by
  induction u using Nat.strongRecOn with
  | ind u ih =>
    by_cases h : u < 10
    · rw [decDigits_one h]
      show 0 * 10 + ((UInt8.ofNat (48 + u)).toNat - 48) = u
      rw [dig_ofNat u h]; omega
    · rw [decDigits_snoc u h]
      show valGo 0 _ = u
      rw [valGo_app, show valGo 0 (decDigits (u / 10)) = u / 10 from ih _ (by omega)]
      show u / 10 * 10 + ((UInt8.ofNat (48 + u % 10)).toNat - 48) = u
      rw [dig_ofNat _ (by omega)]; omega
theorem val_zeros : ∀ n, valL (List.replicate n 48) = 0
  | 0 => rfl
  | n + 1 => by
    show valGo (0 * 10 + ((48 : UInt8).toNat - 48)) (List.replicate n 48) = 0
    exact val_zeros n
theorem dec_len (u k : Nat) (h : u < 10 ^ k) (hk : 1 ≤ k) : (decDigits u).length ≤ k := by
  rw [decDigits_length]
  induction k generalizing u with
  | zero => omega
  | succ k ih =>
    by_cases h10 : u < 10
    · rw [nDigits_small h10]; omega
    · have hk1 : 1 ≤ k := by
        refine Classical.byContradiction fun h0 => ?_
        obtain rfl : k = 0 := by omega
        simp at h; omega
      rw [nDigits_big h10]
      have := ih (u / 10) (by rw [Nat.pow_succ] at h; omega) hk1
      omega

theorem take_digits (ds u : List UInt8) (h : ∀ c ∈ ds, digB c = true) : (ds ++ u).takeWhile digB = ds ++ u.takeWhile digB := by
  induction ds with
  | nil => rfl
  | cons c ds ih =>
    rw [List.cons_append, List.takeWhile_cons, if_pos (h c (by simp)), ih fun x hx => h x (by simp [hx])]; rfl
theorem digits_app (ds u : List UInt8) (h : ∀ c ∈ ds, digB c = true) : digitsL (ds ++ u) = ds.length + digitsL u := by
  unfold digitsL; rw [take_digits ds u h, List.length_append]
theorem digits_none (c : UInt8) (u : List UInt8) (h : digB c = false) : digitsL (c :: u) = 0 := by
  unfold digitsL; rw [List.takeWhile_cons, if_neg (by simp [h])]; rfl
theorem chain_digits (ds u : List UInt8) (h : ∀ c ∈ ds, digB c = true) : chainL (ds ++ u) = ds.length + chainL u := by
  induction ds with
  | nil => simp
  | cons c ds ih =>
    have hc : 48 ≤ c.toNat ∧ c.toNat ≤ 57 := of_decide_eq_true (h c (by simp))
    have hk : kindZ (rune (c :: (ds ++ u))) = 2 := (kind_two _ (by simp)).2 (h c (by simp))
    have hw : wideL (c :: (ds ++ u)) = 1 := digit_wide _ (by simp) (h c (by simp))
    rw [List.cons_append, chainL_step _ (by simp), if_pos (by unfold wordy; simp [hk]), hw, List.drop_one, List.tail_cons, ih fun x hx => h x (by simp [hx]), List.length_cons]
    omega
theorem kind_digits (ds u : List UInt8) (hne : ds ≠ []) (h : ∀ c ∈ ds, digB c = true) : kindZ (rune (ds ++ u)) = 2 := by
  cases ds with
  | nil => exact absurd rfl hne
  | cons c ds => exact (kind_two _ (by simp)).2 (h c (by simp))
/-- Digits, and what stands behind them: the token. -/
theorem first_digits (ds u : List UInt8) (hne : ds ≠ []) (h : ∀ c ∈ ds, digB c = true) : firstL (ds ++ u) = numL (ds ++ u.take (chainL u)) := by
  unfold firstL
  rw [kind_digits ds u hne h, if_neg (by decide), if_pos rfl, chain_digits ds u h, List.take_append]
  rw [List.take_of_length_le (by omega), Nat.add_sub_cancel_left]
theorem num_great (ds v : List UInt8) (h : ∀ c ∈ ds, digB c = true) (hb : 13 < ds.length ∨ 1000000000000 < valL ds) : numL (ds ++ v) = none := by
  unfold numL
  rw [if_pos]
  rw [digits_app ds v h]
  rcases hb with hb | hb
  · exact .inl (by omega)
  · refine .inr ?_
    rw [List.take_append, List.take_of_length_le (by omega)]
    unfold valL at hb ⊢
    rw [valGo_app]
    have := valGo_mono (v.take (ds.length + digitsL v - ds.length)) (valGo 0 ds)
    omega
theorem num_plain (ds : List UInt8) (h : ∀ c ∈ ds, digB c = true) (h1 : ds.length ≤ 13) (h2 : valL ds ≤ 1000000000000) : numL ds = some (2, decDigits (valL ds), ds.length) := by
  have e := digits_app ds [] h
  rw [List.append_nil] at e
  have e0 : digitsL [] = 0 := rfl
  rw [e0, Nat.add_zero] at e
  unfold numL
  rw [e, List.take_length, if_neg (by omega), if_pos rfl]
theorem num_unit (ds : List UInt8) (c : UInt8) (k : Nat) (hc : digB c = false) (hk : secsL [c] = k) (h : ∀ c ∈ ds, digB c = true) (h1 : ds.length ≤ 13) (h2 : valL ds ≤ 1000000000000) :
    numL (ds ++ [c]) = if k = 0 ∨ 1000000000 < valL ds * k then none else some (4, decDigits (valL ds * k), ds.length + 1) := by
  have e : digitsL (ds ++ [c]) = ds.length := by rw [digits_app ds [c] h, digits_none c [] hc]; rfl
  unfold numL
  rw [e, List.take_left, List.drop_left, if_neg (by omega), if_neg (by simp), hk]
  simp

/-! ### words joined -/
def spellW (w : Nat × List UInt8) : List UInt8 := if w.1 = 3 then quoteL w.2 else if w.1 = 4 then w.2 ++ [115] else w.2
/-- What words can be. -/
def Fine (k : Nat) (t : List UInt8) : Prop := firstL (spellW (k, t)) = some (k, t, (spellW (k, t)).length) ∧ spellW (k, t) ≠ [] ∧ kindZ (rune (spellW (k, t))) ≠ 3
theorem fine_string (s : List UInt8) : Fine 3 s := by
  have := first_quote s []
  rw [List.append_nil] at this
  refine ⟨this, by show quoteL s ≠ []; unfold quoteL; simp, ?_⟩
  show kindZ (rune (34 :: _)) ≠ 3
  rw [rune_quote]; decide
theorem fine_sign (t : List UInt8) (h : t ∈ signs) : Fine 5 t := by
  have : ∀ t ∈ signs, (kindZ (rune t) = 4 ∧ rune t ≠ 34 ∧ signL t = some (5, t, t.length)) := by decide +kernel
  obtain ⟨h1, h2, h3⟩ := this t h
  have hne : t ≠ [] := by have := (sign_le t h).1; intro e; subst e; simp at this
  refine ⟨?_, hne, by show kindZ (rune t) ≠ 3; rw [h1]; decide⟩
  show firstL t = _
  unfold firstL
  rw [h1, if_neg (by decide), if_neg (by decide), if_neg h2, h3]; rfl
theorem fine_number (v : Nat) (h : v ≤ 1000000000000) : Fine 2 (decDigits v) := by
  have hd := dec_dig v
  have hl := dec_len v 13 (by omega) (by decide)
  have := first_digits (decDigits v) [] (dec_ne v) hd
  rw [List.append_nil, List.take_nil, List.append_nil, num_plain _ hd hl (by rw [val_dec]; exact h), val_dec] at this
  have hk := kind_digits (decDigits v) [] (dec_ne v) hd
  rw [List.append_nil] at hk
  exact ⟨this, dec_ne v, by show kindZ (rune (decDigits v)) ≠ 3; rw [hk]; decide⟩
theorem fine_span (v : Nat) (h : v ≤ 1000000000) : Fine 4 (decDigits v) := by
  have hd := dec_dig v
  have hl := dec_len v 13 (by omega) (by decide)
  have := first_digits (decDigits v) [115] (dec_ne v) hd
  have hc : chainL [115] = 1 := by decide +kernel
  rw [hc, List.take_one, show ([115] : List UInt8).head?.toList = [115] from rfl, num_unit _ 115 1 (by decide) (by decide) hd hl (by rw [val_dec]; omega), val_dec, if_neg (by omega), Nat.mul_one] at this
  refine ⟨?_, by show decDigits v ++ [115] ≠ []; simp, ?_⟩
  · show firstL (decDigits v ++ [115]) = some (4, decDigits v, (decDigits v ++ [115]).length)
    rw [this]; simp
  · show kindZ (rune (decDigits v ++ [115])) ≠ 3
    rw [kind_digits _ _ (dec_ne v) hd]; decide
/-- A chain that is cut out is a chain. -/
theorem chain_own (l : List UInt8) : chainL (l.take (chainL l)) = chainL l ∧ (chainL l ≠ 0 → decodeL (l.take (chainL l)) = decodeL l) := by
  induction l using sufs_induct with
  | h0 => exact ⟨rfl, fun h => absurd rfl h⟩
  | h1 l hne ih =>
    rw [show l.drop (decodeL l).2 = l.drop (wideL l) from rfl] at ih
    have hw := wide_pos l
    have hwl := wide_le hne
    by_cases hy : wordy l = true
    · have e := chainL_step l hne
      rw [if_pos hy] at e
      obtain ⟨n, hn⟩ : ∃ n, chainL (l.drop (wideL l)) = n := ⟨_, rfl⟩
      rw [hn] at e ih
      have hd : decodeL (l.take (wideL l + n)) = decodeL l := decodeL_take l _ hne (by show wideL l ≤ _; omega)
      have hne2 : l.take (wideL l + n) ≠ [] := by
        intro h0
        have h5 := congrArg List.length h0
        rw [List.length_take, List.length_nil] at h5
        have h6 : n ≤ (l.drop (wideL l)).length := by rw [← hn]; exact chainL_le _
        rw [List.length_drop] at h6
        omega
      rw [e]
      refine ⟨?_, fun _ => hd⟩
      have e1 : wideL (l.take (wideL l + n)) = wideL l := by unfold wideL at hd ⊢; rw [hd]
      have e2 : wordy (l.take (wideL l + n)) = wordy l := by unfold wordy rune; rw [hd]
      rw [chainL_step _ hne2, e2, if_pos hy, e1, List.drop_take, Nat.add_sub_cancel_left, ih.1]
    · have e : chainL l = 0 := by rw [chainL_step l hne, if_neg hy]
      rw [e]; exact ⟨rfl, fun h => absurd rfl h⟩
theorem fine_word (l : List UInt8) (hne : l ≠ []) (hk : kindZ (rune l) = 1) (hn : nameB (l.take (chainL l)) = true) : Fine 1 (l.take (chainL l)) := by
  obtain ⟨h1, h2⟩ := chain_own l
  have hp := chain_pos hne (.inl hk)
  have hd := h2 (by omega)
  have hr : rune (l.take (chainL l)) = rune l := by unfold rune; rw [hd]
  have hl : (l.take (chainL l)).length = chainL l := by rw [List.length_take, Nat.min_eq_left (chainL_le l)]
  refine ⟨?_, fun h => ?_, ?_⟩
  · show firstL (l.take (chainL l)) = some (1, l.take (chainL l), (l.take (chainL l)).length)
    unfold firstL
    have ht : (l.take (chainL l)).take (chainL l) = l.take (chainL l) := by rw [List.take_take, Nat.min_self]
    rw [hr, if_pos hk, h1, ht, hl, if_pos hn]
  · have := congrArg List.length h
    rw [show spellW (1, l.take (chainL l)) = l.take (chainL l) from rfl, hl] at this
    simp at this; omega
  · show kindZ (rune (l.take (chainL l))) ≠ 3
    rw [hr, hk]; decide
theorem num_fine {s : List UInt8} {t : Tk} (h : numL s = some t) : Fine t.1 t.2.1 := by
  unfold numL at h
  split at h
  · cases h
  · split at h
    · cases h; exact fine_number _ (by omega)
    · split at h
      · cases h
      · cases h; exact fine_span _ (by omega)
theorem first_fine {l : List UInt8} {t : Tk} (hne : l ≠ []) (h : firstL l = some t) : Fine t.1 t.2.1 := by
  unfold firstL at h
  split at h
  · split at h
    · cases h; exact fine_word l hne ‹_› ‹_›
    · cases h
  · split at h
    · exact num_fine h
    · split at h
      · split at h
        · cases h; exact fine_string _
        · cases h
      · unfold signL at h
        split at h
        · rename_i hs
          cases h; exact fine_sign _ (signB_mem hs.2)
        · split at h
          · rename_i hs
            cases h; exact fine_sign _ (signB_mem hs.2)
          · cases h
theorem lexAt_fine (l : List UInt8) : ∀ (a : Nat) (ws : List Wd), lexAt a l = some ws → ∀ w ∈ ws, Fine w.1 w.2.2 := by
  induction l using lex_induct with
  | h0 => intro a ws h; obtain rfl : [] = ws := Option.some.inj h; intro w hw; cases hw
  | h1 l hne ih =>
    intro a ws h
    have hl : 0 < l.length := List.length_pos_iff.2 hne
    by_cases h3 : kindZ (rune l) = 3
    · rw [lexAt_blank a hne h3] at h
      exact ih _ (by rw [List.length_drop]; omega) _ _ h
    · cases hf : firstL l with
      | none => rw [lexAt_none a hne h3 hf] at h; cases h
      | some t =>
        have hb1 := first_len hne hf
        rw [lexAt_tok a hne h3 hf] at h
        cases hx : lexAt (a + t.2.2) (l.drop t.2.2) with
        | none => rw [hx] at h; cases h
        | some vs =>
          rw [hx] at h
          obtain rfl := Option.some.inj h
          intro w hw
          rcases List.mem_cons.1 hw with rfl | hw
          · exact first_fine hne hf
          · exact ih _ (by rw [List.length_drop]; omega) _ _ hx w hw
/-- Words with a blank between two. -/
def joinL : List (Nat × List UInt8) → List UInt8
  | [] => []
  | [w] => spellW w
  | w :: v :: ws => spellW w ++ 32 :: joinL (v :: ws)
/-- Where they stand. -/
def placed (a : Nat) : List (Nat × List UInt8) → List Wd
  | [] => []
  | w :: ws => (w.1, a, w.2) :: placed (a + (spellW w).length + 1) ws
theorem join_again : ∀ (ws : List (Nat × List UInt8)) (a : Nat), (∀ w ∈ ws, Fine w.1 w.2) → lexAt a (joinL ws) = some (placed a ws)
  | [], a, _ => rfl
  | [w], a, h => by
    obtain ⟨h1, h2, h3⟩ := h w (by simp)
    show lexAt a (spellW w) = _
    rw [lexAt_tok a h2 h3 h1]
    show Option.map _ (lexAt _ ((spellW w).drop (spellW w).length)) = _
    rw [List.drop_length]; rfl
  | w :: v :: ws, a, h => by
    obtain ⟨h1, h2, h3⟩ := h w (by simp)
    show lexAt a (spellW w ++ 32 :: joinL (v :: ws)) = _
    have hr : kindZ (rune (spellW w ++ 32 :: joinL (v :: ws))) ≠ 3 := by
      unfold rune at h3 ⊢; rw [dec_app _ h2 32 (by decide)]; exact h3
    rw [lexAt_tok a (by simp) hr (first_app h2 h1 32 (by decide) _)]
    show Option.map _ (lexAt (a + (spellW w).length) ((spellW w ++ 32 :: joinL (v :: ws)).drop (spellW w).length)) = _
    rw [List.drop_left, lexAt_blank _ (by simp) (blank_kind 32 _ (by decide)).1, List.drop_one, List.tail_cons, join_again (v :: ws) _ fun x hx => h x (by simp [hx])]
    rfl
end Go.Proofs.YtddglepimbfdkaaGreatDoor
end

section
/- Plain: digits with zeros ahead and a unit behind. -/

namespace Go.Proofs.YtddglepimbfdkaaGreatDoor
open Go.Lib

def zdL (z v : Nat) : List UInt8 := List.replicate z 48 ++ decDigits v
theorem zd_dig (z v : Nat) : ∀ c ∈ zdL z v, digB c = true := by
  intro c hc
  rcases List.mem_append.1 hc with hc | hc
  · rw [(List.mem_replicate.1 hc).2]; decide
  · exact dec_dig v c hc
theorem zd_ne (z v : Nat) : zdL z v ≠ [] := fun h => dec_ne v (List.append_eq_nil_iff.1 h).2
theorem zd_val (z v : Nat) : valL (zdL z v) = v := by
  unfold zdL valL
  rw [valGo_app, show valGo 0 (List.replicate z 48) = 0 from val_zeros z]
  exact val_dec v
theorem zd_len (z v : Nat) : (zdL z v).length = z + (decDigits v).length := by unfold zdL; simp
theorem lexL_first (l : List UInt8) (hne : l ≠ []) (hk : kindZ (rune l) = 2) (o : Option Tk) (hf : firstL l = o) (ho : ∀ t, o = some t → t.2.2 = l.length) : lexL l = o.map fun t => [(t.1, 0, t.2.1)] := by
  rw [lexL_at]
  cases o with
  | none => rw [lexAt_none 0 hne (by rw [hk]; decide) hf]; rfl
  | some t => rw [lexAt_tok 0 hne (by rw [hk]; decide) hf, ho t rfl, List.drop_length]; rfl
theorem numbers_great (z v : Nat) (u : List UInt8) (h : 13 < (zdL z v).length ∨ 1000000000000 < v) : lexL (zdL z v ++ u) = none := by
  have hk := kind_digits (zdL z v) u (zd_ne z v) (zd_dig z v)
  rw [lexL_at]
  refine lexAt_none 0 (by simp [zd_ne]) (by rw [hk]; decide) ?_
  rw [first_digits _ u (zd_ne z v) (zd_dig z v)]
  exact num_great _ _ (zd_dig z v) (by rw [zd_val]; exact h)
theorem numbers_plain (z v : Nat) (h1 : (zdL z v).length ≤ 13) (h2 : v ≤ 1000000000000) : lexL (zdL z v) = some [(2, 0, decDigits v)] := by
  have hk := kind_digits (zdL z v) [] (zd_ne z v) (zd_dig z v)
  rw [List.append_nil] at hk
  have hf := first_digits (zdL z v) [] (zd_ne z v) (zd_dig z v)
  rw [List.append_nil, List.take_nil, List.append_nil, num_plain _ (zd_dig z v) h1 (by rw [zd_val]; exact h2), zd_val] at hf
  rw [lexL_first _ (zd_ne z v) hk _ hf (by intro t ht; cases ht; rfl)]; rfl
theorem numbers_unit (z v k : Nat) (c : UInt8) (hc : digB c = false) (hch : chainL [c] = 1) (hs : secsL [c] = k) (hk0 : k ≠ 0) (h1 : (zdL z v).length ≤ 13) (h2 : v ≤ 1000000000000) :
    lexL (zdL z v ++ [c]) = if 1000000000 < v * k then none else some [(4, 0, decDigits (v * k))] := by
  have hk := kind_digits (zdL z v) [c] (zd_ne z v) (zd_dig z v)
  have hf := first_digits (zdL z v) [c] (zd_ne z v) (zd_dig z v)
  rw [hch, List.take_one, show ([c] : List UInt8).head?.toList = [c] from rfl, num_unit _ c k hc hs (zd_dig z v) h1 (by rw [zd_val]; exact h2), zd_val] at hf
  by_cases hb : 1000000000 < v * k
  · rw [if_pos hb]
    rw [if_pos (.inr hb)] at hf
    exact lexL_first _ (by simp) hk none hf (by intro t ht; cases ht)
  · rw [if_neg hb]
    rw [if_neg (by omega)] at hf
    exact lexL_first _ (by simp) hk _ hf (by intro t ht; cases ht; simp)
end Go.Proofs.YtddglepimbfdkaaGreatDoor
end
