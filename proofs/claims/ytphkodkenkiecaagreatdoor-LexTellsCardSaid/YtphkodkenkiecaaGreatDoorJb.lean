/- Plain: how the words of a text go on: fuel, blanks, what stands behind. -/
import Derived.Test.YtphkodkenkiecaaGreatDoorJa
namespace Go.Proofs.YtphkodkenkiecaaGreatDoor
open Go.Lib

/-! ### where a token ends -/
theorem closeGo_bd : ∀ (l : List UInt8) (i : Nat) (esc : Bool), closeGo i esc l ≠ 0 → ∃ j, j < l.length ∧ (l.getD j 0).toNat = 34 ∧ closeGo i esc l = i + j + 1
  | [], i, esc, h => absurd rfl h
  | c :: u, i, esc, h => by
    have go : ∀ esc', closeGo (i + 1) esc' u ≠ 0 → ∃ j, j < (c :: u).length ∧ ((c :: u).getD j 0).toNat = 34 ∧ closeGo (i + 1) esc' u = i + j + 1 := by
      intro esc' h'
      obtain ⟨j, h1, h2, h3⟩ := closeGo_bd u (i + 1) esc' h'
      exact ⟨j + 1, by simp; omega, by simpa using h2, by omega⟩
    unfold closeGo at h ⊢
    split
    · rw [if_pos ‹_›] at h; exact go _ h
    · rw [if_neg ‹_›] at h
      split
      · rw [if_pos ‹_›] at h; exact go _ h
      · rw [if_neg ‹_›] at h
        split
        · exact ⟨0, by simp, by simp; omega, rfl⟩
        · rw [if_neg ‹_›] at h; exact go _ h
theorem close_bd {l : List UInt8} (h : closeL l ≠ 0) : Bd l (closeL l) ∧ closeL l ≤ l.length ∧ 1 ≤ closeL l := by
  obtain ⟨j, h1, h2, h3⟩ := closeGo_bd l 0 false h
  have e : closeL l = j + 1 := by unfold closeL; omega
  rw [e]
  exact ⟨(bd_ascii l j h1 (by omega)).2, by omega, by omega⟩
theorem unquote_nil : unquoteL [] = none := by
  cases h : unquoteL [] with
  | none => rfl
  | some t => have := unquoteL_some h; unfold quoteL at this; cases this
theorem sign_ascii : ∀ t ∈ signs, ∀ c ∈ t, c.toNat < 128 := by decide
theorem sign_le : ∀ t ∈ signs, 1 ≤ t.length ∧ t.length ≤ 2 := by decide
theorem signB_mem {l : List UInt8} (h : signB l = true) : l ∈ signs := by unfold signB at h; exact List.contains_iff_mem.1 h
theorem num_len {s : List UInt8} {t : Tk} (h : numL s = some t) : t.2.2 = s.length := by
  unfold numL at h
  repeat' split at h
  all_goals first | cases h; rfl | cases h
theorem chain_pos {l : List UInt8} (hne : l ≠ []) (hk : kindZ (rune l) = 1 ∨ kindZ (rune l) = 2) : 1 ≤ chainL l := by
  rw [chainL_step l hne, if_pos (by unfold wordy; simp [hk])]
  have := wide_pos l; omega
theorem first_len {l : List UInt8} {t : Tk} (hne : l ≠ []) (h : firstL l = some t) : 1 ≤ t.2.2 ∧ t.2.2 ≤ l.length ∧ Bd l t.2.2 := by
  unfold firstL at h
  split at h
  · split at h
    · cases h
      exact ⟨chain_pos hne (.inl ‹_›), chainL_le l, bd_chain l⟩
    · cases h
  · split at h
    · have e := num_len h
      have hc := chainL_le l
      rw [List.length_take, Nat.min_eq_left hc] at e
      rw [e]
      exact ⟨chain_pos hne (.inr ‹_›), hc, bd_chain l⟩
    · split at h
      · split at h
        · cases h
          have h0 : closeL l ≠ 0 := by
            intro h0; rename_i hu; rw [h0, List.take_zero, unquote_nil] at hu; cases hu
          obtain ⟨a, b, c⟩ := close_bd h0
          exact ⟨c, b, a⟩
        · cases h
      · unfold signL at h
        split at h
        · rename_i hs
          cases h
          have h1 := sign_ascii _ (signB_mem hs.2)
          refine ⟨(by decide : (1 : Nat) ≤ 2), hs.1, (bd_ascii l 1 (by omega) ?_).2⟩
          have : l.getD 1 0 ∈ l.take 2 := by
            have hl := hs.1
            match l, hl with
            | a :: b :: u, _ => simp
          exact h1 _ this
        · split at h
          · rename_i hs
            cases h
            have h1 := sign_ascii _ (signB_mem hs.2)
            refine ⟨(by decide : (1 : Nat) ≤ 1), hs.1, (bd_ascii l 0 (by omega) ?_).2⟩
            have : l.getD 0 0 ∈ l.take 1 := by
              have hl := hs.1
              match l, hl with
              | a :: u, _ => simp
            exact h1 _ this
          · cases h

/-! ### the words, step by step -/
theorem lexGo_nil (f a : Nat) : lexGo f a [] = some [] := by cases f <;> simp [lexGo]
theorem lexGo_fuel : ∀ (f g a : Nat) (l : List UInt8), l.length ≤ f → l.length ≤ g → lexGo f a l = lexGo g a l
  | 0, g, a, l, hf, _ => by
    have : l = [] := List.eq_nil_of_length_eq_zero (by omega)
    subst this; rw [lexGo_nil, lexGo_nil]
  | f + 1, 0, a, l, _, hg => by
    have : l = [] := List.eq_nil_of_length_eq_zero (by omega)
    subst this; rw [lexGo_nil, lexGo_nil]
  | f + 1, g + 1, a, l, hf, hg => by
    by_cases hne : l = []
    · subst hne; rw [lexGo_nil, lexGo_nil]
    · have hl : 0 < l.length := List.length_pos_iff.2 hne
      rw [lexGo, lexGo, if_neg hne, if_neg hne]
      split
      · exact lexGo_fuel f g _ _ (by rw [List.length_drop]; omega) (by rw [List.length_drop]; omega)
      · cases hf1 : firstL l with
        | none => rfl
        | some t =>
          have := first_len hne hf1
          show Option.map _ (lexGo f _ _) = Option.map _ (lexGo g _ _)
          rw [lexGo_fuel f g _ _ (by rw [List.length_drop]; omega) (by rw [List.length_drop]; omega)]
/-- The words of a text that stands at a place. -/
def lexAt (a : Nat) (l : List UInt8) : Option (List Wd) := lexGo l.length a l
theorem lexL_at (l : List UInt8) : lexL l = lexAt 0 l := rfl
theorem lexAt_nil (a : Nat) : lexAt a [] = some [] := rfl
theorem lexAt_blank (a : Nat) {l : List UInt8} (hne : l ≠ []) (h : kindZ (rune l) = 3) : lexAt a l = lexAt (a + 1) (l.drop 1) := by
  have hl : 0 < l.length := List.length_pos_iff.2 hne
  obtain ⟨n, hn⟩ : ∃ n, l.length = n + 1 := ⟨l.length - 1, by omega⟩
  unfold lexAt
  rw [hn, lexGo, if_neg hne, if_pos h]
  exact lexGo_fuel _ _ _ _ (by rw [List.length_drop]; omega) (Nat.le_refl _)
theorem lexAt_tok (a : Nat) {l : List UInt8} (hne : l ≠ []) (h : kindZ (rune l) ≠ 3) {t : Tk} (hf : firstL l = some t) : lexAt a l = (lexAt (a + t.2.2) (l.drop t.2.2)).map ((t.1, a, t.2.1) :: ·) := by
  have hl : 0 < l.length := List.length_pos_iff.2 hne
  obtain ⟨n, hn⟩ : ∃ n, l.length = n + 1 := ⟨l.length - 1, by omega⟩
  have := first_len hne hf
  unfold lexAt
  rw [hn, lexGo, if_neg hne, if_neg h, hf]
  show Option.map _ (lexGo n _ _) = _
  rw [lexGo_fuel n _ _ _ (by rw [List.length_drop]; omega) (Nat.le_refl _)]
theorem lexAt_none (a : Nat) {l : List UInt8} (hne : l ≠ []) (h : kindZ (rune l) ≠ 3) (hf : firstL l = none) : lexAt a l = none := by
  have hl : 0 < l.length := List.length_pos_iff.2 hne
  obtain ⟨n, hn⟩ : ∃ n, l.length = n + 1 := ⟨l.length - 1, by omega⟩
  unfold lexAt
  rw [hn, lexGo, if_neg hne, if_neg h, hf]
/-- Induction over what is left. -/
theorem lex_induct {P : List UInt8 → Prop} (h0 : P []) (h1 : ∀ l, l ≠ [] → (∀ m, m.length < l.length → P m) → P l) : ∀ l, P l := by
  have : ∀ n (l : List UInt8), l.length ≤ n → P l := by
    intro n
    induction n with
    | zero => intro l h; have : l = [] := List.eq_nil_of_length_eq_zero (by omega); subst this; exact h0
    | succ n ih =>
      intro l h
      by_cases hne : l = []
      · subst hne; exact h0
      · exact h1 l hne fun m hm => ih m (by omega)
  exact fun l => this l.length l (Nat.le_refl _)
def shiftW (d : Nat) (w : Wd) : Wd := (w.1, w.2.1 + d, w.2.2)
theorem lexAt_shift (l : List UInt8) : ∀ a d, lexAt (a + d) l = (lexAt a l).map (·.map (shiftW d)) := by
  induction l using lex_induct with
  | h0 => intro a d; rfl
  | h1 l hne ih =>
    intro a d
    have hl : 0 < l.length := List.length_pos_iff.2 hne
    by_cases hk : kindZ (rune l) = 3
    · rw [lexAt_blank _ hne hk, lexAt_blank _ hne hk, ← ih _ (by rw [List.length_drop]; omega)]
      congr 1; omega
    · cases hf : firstL l with
      | none => rw [lexAt_none _ hne hk hf, lexAt_none _ hne hk hf]; rfl
      | some t =>
        have hb := first_len hne hf
        rw [lexAt_tok _ hne hk hf, lexAt_tok _ hne hk hf, show a + d + t.2.2 = a + t.2.2 + d by omega, ih _ (by rw [List.length_drop]; omega)]
        cases lexAt (a + t.2.2) (l.drop t.2.2) <;> rfl
def blankB (c : UInt8) : Bool := decide (c.toNat = 32 ∨ c.toNat = 9 ∨ c.toNat = 10)
theorem blank_kind (c : UInt8) (u : List UInt8) (h : blankB c = true) : kindZ (rune (c :: u)) = 3 ∧ c.toNat < 128 := by
  have : c.toNat = 32 ∨ c.toNat = 9 ∨ c.toNat = 10 := of_decide_eq_true h
  refine ⟨?_, by omega⟩
  unfold rune; rw [dec_ascii c u (by omega)]
  unfold kindZ
  rcases this with e | e | e <;> rw [e] <;> decide
/-- Blanks ahead are nothing. -/
theorem lexAt_gap : ∀ (g : List UInt8) (a : Nat) (l : List UInt8), (∀ c ∈ g, blankB c = true) → lexAt a (g ++ l) = lexAt (a + g.length) l
  | [], a, l, _ => rfl
  | c :: g, a, l, h => by
    rw [List.cons_append, lexAt_blank a (by simp) (blank_kind c _ (h c (by simp))).1, List.drop_one, List.tail_cons, lexAt_gap g _ l fun c hc => h c (by simp [hc])]
    rw [List.length_cons]; congr 1; omega
end Go.Proofs.YtphkodkenkiecaaGreatDoor
