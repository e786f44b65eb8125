/- Plain: numbers as digits; words that are joined and cut again. -/
import Derived.Test.YtphkodkenkiecaaGreatDoorJc
namespace Go.Proofs.YtphkodkenkiecaaGreatDoor
open Go.Lib

/-! ### digits -/
theorem dig_ofNat (d : Nat) (h : d < 10) : (UInt8.ofNat (48 + d)).toNat = 48 + d := by simp; omega
theorem decDigits_snoc (u : Nat) (h : ¬ u < 10) : decDigits u = decDigits (u / 10) ++ [UInt8.ofNat (48 + u % 10)] := by rw [decDigits, dif_neg h]
theorem dec_dig (u : Nat) : ∀ c ∈ decDigits u, digB c = true := by
  induction u using Nat.strongRecOn with
  | ind u ih =>
    intro c hc
    by_cases h : u < 10
    · rw [decDigits_one h] at hc
      rw [List.mem_singleton] at hc; subst hc
      unfold digB; rw [dig_ofNat u h]; simp; omega
    · rw [decDigits_snoc u h] at hc
      rcases List.mem_append.1 hc with hc | hc
      · exact ih (u / 10) (by omega) c hc
      · rw [List.mem_singleton] at hc; subst hc
        unfold digB; rw [dig_ofNat (u % 10) (by omega)]; simp; omega
theorem dec_ne (u : Nat) : decDigits u ≠ [] := by
  intro h; have := decDigits_length u; rw [h] at this; have := nDigits_pos u; simp at *; omega
theorem valGo_app (a : Nat) (l m : List UInt8) : valGo a (l ++ m) = valGo (valGo a l) m := by unfold valGo; rw [List.foldl_append]
theorem valGo_mono (l : List UInt8) : ∀ a, a ≤ valGo a l := by
  induction l with
  | nil => intro a; exact Nat.le_refl _
  | cons c l ih => intro a; exact Nat.le_trans (by omega) (ih (a * 10 + (c.toNat - 48)))
theorem val_dec (u : Nat) : valL (decDigits u) = u := by
  induction u using Nat.strongRecOn with
  | ind u ih =>
    by_cases h : u < 10
    · rw [decDigits_one h]
      show 0 * 10 + ((UInt8.ofNat (48 + u)).toNat - 48) = u
      rw [dig_ofNat u h]; omega
    · rw [decDigits_snoc u h]
      show valGo 0 _ = u
      rw [valGo_app, show valGo 0 (decDigits (u / 10)) = u / 10 from ih _ (by omega)]
      show u / 10 * 10 + ((UInt8.ofNat (48 + u % 10)).toNat - 48) = u
      rw [dig_ofNat _ (by omega)]; omega
theorem val_zeros : ∀ n, valL (List.replicate n 48) = 0
  | 0 => rfl
  | n + 1 => by
    show valGo (0 * 10 + ((48 : UInt8).toNat - 48)) (List.replicate n 48) = 0
    exact val_zeros n
theorem dec_len (u k : Nat) (h : u < 10 ^ k) (hk : 1 ≤ k) : (decDigits u).length ≤ k := by
  rw [decDigits_length]
  induction k generalizing u with
  | zero => omega
  | succ k ih =>
    by_cases h10 : u < 10
    · rw [nDigits_small h10]; omega
    · have hk1 : 1 ≤ k := by
        refine Classical.byContradiction fun h0 => ?_
        obtain rfl : k = 0 := by omega
        simp at h; omega
      rw [nDigits_big h10]
      have := ih (u / 10) (by rw [Nat.pow_succ] at h; omega) hk1
      omega

theorem take_digits (ds u : List UInt8) (h : ∀ c ∈ ds, digB c = true) : (ds ++ u).takeWhile digB = ds ++ u.takeWhile digB := by
  induction ds with
  | nil => rfl
  | cons c ds ih =>
    rw [List.cons_append, List.takeWhile_cons, if_pos (h c (by simp)), ih fun x hx => h x (by simp [hx])]; rfl
theorem digits_app (ds u : List UInt8) (h : ∀ c ∈ ds, digB c = true) : digitsL (ds ++ u) = ds.length + digitsL u := by
  unfold digitsL; rw [take_digits ds u h, List.length_append]
theorem digits_none (c : UInt8) (u : List UInt8) (h : digB c = false) : digitsL (c :: u) = 0 := by
  unfold digitsL; rw [List.takeWhile_cons, if_neg (by simp [h])]; rfl
theorem chain_digits (ds u : List UInt8) (h : ∀ c ∈ ds, digB c = true) : chainL (ds ++ u) = ds.length + chainL u := by
  induction ds with
  | nil => simp
  | cons c ds ih =>
    have hc : 48 ≤ c.toNat ∧ c.toNat ≤ 57 := of_decide_eq_true (h c (by simp))
    have hk : kindZ (rune (c :: (ds ++ u))) = 2 := (kind_two _ (by simp)).2 (h c (by simp))
    have hw : wideL (c :: (ds ++ u)) = 1 := digit_wide _ (by simp) (h c (by simp))
    rw [List.cons_append, chainL_step _ (by simp), if_pos (by unfold wordy; simp [hk]), hw, List.drop_one, List.tail_cons, ih fun x hx => h x (by simp [hx]), List.length_cons]
    omega
theorem kind_digits (ds u : List UInt8) (hne : ds ≠ []) (h : ∀ c ∈ ds, digB c = true) : kindZ (rune (ds ++ u)) = 2 := by
  cases ds with
  | nil => exact absurd rfl hne
  | cons c ds => exact (kind_two _ (by simp)).2 (h c (by simp))
/-- Digits, and what stands behind them: the token. -/
theorem first_digits (ds u : List UInt8) (hne : ds ≠ []) (h : ∀ c ∈ ds, digB c = true) : firstL (ds ++ u) = numL (ds ++ u.take (chainL u)) := by
  unfold firstL
  rw [kind_digits ds u hne h, if_neg (by decide), if_pos rfl, chain_digits ds u h, List.take_append]
  rw [List.take_of_length_le (by omega), Nat.add_sub_cancel_left]
theorem num_great (ds v : List UInt8) (h : ∀ c ∈ ds, digB c = true) (hb : 13 < ds.length ∨ 1000000000000 < valL ds) : numL (ds ++ v) = none := by
  unfold numL
  rw [if_pos]
  rw [digits_app ds v h]
  rcases hb with hb | hb
  · exact .inl (by omega)
  · refine .inr ?_
    rw [List.take_append, List.take_of_length_le (by omega)]
    unfold valL at hb ⊢
    rw [valGo_app]
    have := valGo_mono (v.take (ds.length + digitsL v - ds.length)) (valGo 0 ds)
    omega
theorem num_plain (ds : List UInt8) (h : ∀ c ∈ ds, digB c = true) (h1 : ds.length ≤ 13) (h2 : valL ds ≤ 1000000000000) : numL ds = some (2, decDigits (valL ds), ds.length) := by
  have e := digits_app ds [] h
  rw [List.append_nil] at e
  have e0 : digitsL [] = 0 := rfl
  rw [e0, Nat.add_zero] at e
  unfold numL
  rw [e, List.take_length, if_neg (by omega), if_pos rfl]
theorem num_unit (ds : List UInt8) (c : UInt8) (k : Nat) (hc : digB c = false) (hk : secsL [c] = k) (h : ∀ c ∈ ds, digB c = true) (h1 : ds.length ≤ 13) (h2 : valL ds ≤ 1000000000000) :
    numL (ds ++ [c]) = if k = 0 ∨ 1000000000 < valL ds * k then none else some (4, decDigits (valL ds * k), ds.length + 1) := by
  have e : digitsL (ds ++ [c]) = ds.length := by rw [digits_app ds [c] h, digits_none c [] hc]; rfl
  unfold numL
  rw [e, List.take_left, List.drop_left, if_neg (by omega), if_neg (by simp), hk]
  simp

/-! ### words joined -/
def spellW (w : Nat × List UInt8) : List UInt8 := if w.1 = 3 then quoteL w.2 else if w.1 = 4 then w.2 ++ [115] else w.2
/-- What words can be. -/
def Fine (k : Nat) (t : List UInt8) : Prop := firstL (spellW (k, t)) = some (k, t, (spellW (k, t)).length) ∧ spellW (k, t) ≠ [] ∧ kindZ (rune (spellW (k, t))) ≠ 3
theorem fine_string (s : List UInt8) : Fine 3 s := by
  have := first_quote s []
  rw [List.append_nil] at this
  refine ⟨this, by show quoteL s ≠ []; unfold quoteL; simp, ?_⟩
  show kindZ (rune (34 :: _)) ≠ 3
  rw [rune_quote]; decide
theorem fine_sign (t : List UInt8) (h : t ∈ signs) : Fine 5 t := by
  have : ∀ t ∈ signs, (kindZ (rune t) = 4 ∧ rune t ≠ 34 ∧ signL t = some (5, t, t.length)) := by decide +kernel
  obtain ⟨h1, h2, h3⟩ := this t h
  have hne : t ≠ [] := by have := (sign_le t h).1; intro e; subst e; simp at this
  refine ⟨?_, hne, by show kindZ (rune t) ≠ 3; rw [h1]; decide⟩
  show firstL t = _
  unfold firstL
  rw [h1, if_neg (by decide), if_neg (by decide), if_neg h2, h3]; rfl
theorem fine_number (v : Nat) (h : v ≤ 1000000000000) : Fine 2 (decDigits v) := by
  have hd := dec_dig v
  have hl := dec_len v 13 (by omega) (by decide)
  have := first_digits (decDigits v) [] (dec_ne v) hd
  rw [List.append_nil, List.take_nil, List.append_nil, num_plain _ hd hl (by rw [val_dec]; exact h), val_dec] at this
  have hk := kind_digits (decDigits v) [] (dec_ne v) hd
  rw [List.append_nil] at hk
  exact ⟨this, dec_ne v, by show kindZ (rune (decDigits v)) ≠ 3; rw [hk]; decide⟩
theorem fine_span (v : Nat) (h : v ≤ 1000000000) : Fine 4 (decDigits v) := by
  have hd := dec_dig v
  have hl := dec_len v 13 (by omega) (by decide)
  have := first_digits (decDigits v) [115] (dec_ne v) hd
  have hc : chainL [115] = 1 := by decide +kernel
  rw [hc, List.take_one, show ([115] : List UInt8).head?.toList = [115] from rfl, num_unit _ 115 1 (by decide) (by decide) hd hl (by rw [val_dec]; omega), val_dec, if_neg (by omega), Nat.mul_one] at this
  refine ⟨?_, by show decDigits v ++ [115] ≠ []; simp, ?_⟩
  · show firstL (decDigits v ++ [115]) = some (4, decDigits v, (decDigits v ++ [115]).length)
    rw [this]; simp
  · show kindZ (rune (decDigits v ++ [115])) ≠ 3
    rw [kind_digits _ _ (dec_ne v) hd]; decide
/-- A chain that is cut out is a chain. -/
theorem chain_own (l : List UInt8) : chainL (l.take (chainL l)) = chainL l ∧ (chainL l ≠ 0 → decodeL (l.take (chainL l)) = decodeL l) := by
  induction l using sufs_induct with
  | h0 => exact ⟨rfl, fun h => absurd rfl h⟩
  | h1 l hne ih =>
    rw [show l.drop (decodeL l).2 = l.drop (wideL l) from rfl] at ih
    have hw := wide_pos l
    have hwl := wide_le hne
    by_cases hy : wordy l = true
    · have e := chainL_step l hne
      rw [if_pos hy] at e
      obtain ⟨n, hn⟩ : ∃ n, chainL (l.drop (wideL l)) = n := ⟨_, rfl⟩
      rw [hn] at e ih
      have hd : decodeL (l.take (wideL l + n)) = decodeL l := decodeL_take l _ hne (by show wideL l ≤ _; omega)
      have hne2 : l.take (wideL l + n) ≠ [] := by
        intro h0
        have h5 := congrArg List.length h0
        rw [List.length_take, List.length_nil] at h5
        have h6 : n ≤ (l.drop (wideL l)).length := by rw [← hn]; exact chainL_le _
        rw [List.length_drop] at h6
        omega
      rw [e]
      refine ⟨?_, fun _ => hd⟩
      have e1 : wideL (l.take (wideL l + n)) = wideL l := by unfold wideL at hd ⊢; rw [hd]
      have e2 : wordy (l.take (wideL l + n)) = wordy l := by unfold wordy rune; rw [hd]
      rw [chainL_step _ hne2, e2, if_pos hy, e1, List.drop_take, Nat.add_sub_cancel_left, ih.1]
    · have e : chainL l = 0 := by rw [chainL_step l hne, if_neg hy]
      rw [e]; exact ⟨rfl, fun h => absurd rfl h⟩
theorem fine_word (l : List UInt8) (hne : l ≠ []) (hk : kindZ (rune l) = 1) (hn : nameB (l.take (chainL l)) = true) : Fine 1 (l.take (chainL l)) := by
  obtain ⟨h1, h2⟩ := chain_own l
  have hp := chain_pos hne (.inl hk)
  have hd := h2 (by omega)
  have hr : rune (l.take (chainL l)) = rune l := by unfold rune; rw [hd]
  have hl : (l.take (chainL l)).length = chainL l := by rw [List.length_take, Nat.min_eq_left (chainL_le l)]
  refine ⟨?_, fun h => ?_, ?_⟩
  · show firstL (l.take (chainL l)) = some (1, l.take (chainL l), (l.take (chainL l)).length)
    unfold firstL
    have ht : (l.take (chainL l)).take (chainL l) = l.take (chainL l) := by rw [List.take_take, Nat.min_self]
    rw [hr, if_pos hk, h1, ht, hl, if_pos hn]
  · have := congrArg List.length h
    rw [show spellW (1, l.take (chainL l)) = l.take (chainL l) from rfl, hl] at this
    simp at this; omega
  · show kindZ (rune (l.take (chainL l))) ≠ 3
    rw [hr, hk]; decide
theorem num_fine {s : List UInt8} {t : Tk} (h : numL s = some t) : Fine t.1 t.2.1 := by
  unfold numL at h
  split at h
  · cases h
  · split at h
    · cases h; exact fine_number _ (by omega)
    · split at h
      · cases h
      · cases h; exact fine_span _ (by omega)
theorem first_fine {l : List UInt8} {t : Tk} (hne : l ≠ []) (h : firstL l = some t) : Fine t.1 t.2.1 := by
  unfold firstL at h
  split at h
  · split at h
    · cases h; exact fine_word l hne ‹_› ‹_›
    · cases h
  · split at h
    · exact num_fine h
    · split at h
      · split at h
        · cases h; exact fine_string _
        · cases h
      · unfold signL at h
        split at h
        · rename_i hs
          cases h; exact fine_sign _ (signB_mem hs.2)
        · split at h
          · rename_i hs
            cases h; exact fine_sign _ (signB_mem hs.2)
          · cases h
theorem lexAt_fine (l : List UInt8) : ∀ (a : Nat) (ws : List Wd), lexAt a l = some ws → ∀ w ∈ ws, Fine w.1 w.2.2 := by
  induction l using lex_induct with
  | h0 => intro a ws h; obtain rfl : [] = ws := Option.some.inj h; intro w hw; cases hw
  | h1 l hne ih =>
    intro a ws h
    have hl : 0 < l.length := List.length_pos_iff.2 hne
    by_cases h3 : kindZ (rune l) = 3
    · rw [lexAt_blank a hne h3] at h
      exact ih _ (by rw [List.length_drop]; omega) _ _ h
    · cases hf : firstL l with
      | none => rw [lexAt_none a hne h3 hf] at h; cases h
      | some t =>
        have hb1 := first_len hne hf
        rw [lexAt_tok a hne h3 hf] at h
        cases hx : lexAt (a + t.2.2) (l.drop t.2.2) with
        | none => rw [hx] at h; cases h
        | some vs =>
          rw [hx] at h
          obtain rfl := Option.some.inj h
          intro w hw
          rcases List.mem_cons.1 hw with rfl | hw
          · exact first_fine hne hf
          · exact ih _ (by rw [List.length_drop]; omega) _ _ hx w hw
/-- Words with a blank between two. -/
def joinL : List (Nat × List UInt8) → List UInt8
  | [] => []
  | [w] => spellW w
  | w :: v :: ws => spellW w ++ 32 :: joinL (v :: ws)
/-- Where they stand. -/
def placed (a : Nat) : List (Nat × List UInt8) → List Wd
  | [] => []
  | w :: ws => (w.1, a, w.2) :: placed (a + (spellW w).length + 1) ws
theorem join_again : ∀ (ws : List (Nat × List UInt8)) (a : Nat), (∀ w ∈ ws, Fine w.1 w.2) → lexAt a (joinL ws) = some (placed a ws)
  | [], a, _ => rfl
  | [w], a, h => by
    obtain ⟨h1, h2, h3⟩ := h w (by simp)
    show lexAt a (spellW w) = _
    rw [lexAt_tok a h2 h3 h1]
    show Option.map _ (lexAt _ ((spellW w).drop (spellW w).length)) = _
    rw [List.drop_length]; rfl
  | w :: v :: ws, a, h => by
    obtain ⟨h1, h2, h3⟩ := h w (by simp)
    show lexAt a (spellW w ++ 32 :: joinL (v :: ws)) = _
    have hr : kindZ (rune (spellW w ++ 32 :: joinL (v :: ws))) ≠ 3 := by
      unfold rune at h3 ⊢; rw [dec_app _ h2 32 (by decide)]; exact h3
    rw [lexAt_tok a (by simp) hr (first_app h2 h1 32 (by decide) _)]
    show Option.map _ (lexAt (a + (spellW w).length) ((spellW w ++ 32 :: joinL (v :: ws)).drop (spellW w).length)) = _
    rw [List.drop_left, lexAt_blank _ (by simp) (blank_kind 32 _ (by decide)).1, List.drop_one, List.tail_cons, join_again (v :: ws) _ fun x hx => h x (by simp [hx])]
    rfl
end Go.Proofs.YtphkodkenkiecaaGreatDoor
