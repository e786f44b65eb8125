/- Plain: words with a blank behind them; texts in quotation marks. -/
import Derived.Test.YtphkodkenkiecaaGreatDoorJb
namespace Go.Proofs.YtphkodkenkiecaaGreatDoor
open Go.Lib

/-- A character below 128 ends what stands ahead of it. -/
theorem ends_ascii (l : List UInt8) (hne : l ≠ []) (c : UInt8) (hc : c.toNat < 128) (u : List UInt8) : (decodeL (l ++ c :: u)).2 ≤ l.length := by
  have hl : 0 < l.length := List.length_pos_iff.2 hne
  have g : (l ++ c :: u).getD l.length 0 = c := by simp [List.getD]
  rw [decodeL_N]
  rcases decodeN_shape (l ++ c :: u).length ((l ++ c :: u).getD 0 0).toNat ((l ++ c :: u).getD 1 0).toNat ((l ++ c :: u).getD 2 0).toNat ((l ++ c :: u).getD 3 0).toNat with ⟨_, e⟩ | ⟨_, _, c3, _, e⟩ | ⟨_, _, c3, c4, _, _, e⟩ | ⟨_, _, c3, c4, c5, _, _, e⟩ | e
  all_goals rw [e]
  all_goals dsimp only
  · omega
  · by_cases h1 : l.length = 1
    · rw [h1] at g; rw [g] at c3; omega
    · omega
  · by_cases h1 : l.length = 1
    · rw [h1] at g; rw [g] at c3; omega
    · by_cases h2 : l.length = 2
      · rw [h2] at g; rw [g] at c4; omega
      · omega
  · by_cases h1 : l.length = 1
    · rw [h1] at g; rw [g] at c3; omega
    · by_cases h2 : l.length = 2
      · rw [h2] at g; rw [g] at c4; omega
      · by_cases h3 : l.length = 3
        · rw [h3] at g; rw [g] at c5; omega
        · omega
  · omega
theorem dec_app (l : List UInt8) (hne : l ≠ []) (c : UInt8) (hc : c.toNat < 128) (u : List UInt8) : decodeL (l ++ c :: u) = decodeL l := by
  have := decodeL_take (l ++ c :: u) l.length (by simp) (ends_ascii l hne c hc u)
  rw [List.take_left] at this
  exact this.symm
theorem chain_app (c : UInt8) (hb : blankB c = true) (u : List UInt8) (l : List UInt8) : chainL (l ++ c :: u) = chainL l := by
  have hk := blank_kind c u hb
  induction l using sufs_induct with
  | h0 =>
    rw [List.nil_append, chainL_step _ (by simp), if_neg (by unfold wordy; rw [hk.1]; decide)]; rfl
  | h1 l hne ih =>
    have hd := dec_app l hne c hk.2 u
    have hw := wide_le hne
    have e1 : wideL (l ++ c :: u) = wideL l := by unfold wideL; rw [hd]
    have e2 : wordy (l ++ c :: u) = wordy l := by unfold wordy rune; rw [hd]
    rw [chainL_step _ (by simp), chainL_step l hne, e1, e2, List.drop_append_of_le_length hw]
    rw [show wideL l = (decodeL l).2 from rfl, ih]
theorem closeGo_app : ∀ (l u : List UInt8) (i : Nat) (esc : Bool), closeGo i esc l ≠ 0 → closeGo i esc (l ++ u) = closeGo i esc l
  | [], u, i, esc, h => absurd rfl h
  | c :: l, u, i, esc, h => by
    rw [List.cons_append]
    unfold closeGo at h ⊢
    split
    · rw [if_pos ‹_›] at h; exact closeGo_app l u _ _ h
    · rw [if_neg ‹_›] at h
      split
      · rw [if_pos ‹_›] at h; exact closeGo_app l u _ _ h
      · rw [if_neg ‹_›] at h
        split
        · rfl
        · rw [if_neg ‹_›] at h; exact closeGo_app l u _ _ h
theorem sign_blank (x c : UInt8) (hb : blankB c = true) : signB [x, c] = false := by
  refine Bool.eq_false_iff.2 fun h => ?_
  have hm := signB_mem h
  have : ∀ t ∈ signs, ∀ y ∈ t, blankB y = false := by decide
  have := this _ hm c (by simp)
  rw [this] at hb; cases hb
/-- A token stays what it is with a blank behind it. -/
theorem first_app {l : List UInt8} {t : Tk} (hne : l ≠ []) (h : firstL l = some t) (c : UInt8) (hb : blankB c = true) (u : List UInt8) : firstL (l ++ c :: u) = some t := by
  have hk := blank_kind c u hb
  have hr : rune (l ++ c :: u) = rune l := by unfold rune; rw [dec_app l hne c hk.2 u]
  have hl := chainL_le l
  rw [← h]
  unfold firstL at h ⊢
  rw [hr, chain_app c hb u, List.take_append_of_le_length hl]
  split
  · rfl
  · rw [if_neg ‹_›] at h
    split
    · rfl
    · rw [if_neg ‹_›] at h
      split
      · rw [if_pos ‹_›] at h
        have h0 : closeL l ≠ 0 := by
          intro h0; rw [h0, List.take_zero, unquote_nil] at h; cases h
        have e : closeL (l ++ c :: u) = closeL l := closeGo_app l _ 0 false h0
        rw [e, List.take_append_of_le_length (close_bd h0).2.1]
      · unfold signL
        match l, hne with
        | [x], _ => 
          rw [if_neg (fun hh => by have := hh.2; rw [show List.take 2 ([x] ++ c :: u) = [x, c] from rfl, sign_blank x c hb] at this; cases this)]
          rw [if_neg (fun hh : 2 ≤ [x].length ∧ _ => by simp at hh)]
          simp
        | x :: y :: l, _ => simp
/-- What stands behind a text and a blank goes on by itself. -/
theorem lexAt_app (c : UInt8) (hb : blankB c = true) (u : List UInt8) (l : List UInt8) : ∀ (a : Nat) (ws : List Wd), lexAt a l = some ws → lexAt a (l ++ c :: u) = (lexAt (a + l.length) (c :: u)).map (ws ++ ·) := by
  have hk := blank_kind c u hb
  induction l using lex_induct with
  | h0 =>
    intro a ws h
    obtain rfl : [] = ws := Option.some.inj h
    show lexAt a (c :: u) = Option.map _ (lexAt a (c :: u))
    cases lexAt a (c :: u) <;> simp
  | h1 l hne ih =>
    intro a ws h
    have hl : 0 < l.length := List.length_pos_iff.2 hne
    have hne2 : l ++ c :: u ≠ [] := by simp
    have hr : rune (l ++ c :: u) = rune l := by unfold rune; rw [dec_app l hne c hk.2 u]
    by_cases h3 : kindZ (rune l) = 3
    · rw [lexAt_blank a hne h3] at h
      rw [lexAt_blank a hne2 (by rw [hr]; exact h3), List.drop_append_of_le_length (by omega), ih _ (by rw [List.length_drop]; omega) _ _ h]
      rw [List.length_drop]; congr 2; omega
    · cases hf : firstL l with
      | none => rw [lexAt_none a hne h3 hf] at h; cases h
      | some t =>
        have hb1 := first_len hne hf
        rw [lexAt_tok a hne h3 hf] at h
        rw [lexAt_tok a hne2 (by rw [hr]; exact h3) (first_app hne hf c hb u), List.drop_append_of_le_length hb1.2.1]
        cases hx : lexAt (a + t.2.2) (l.drop t.2.2) with
        | none => rw [hx] at h; cases h
        | some vs =>
          rw [hx] at h
          rw [ih _ (by rw [List.length_drop]; omega) _ _ hx]
          obtain rfl := Option.some.inj h
          rw [List.length_drop, show a + t.2.2 + (l.length - t.2.2) = a + l.length by omega]
          cases lexAt (a + l.length) (c :: u) <;> rfl

/-! ### texts in quotation marks -/
theorem close_plain : ∀ (xs u : List UInt8) (i : Nat), (∀ x ∈ xs, x ≠ 34 ∧ x ≠ 92) → closeGo i false (xs ++ u) = closeGo (i + xs.length) false u
  | [], u, i, _ => rfl
  | x :: xs, u, i, h => by
    have hx := h x (by simp)
    have e1 : x.toNat ≠ 34 := fun e => hx.1 (UInt8.toNat_inj.1 e)
    have e2 : x.toNat ≠ 92 := fun e => hx.2 (UInt8.toNat_inj.1 e)
    rw [List.cons_append, closeGo, if_neg (by simp), if_neg e2, if_neg (fun h => e1 h.1), close_plain xs u _ fun y hy => h y (by simp [hy]), List.length_cons]
    congr 1; omega
theorem hexd_other : ∀ n, n < 16 → hexd n ≠ 34 ∧ hexd n ≠ 92 := by decide
theorem close_esc (i : Nat) (x : UInt8) (u : List UInt8) : closeGo i false (92 :: x :: u) = closeGo (i + 2) false u := by
  rw [closeGo, if_neg (by simp), if_pos (by decide), closeGo, if_pos rfl]
theorem close_chunk (t u : List UInt8) (hne : t ≠ []) (i : Nat) : closeGo i false (chunkQ t ++ u) = closeGo (i + (chunkQ t).length) false u := by
  rcases chunk_kinds t hne with ⟨_, e, _⟩ | ⟨_, e, _⟩ | ⟨_, e, _⟩ | ⟨_, _, e, _⟩ | ⟨⟨h1, h2, _⟩, _, e, _⟩
  · rw [e]; exact close_esc i _ u
  · rw [e]; exact close_esc i _ u
  · rw [e]; exact close_esc i _ u
  · rw [e]
    have g1 := hexd_other ((t.getD 0 0).toNat / 16) (by have := (t.getD 0 0).toNat_lt; omega)
    have g2 := hexd_other ((t.getD 0 0).toNat % 16) (by omega)
    show closeGo i false (92 :: 120 :: ([hexd _, hexd _] ++ u)) = _
    rw [close_esc, close_plain _ u _ (by intro x hx; simp at hx; rcases hx with rfl | rfl <;> assumption)]
    rfl
  · rw [e, close_plain _ u _ (encode_plain _ (by omega) (by omega))]
theorem close_body (s : List UInt8) : ∀ (u : List UInt8) (i : Nat), closeGo i false (bodyQ s ++ u) = closeGo (i + (bodyQ s).length) false u := by
  induction s using sufs_induct with
  | h0 => intro u i; rfl
  | h1 l hne ih =>
    intro u i
    rw [bodyQ_step l hne, List.append_assoc, close_chunk l _ hne, ih, List.length_append, Nat.add_assoc]
theorem quote_len (s : List UInt8) : (quoteL s).length = (bodyQ s).length + 2 := by unfold quoteL; simp
theorem close_quote (s u : List UInt8) : closeL (quoteL s ++ u) = (quoteL s).length := by
  rw [quote_len]
  show closeGo 0 false (34 :: (bodyQ s ++ [34] ++ u)) = _
  rw [closeGo, if_neg (by simp), if_neg (by decide), if_neg (by simp), List.append_assoc, close_body]
  show closeGo _ false (34 :: u) = _
  rw [closeGo, if_neg (by simp), if_neg (by decide), if_pos ⟨by decide, by omega⟩]
  omega
theorem rune_quote (u : List UInt8) : rune (34 :: u) = 34 := by unfold rune; rw [dec_ascii 34 u (by decide)]; rfl
theorem first_quote (s u : List UInt8) : firstL (quoteL s ++ u) = some (3, s, (quoteL s).length) := by
  have hr : rune (quoteL s ++ u) = 34 := rune_quote _
  unfold firstL
  rw [hr, if_neg (by decide), if_neg (by decide), if_pos rfl, close_quote, List.take_left, unquoteL_quote]
theorem lexAt_quote (a : Nat) (s u : List UInt8) : lexAt a (quoteL s ++ u) = (lexAt (a + (quoteL s).length) u).map ((3, a, s) :: ·) := by
  have hr : rune (quoteL s ++ u) = 34 := rune_quote _
  rw [lexAt_tok a (by unfold quoteL; simp) (by rw [hr]; decide) (first_quote s u)]
  show Option.map _ (lexAt (a + (quoteL s).length) ((quoteL s ++ u).drop (quoteL s).length)) = _
  rw [List.drop_left]
/-- LexStrings, plain. -/
theorem strings_one (s : List UInt8) : lexL (quoteL s) = some [(3, 0, s)] := by
  have := lexAt_quote 0 s []
  rw [List.append_nil] at this
  rw [lexL_at, this]; rfl
theorem strings_more (s more : List UInt8) : lexL (quoteL s ++ 32 :: more) = (lexL more).map fun ws => (3, 0, s) :: ws.map (shiftW ((quoteL s).length + 1)) := by
  rw [lexL_at, lexAt_quote, lexAt_blank _ (by simp) (blank_kind 32 _ (by decide)).1, List.drop_one, List.tail_cons, Nat.zero_add, lexL_at]
  have := lexAt_shift more 0 ((quoteL s).length + 1)
  rw [Nat.zero_add] at this
  rw [this]
  cases lexAt 0 more <;> rfl
/-- LexBlanks, plain. -/
theorem blanks_all (g s t : List UInt8) (hg : ∀ c ∈ g, blankB c = true) (hne : g ≠ []) (a b : List Wd) (ha : lexL s = some a) (hb : lexL t = some b) :
    lexL (g ++ s ++ g ++ t ++ g) = some (a.map (shiftW g.length) ++ b.map (shiftW (2 * g.length + s.length))) := by
  obtain ⟨c, v, rfl⟩ : ∃ c v, g = c :: v := by cases g with | nil => exact absurd rfl hne | cons c v => exact ⟨c, v, rfl⟩
  have hc := hg c (by simp)
  obtain ⟨n, hn⟩ : ∃ n, (c :: v).length = n := ⟨_, rfl⟩
  have hs : lexAt n s = some (a.map (shiftW n)) := by
    have := lexAt_shift s 0 n; rw [Nat.zero_add] at this; rw [this, ← lexL_at, ha]; rfl
  have ht : lexAt (2 * n + s.length) t = some (b.map (shiftW (2 * n + s.length))) := by
    have := lexAt_shift t 0 (2 * n + s.length); rw [Nat.zero_add] at this; rw [this, ← lexL_at, hb]; rfl
  rw [lexL_at, List.append_assoc, List.append_assoc, List.append_assoc, lexAt_gap _ _ _ hg, Nat.zero_add, hn]
  rw [List.cons_append, lexAt_app c hc _ s _ _ hs, ← List.cons_append, lexAt_gap _ _ _ hg, hn]
  rw [show n + s.length + n = 2 * n + s.length by omega, lexAt_app c hc v t _ _ ht]
  have e : lexAt (2 * n + s.length + t.length) (c :: v) = some [] := by
    have := lexAt_gap (c :: v) (2 * n + s.length + t.length) [] hg
    rw [List.append_nil] at this; rw [this]; rfl
  rw [e]; simp
end Go.Proofs.YtphkodkenkiecaaGreatDoor
