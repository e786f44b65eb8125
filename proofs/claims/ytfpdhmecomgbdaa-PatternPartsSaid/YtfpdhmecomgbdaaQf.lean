/- Patterns, plain: patterns put together are read as their parts are; dots, classes, texts behind backslashes. No program in it. -/
import Derived.Test.YtfpdhmecomgbdaaQe
namespace Go.Proofs.Ytfpdhmecomgbdaa

theorem atB_app {l : List Sg} (h : l ≠ []) (m : List Sg) (r : Int) : atB (l ++ m) r = atB l r := by
  cases l with
  | nil => exact absurd rfl h
  | cons s t => rfl
theorem atB_ne {l : List Sg} {r : Int} (h : atB l r = true) : l ≠ [] := by
  rintro rfl; simp [atB] at h
theorem tail_app {l : List Sg} (h : l ≠ []) (m : List Sg) : (l ++ m).tail = l.tail ++ m := by
  cases l with
  | nil => exact absurd rfl h
  | cons s t => rfl
theorem itemF_app {s : Sg} {t m : List Sg} (h : t = [] ∨ atB t 45 = false ∨ 2 ≤ t.length) : itemF (s :: t ++ m) = ((itemF (s :: t)).1, (itemF (s :: t)).2 ++ m) ∨ t = [] := by
  rcases h with h | h | h
  · exact .inr h
  · by_cases h0 : t = []
    · exact .inr h0
    · refine .inl ?_
      show itemF (s :: (t ++ m)) = _
      unfold itemF
      dsimp only
      rw [atB_app h0, h]
      rfl
  · refine .inl ?_
    have h0 : t ≠ [] := by rintro rfl; simp at h
    have h1 : t.tail ≠ [] := by
      cases t with
      | nil => simp at h
      | cons a b => cases b with
        | nil => simp at h
        | cons c d => simp
    show itemF (s :: (t ++ m)) = _
    unfold itemF
    dsimp only
    rw [atB_app h0, tail_app h0, atB_app h1, tail_app h1]
    have hl : decide (2 ≤ (t ++ m).length) = decide (2 ≤ t.length) := by simp; omega
    have hh : (t.tail ++ m).headD (0, false) = t.tail.headD (0, false) := by
      cases ht : t.tail with
      | nil => exact absurd ht h1
      | cons a b => rfl
    rw [hl, hh]
    split <;> rfl
theorem itemsP_app (m : List Sg) : ∀ (n : Nat) (l : List Sg) (acc xs : List (Int × Int)) (k : List Sg), l.length ≤ n → itemsP l acc = some (xs, k) → atB k 93 = true → itemsP (l ++ m) acc = some (xs, k ++ m)
  | 0, l, acc, xs, k, hl, h, hk => by
    have : l = [] := List.eq_nil_of_length_eq_zero (by omega)
    subst this
    rw [itemsP_eq] at h
    simp at h
    obtain ⟨_, rfl⟩ := h
    simp [atB] at hk
  | n + 1, l, acc, xs, k, hl, h, hk => by
    cases l with
    | nil =>
      rw [itemsP_eq] at h
      simp at h
      obtain ⟨_, rfl⟩ := h
      simp [atB] at hk
    | cons s t =>
      rw [itemsP_eq] at h
      by_cases h93 : atB (s :: t) 93 = true
      · rw [h93] at h
        simp at h
        obtain ⟨rfl, rfl⟩ := h
        rw [itemsP_eq, atB_app (by simp), h93]
        simp
      · have h93' : atB (s :: t) 93 = false := by simpa using h93
        rw [h93'] at h
        simp only [List.isEmpty_cons, Bool.or_false, Bool.false_eq_true, if_false] at h
        split at h
        · cases h
        · rename_i hlt
          have hne : ∀ u : List Sg, itemsP u (acc ++ [(itemF (s :: t)).1]) = some (xs, k) → u ≠ [] := by
            rintro u hu rfl
            rw [itemsP_eq] at hu
            simp at hu
            obtain ⟨_, rfl⟩ := hu
            simp [atB] at hk
          have hrest := hne _ h
          have hcase : t = [] ∨ atB t 45 = false ∨ 2 ≤ t.length := by
            by_cases h0 : t = []
            · exact .inl h0
            · by_cases h45 : atB t 45 = true
              · refine .inr (.inr ?_)
                apply Classical.byContradiction
                intro hc
                have hlen : t.length = 1 := by
                  have : 0 < t.length := List.length_pos_iff.2 h0
                  omega
                obtain ⟨q, rfl⟩ := List.length_eq_one_iff.1 hlen
                have e1 : itemF [s, q] = ((s.1, s.1), [q]) := by unfold itemF; simp
                rw [e1] at h
                rw [itemsP_eq] at h
                have hq : q.1 = 45 := by simp [atB] at h45; exact h45.1
                have h9 : atB [q] 93 = false := by simp [atB, hq]
                rw [h9] at h
                simp only [List.isEmpty_cons, Bool.or_false, Bool.false_eq_true, if_false] at h
                have e2 : itemF [q] = ((q.1, q.1), []) := by unfold itemF; simp [atB]
                rw [e2] at h
                simp only [Int.lt_irrefl, if_false] at h
                rw [itemsP_eq] at h
                simp at h
                obtain ⟨_, rfl⟩ := h
                simp [atB] at hk
              · exact .inr (.inl (by simpa using h45))
          rcases itemF_app (m := m) hcase with e | e
          · rw [itemsP_eq, atB_app (by simp), h93', e]
            simp only [List.cons_append, List.isEmpty_cons, Bool.or_false, Bool.false_eq_true, if_false, if_neg hlt]
            exact itemsP_app m n _ _ _ _ (by have := itemF_lt (s :: t) (by simp); simp at hl this; omega) h hk
          · subst e
            exact absurd (by unfold itemF; simp [atB]) hrest
theorem classP_app {l m : List Sg} {x : Pt} {k : List Sg} (h : classP l = some (x, k)) : classP (l ++ m) = some (x, k ++ m) := by
  have hne : l ≠ [] := by
    rintro rfl
    unfold classP takeB at h
    simp only [atB, Bool.false_eq_true, if_false] at h
    rw [itemsP_eq] at h
    simp [atB] at h
  unfold classP at h ⊢
  have ht : takeB (l ++ m) 94 = takeB l 94 ++ m := by
    unfold takeB
    rw [atB_app hne, tail_app hne]
    split <;> rfl
  rw [ht, atB_app hne]
  split at h
  · cases h
  · rename_i items q hq
    split at h
    · rename_i hc
      rw [Bool.and_eq_true] at hc
      injection h with h
      injection h with h1 h2
      subst h1; subst h2
      rw [itemsP_app m _ _ _ _ _ (Nat.le_refl _) hq hc.1]
      dsimp only
      rw [atB_app (atB_ne hc.1), hc.1, tail_app (atB_ne hc.1), if_pos (by simpa using hc.2)]
    · cases h

/-- A suffix that begins with a bare bracket. -/
def Shut (m : List Sg) : Prop := ∀ r, atB m r = (r == 41)
theorem shut_cons (m : List Sg) : Shut ((41, true) :: m) := by
  intro r
  unfold atB
  simp only [Bool.and_true]
  rw [Bool.eq_iff_iff, beq_iff_eq, beq_iff_eq]
  exact eq_comm
theorem Shut.at_app {m : List Sg} (hm : Shut m) (l : List Sg) {r : Int} (hr : (r == 41) = false) : atB (l ++ m) r = atB l r := by
  cases l with
  | nil => rw [List.nil_append, hm r, hr]; rfl
  | cons s t => rfl
theorem Shut.timesR {m : List Sg} (hm : Shut m) (l : List Sg) : timesR (l ++ m) = timesR l ++ m := by
  unfold Go.Proofs.Ytfpdhmecomgbdaa.timesR
  rw [hm.at_app l (by decide), hm.at_app l (by decide), hm.at_app l (by decide)]
  split
  · rename_i h
    have hne : l ≠ [] := by rintro rfl; simp [atB] at h
    exact tail_app hne m
  · rfl
theorem Shut.timesF {m : List Sg} (hm : Shut m) (x : Pt) (l : List Sg) : timesF x (l ++ m) = timesF x l := by
  unfold Go.Proofs.Ytfpdhmecomgbdaa.timesF
  rw [hm.at_app l (by decide), hm.at_app l (by decide), hm.at_app l (by decide)]
theorem Shut.stop {m : List Sg} (hm : Shut m) (hne : m ≠ []) {l : List Sg} : stopB (l ++ m) = stopB l := by
  cases l with
  | nil =>
    unfold stopB
    rw [List.nil_append, hm 124, hm 41]
    simp
  | cons s t => rfl
theorem go_app (m : List Sg) (hm : Shut m) (hne : m ≠ []) : ∀ (n : Nat),
    (∀ (l : List Sg) (acc c : List Pt) (k : List Sg), choiceGo n l acc = some (c, k) → choiceGo n (l ++ m) acc = some (c, k ++ m)) ∧
    (∀ (l : List Sg) (acc c : List Pt) (k : List Sg), chainGo n l acc = some (c, k) → chainGo n (l ++ m) acc = some (c, k ++ m)) ∧
    (∀ (l : List Sg) (x : Pt) (k : List Sg), atomGo n l = some (x, k) → atomGo n (l ++ m) = some (x, k ++ m))
  | 0 => ⟨fun _ _ _ _ h => by simp [choiceGo] at h, fun _ _ _ _ h => by simp [chainGo] at h, fun _ _ _ h => by simp [atomGo] at h⟩
  | n + 1 => by
    obtain ⟨i1, i2, i3⟩ := go_app m hm hne n
    refine ⟨?_, ?_, ?_⟩
    · intro l acc c k h
      rw [choiceGo] at h ⊢
      cases hd : chainGo n l [] with
      | none => rw [hd] at h; cases h
      | some p =>
        obtain ⟨d, q⟩ := p
        rw [hd] at h
        rw [i2 _ _ _ _ hd]
        dsimp only at h ⊢
        rw [hm.at_app q (by decide)]
        by_cases hb : atB q 124 = true
        · rw [if_pos hb] at h ⊢
          rw [tail_app (atB_ne hb)]
          exact i1 _ _ _ _ h
        · rw [if_neg hb] at h ⊢
          injection h with h
          injection h with h1 h2
          subst h1; subst h2
          rfl
    · intro l acc c k h
      rw [chainGo] at h ⊢
      rw [hm.stop hne]
      by_cases hs : stopB l = true
      · rw [if_pos hs] at h ⊢
        injection h with h
        injection h with h1 h2
        subst h1; subst h2
        rfl
      · rw [if_neg hs] at h ⊢
        cases hd : atomGo n l with
        | none => rw [hd] at h; cases h
        | some p =>
          obtain ⟨x, q⟩ := p
          rw [hd] at h
          rw [i3 _ _ _ hd]
          dsimp only at h ⊢
          rw [hm.timesR, hm.timesF]
          exact i2 _ _ _ _ h
    · intro l x k h
      rw [atomGo] at h ⊢
      by_cases h0 : l = []
      · subst h0
        simp [atB, litP] at h
      rw [atB_app h0, atB_app h0, atB_app h0, tail_app h0]
      by_cases h40 : atB l 40 = true
      · rw [if_pos h40] at h ⊢
        cases hd : choiceGo n l.tail [] with
        | none => rw [hd] at h; cases h
        | some p =>
          obtain ⟨d, q⟩ := p
          rw [hd] at h
          rw [i1 _ _ _ _ hd]
          dsimp only at h ⊢
          by_cases hb : atB q 41 = true
          · rw [if_pos hb] at h
            rw [atB_app (atB_ne hb), if_pos hb, tail_app (atB_ne hb)]
            injection h with h
            injection h with h1 h2
            subst h1; subst h2
            rfl
          · rw [if_neg hb] at h; cases h
      · rw [if_neg h40] at h ⊢
        by_cases h91 : atB l 91 = true
        · rw [if_pos h91] at h ⊢
          exact classP_app h
        · rw [if_neg h91] at h ⊢
          by_cases h46 : atB l 46 = true
          · rw [if_pos h46] at h ⊢
            injection h with h
            injection h with h1 h2
            subst h1; subst h2
            rfl
          · rw [if_neg h46] at h ⊢
            cases l with
            | nil => exact absurd rfl h0
            | cons s t =>
              unfold litP at h ⊢
              dsimp only [List.cons_append] at h ⊢
              split at h
              · cases h
              · rename_i hc
                rw [if_neg hc]
                injection h with h
                injection h with h1 h2
                subst h1; subst h2
                rfl
/-- A pattern in brackets, with something behind. -/
theorem choiceP_app {l m : List Sg} {c : List Pt} {k : List Sg} (h : choiceP l [] = some (c, k)) (hm : Shut m) (hne : m ≠ []) : choiceP (l ++ m) [] = some (c, k ++ m) := by
  have := (go_app m hm hne (3 * l.length + 3)).1 l [] c k h
  have h2 : choiceP (l ++ m) [] = choiceGo (3 * (l ++ m).length + 3) (l ++ m) [] := rfl
  rw [h2]
  -- more fuel gives the same
  have mono : ∀ (n : Nat), (∀ (l : List Sg) (acc : List Pt) (r : List Pt × List Sg), choiceGo n l acc = some r → choiceGo (n + 1) l acc = some r) ∧ (∀ (l : List Sg) (acc : List Pt) (r : List Pt × List Sg), chainGo n l acc = some r → chainGo (n + 1) l acc = some r) ∧ (∀ (l : List Sg) (r : Pt × List Sg), atomGo n l = some r → atomGo (n + 1) l = some r) := by
    intro n
    induction n with
    | zero => exact ⟨fun _ _ _ h => by simp [choiceGo] at h, fun _ _ _ h => by simp [chainGo] at h, fun _ _ h => by simp [atomGo] at h⟩
    | succ n ih =>
      obtain ⟨i1, i2, i3⟩ := ih
      refine ⟨?_, ?_, ?_⟩
      · intro l acc r h
        rw [choiceGo] at h
        rw [choiceGo]
        cases hd : chainGo n l [] with
        | none => rw [hd] at h; cases h
        | some p =>
          rw [hd] at h
          rw [i2 _ _ _ hd]
          obtain ⟨d, q⟩ := p
          dsimp only at h ⊢
          split at h
          · rename_i hb; rw [if_pos hb]; exact i1 _ _ _ h
          · rename_i hb; rw [if_neg hb]; exact h
      · intro l acc r h
        rw [chainGo] at h
        rw [chainGo]
        split at h
        · rename_i hb; rw [if_pos hb]; exact h
        · rename_i hb
          rw [if_neg hb]
          cases hd : atomGo n l with
          | none => rw [hd] at h; cases h
          | some p =>
            rw [hd] at h
            rw [i3 _ _ hd]
            obtain ⟨d, q⟩ := p
            exact i2 _ _ _ h
      · intro l r h
        rw [atomGo] at h
        rw [atomGo]
        split at h
        · rename_i hb
          rw [if_pos hb]
          cases hd : choiceGo n l.tail [] with
          | none => rw [hd] at h; cases h
          | some p => rw [hd] at h; rw [i1 _ _ _ hd]; exact h
        · rename_i hb; rw [if_neg hb]; exact h
  have up : ∀ (d n : Nat) (l : List Sg) (r : List Pt × List Sg), choiceGo n l [] = some r → choiceGo (n + d) l [] = some r := by
    intro d
    induction d with
    | zero => intro n l r h; exact h
    | succ d ih => intro n l r h; exact (mono (n + d)).1 l [] r (ih n l r h)
  have e : 3 * (l ++ m).length + 3 = (3 * l.length + 3) + 3 * m.length := by rw [List.length_append]; omega
  rw [e]
  exact up _ _ _ _ this

/-! ### signs of texts put together -/
theorem signs_app : ∀ (b : Bool) (l1 l2 : List Int), signsGo b (l1 ++ l2) = signsGo b l1 ++ signsGo (endsGo b l1) l2
  | b, [], l2 => by simp [signsGo, endsGo]
  | b, r :: l1, l2 => by
    rw [List.cons_append, signsGo, signsGo, endsGo]
    by_cases h : (r == 92 && !b) = true
    · rw [if_pos h, if_pos h, if_pos h]; exact signs_app true l1 l2
    · rw [if_neg h, if_neg h, if_neg h, signs_app false l1 l2]; rfl
theorem ends_app : ∀ (b : Bool) (l1 l2 : List Int), endsGo b (l1 ++ l2) = endsGo (endsGo b l1) l2
  | b, [], l2 => by simp [endsGo]
  | b, r :: l1, l2 => by
    rw [List.cons_append, endsGo, endsGo]
    split
    · exact ends_app true l1 l2
    · exact ends_app false l1 l2
/-- What a pattern's own parts are. -/
theorem readP_open {rs : List Int} {x : Pt} (h : readP rs = some x) : ∃ c, x = .choice c ∧ endsGo false rs = false ∧ choiceP (signsGo false rs) [] = some (c, []) := by
  unfold readP at h
  split at h
  · cases h
  · rename_i he
    split at h
    · cases h
    · rename_i c m hm
      split at h
      · rename_i hmm
        injection h with h
        have : m = [] := by simpa using hmm
        subst this
        exact ⟨c, h.symm, by simpa using he, hm⟩
      · cases h
theorem readP_make {rs : List Int} {c : List Pt} (he : endsGo false rs = false) (hc : choiceP (signsGo false rs) [] = some (c, [])) : readP rs = some (.choice c) := by
  unfold readP
  rw [he, hc]
  rfl
theorem sign_one {r : Int} (hr : r ≠ 92) (l : List Int) : signsGo false (r :: l) = (r, true) :: signsGo false l := by
  rw [signsGo, if_neg (by simp; exact hr)]; rfl
theorem end_one {r : Int} (hr : r ≠ 92) (l : List Int) : endsGo false (r :: l) = endsGo false l := by
  rw [endsGo, if_neg (by simp; exact hr)]
theorem at_cons (r q : Int) (m : List Sg) : atB ((r, true) :: m) q = (r == q) := by unfold atB; simp
/-- A group: '(' the pattern ')', and what stands behind. -/
theorem atom_group {l m : List Sg} {c : List Pt} (h : choiceP l [] = some (c, [])) : atomP ((40, true) :: l ++ (41, true) :: m) = some (.choice c, m) := by
  rw [atomP_eq]
  rw [List.cons_append, at_cons]
  simp only [beq_self_eq_true, if_true, List.tail_cons]
  rw [choiceP_app h (shut_cons m) (by simp)]
  simp only [List.nil_append]
  rw [at_cons]
  rfl
theorem group_stop (l : List Sg) : stopB ((40, true) :: l) = false := by
  unfold stopB
  rw [at_cons, at_cons]
  rfl
theorem timesR_none {m : List Sg} (h : atB m 42 = false ∧ atB m 43 = false ∧ atB m 63 = false) : timesR m = m := by unfold timesR; rw [h.1, h.2.1, h.2.2]; rfl
theorem timesF_none {m : List Sg} (x : Pt) (h : atB m 42 = false ∧ atB m 43 = false ∧ atB m 63 = false) : timesF x m = x := by unfold timesF; rw [h.1, h.2.1, h.2.2]; rfl
theorem chain_nil (acc : List Pt) : chainP [] acc = some (acc, []) := by rw [chainP_eq]; rfl
theorem choice_chain {l : List Sg} {c : List Pt} (acc : List Pt) (h : chainP l [] = some (c, [])) : choiceP l acc = some (acc ++ [.chain c], []) := by
  rw [choiceP_eq, h]; rfl
/-- '(p)(q)' -/
theorem read_both {rp rq : List Int} {a b : List Pt} (hp : readP rp = some (.choice a)) (hq : readP rq = some (.choice b)) : readP (40 :: rp ++ (41 :: 40 :: rq ++ [41])) = some (.choice [.chain [.choice a, .choice b]]) := by
  obtain ⟨c, e, p1, p2⟩ := readP_open hp
  injection e with e; subst e
  obtain ⟨d, e, q1, q2⟩ := readP_open hq
  injection e with e; subst e
  refine readP_make ?_ ?_
  · rw [List.cons_append, end_one (by decide), ends_app, p1, List.cons_append, end_one (by decide), List.cons_append, end_one (by decide), ends_app, q1, end_one (by decide)]; rfl
  · rw [List.cons_append, sign_one (by decide), signs_app, p1, List.cons_append, sign_one (by decide), List.cons_append, sign_one (by decide), signs_app, q1, sign_one (by decide)]
    have h2 : chainP ((40, true) :: (signsGo false rq ++ (41, true) :: signsGo false [])) ([] ++ [.choice a]) = some ([] ++ [.choice a] ++ [.choice b], []) := by
      rw [chainP_eq, group_stop]
      have := atom_group (m := []) q2
      rw [List.cons_append] at this
      simp only [signsGo, Bool.false_eq_true, if_false]
      rw [this]
      dsimp only
      rw [timesR_none (by simp [atB]), timesF_none _ (by simp [atB]), chain_nil]
    refine choice_chain [] ?_
    rw [chainP_eq, group_stop]
    have := atom_group (m := (40, true) :: (signsGo false rq ++ (41, true) :: signsGo false [])) p2
    rw [List.cons_append] at this
    simp only [Bool.false_eq_true, if_false]
    rw [this]
    dsimp only
    rw [timesR_none (by simp [atB]), timesF_none _ (by simp [atB]), h2]
    rfl
/-- '(p)|(q)' -/
theorem read_either {rp rq : List Int} {a b : List Pt} (hp : readP rp = some (.choice a)) (hq : readP rq = some (.choice b)) : readP (40 :: rp ++ (41 :: 124 :: 40 :: rq ++ [41])) = some (.choice [.chain [.choice a], .chain [.choice b]]) := by
  obtain ⟨c, e, p1, p2⟩ := readP_open hp
  injection e with e; subst e
  obtain ⟨d, e, q1, q2⟩ := readP_open hq
  injection e with e; subst e
  refine readP_make ?_ ?_
  · rw [List.cons_append, end_one (by decide), ends_app, p1, List.cons_append, end_one (by decide), List.cons_append, end_one (by decide), List.cons_append, end_one (by decide), ends_app, q1, end_one (by decide)]; rfl
  · rw [List.cons_append, sign_one (by decide), signs_app, p1, List.cons_append, sign_one (by decide), List.cons_append, sign_one (by decide), List.cons_append, sign_one (by decide), signs_app, q1, sign_one (by decide)]
    have h2 : chainP ((40, true) :: (signsGo false rq ++ (41, true) :: signsGo false [])) [] = some ([.choice b], []) := by
      rw [chainP_eq, group_stop]
      have := atom_group (m := []) q2
      rw [List.cons_append] at this
      simp only [signsGo, Bool.false_eq_true, if_false]
      rw [this]
      dsimp only
      rw [timesR_none (by simp [atB]), timesF_none _ (by simp [atB]), chain_nil]
      rfl
    have h1 : chainP ((40, true) :: (signsGo false rp ++ (41, true) :: (124, true) :: (40, true) :: (signsGo false rq ++ (41, true) :: signsGo false []))) [] = some ([.choice a], (124, true) :: (40, true) :: (signsGo false rq ++ (41, true) :: signsGo false [])) := by
      rw [chainP_eq, group_stop]
      have := atom_group (m := (124, true) :: (40, true) :: (signsGo false rq ++ (41, true) :: signsGo false [])) p2
      rw [List.cons_append] at this
      simp only [Bool.false_eq_true, if_false]
      rw [this]
      dsimp only
      rw [timesR_none (by simp [atB]), timesF_none _ (by simp [atB]), chainP_eq]
      have : stopB ((124, true) :: (40, true) :: (signsGo false rq ++ (41, true) :: signsGo false [])) = true := by unfold stopB; rw [at_cons]; rfl
      rw [this]
      rfl
    rw [choiceP_eq, h1]
    dsimp only
    rw [at_cons]
    simp only [beq_self_eq_true, if_true, List.tail_cons]
    exact choice_chain _ h2
/-- '(p)' and a sign of how often. -/
theorem read_often {rp : List Int} {a : List Pt} (hp : readP rp = some (.choice a)) (q : Int) (u v : Bool) (hq : (q = 42 ∧ u = true ∧ v = true) ∨ (q = 43 ∧ u = false ∧ v = true) ∨ (q = 63 ∧ u = true ∧ v = false)) : readP (40 :: rp ++ [41, q]) = some (.choice [.chain [.times (.choice a) u v]]) := by
  obtain ⟨c, e, p1, p2⟩ := readP_open hp
  injection e with e; subst e
  have hq92 : q ≠ 92 := by rcases hq with ⟨rfl, _⟩ | ⟨rfl, _⟩ | ⟨rfl, _⟩ <;> decide
  refine readP_make ?_ ?_
  · rw [List.cons_append, end_one (by decide), ends_app, p1, end_one (by decide), end_one hq92]; rfl
  · rw [List.cons_append, sign_one (by decide), signs_app, p1, sign_one (by decide), sign_one hq92]
    refine choice_chain [] ?_
    rw [chainP_eq, group_stop]
    have := atom_group (m := (q, true) :: signsGo false []) p2
    rw [List.cons_append] at this
    simp only [Bool.false_eq_true, if_false]
    rw [this]
    dsimp only
    have e1 : timesR ((q, true) :: signsGo false []) = [] := by
      unfold timesR; rw [at_cons, at_cons, at_cons]
      rcases hq with ⟨rfl, _⟩ | ⟨rfl, _⟩ | ⟨rfl, _⟩ <;> rfl
    have e2 : timesF (.choice a) ((q, true) :: signsGo false []) = .times (.choice a) u v := by
      unfold timesF; rw [at_cons, at_cons, at_cons]
      rcases hq with ⟨rfl, rfl, rfl⟩ | ⟨rfl, rfl, rfl⟩ | ⟨rfl, rfl, rfl⟩ <;> rfl
    rw [e1, e2, chain_nil]
    rfl

/-! ### what they say -/
theorem lang_one {x : Pt} {s : List Int} : Lang (.choice [.chain [x]]) s ↔ Lang x s := by
  simp only [Lang, LangAny, LangSeq, or_false]
  constructor
  · rintro ⟨u, v, rfl, h, rfl⟩; simpa using h
  · intro h; exact ⟨s, [], by simp, h, rfl⟩
theorem lang_both {x y : Pt} {s : List Int} : Lang (.choice [.chain [x, y]]) s ↔ ∃ u v, s = u ++ v ∧ Lang x u ∧ Lang y v := by
  simp only [Lang, LangAny, LangSeq, or_false]
  constructor
  · rintro ⟨u, v, rfl, h, a, b, rfl, k, rfl⟩; exact ⟨u, a, by simp, h, k⟩
  · rintro ⟨u, v, rfl, h, k⟩; exact ⟨u, v, rfl, h, v, [], by simp, k, rfl⟩
theorem lang_either {x y : Pt} {s : List Int} : Lang (.choice [.chain [x], .chain [y]]) s ↔ Lang x s ∨ Lang y s := by
  simp only [Lang, LangAny, LangSeq, or_false]
  constructor
  · rintro (⟨u, v, rfl, h, rfl⟩ | ⟨u, v, rfl, h, rfl⟩)
    · exact .inl (by simpa using h)
    · exact .inr (by simpa using h)
  · rintro (h | h)
    · exact .inl ⟨s, [], by simp, h, rfl⟩
    · exact .inr ⟨s, [], by simp, h, rfl⟩
theorem lang_star {x : Pt} {s : List Int} : Lang (.choice [.chain [.times x true true]]) s ↔ s = [] ∨ Plus (Lang x) s := by
  rw [lang_one]
  simp only [Lang]
  constructor
  · rintro (⟨_, rfl⟩ | h | ⟨_, h⟩)
    · exact .inl rfl
    · exact .inr (.one h)
    · exact .inr h
  · rintro (rfl | h)
    · exact .inl ⟨trivial, rfl⟩
    · exact .inr (.inr ⟨trivial, h⟩)
theorem lang_plus {x : Pt} {s : List Int} : Lang (.choice [.chain [.times x false true]]) s ↔ Plus (Lang x) s := by
  rw [lang_one]
  simp only [Lang]
  constructor
  · rintro (⟨h, _⟩ | h | ⟨_, h⟩)
    · cases h
    · exact .one h
    · exact h
  · intro h
    exact .inr (.inr ⟨trivial, h⟩)
theorem lang_maybe {x : Pt} {s : List Int} : Lang (.choice [.chain [.times x true false]]) s ↔ s = [] ∨ Lang x s := by
  rw [lang_one]
  simp only [Lang]
  constructor
  · rintro (⟨_, rfl⟩ | h | ⟨h, _⟩)
    · exact .inl rfl
    · exact .inr h
    · cases h
  · rintro (rfl | h)
    · exact .inl ⟨trivial, rfl⟩
    · exact .inr (.inl h)
theorem plus_nil {P : List Int → Prop} : Plus P [] ↔ P [] := by
  constructor
  · intro h
    have : ∀ s, Plus P s → s = [] → P [] := by
      intro s hs
      induction hs with
      | one h => intro e; exact e ▸ h
      | more h _ _ => intro e; have := (List.append_eq_nil_iff.1 e).1; exact this ▸ h
    exact this [] h rfl
  · exact .one

/-! ### dots, runes behind backslashes, a class -/
theorem dots_sign (n : Nat) : signsGo false (List.replicate n 46) = List.replicate n (46, true) ∧ endsGo false (List.replicate n 46) = false := by
  induction n with
  | zero => exact ⟨rfl, rfl⟩
  | succ n ih => rw [List.replicate_succ, List.replicate_succ, sign_one (by decide), end_one (by decide), ih.1]; exact ⟨rfl, ih.2⟩
theorem dots_chain : ∀ (n : Nat) (acc : List Pt), chainP (List.replicate n (46, true)) acc = some (acc ++ List.replicate n .dot, [])
  | 0, acc => by rw [List.replicate_zero, chain_nil]; simp
  | n + 1, acc => by
    rw [List.replicate_succ, chainP_eq]
    have hs : stopB ((46, true) :: List.replicate n (46, true)) = false := by unfold stopB; rw [at_cons, at_cons]; rfl
    have ha : atomP ((46, true) :: List.replicate n (46, true)) = some (.dot, List.replicate n (46, true)) := by
      rw [atomP_eq, at_cons, at_cons, at_cons]; rfl
    rw [hs, ha]
    simp only [Bool.false_eq_true, if_false]
    have hn : ∀ q, (46 == q) = false → atB (List.replicate n (46, true)) q = false := by
      intro q hq
      cases n with
      | zero => rfl
      | succ k => rw [List.replicate_succ, at_cons]; exact hq
    have h3 : atB (List.replicate n (46, true)) 42 = false ∧ atB (List.replicate n (46, true)) 43 = false ∧ atB (List.replicate n (46, true)) 63 = false := ⟨hn 42 (by decide), hn 43 (by decide), hn 63 (by decide)⟩
    rw [timesR_none h3, timesF_none _ h3, dots_chain n]
    simp [List.replicate_succ]
theorem read_dots (n : Nat) : readP (List.replicate n 46) = some (.choice [.chain (List.replicate n .dot)]) := by
  obtain ⟨h1, h2⟩ := dots_sign n
  refine readP_make h2 ?_
  rw [h1]
  have := choice_chain [] (dots_chain n [])
  simpa using this
theorem lang_dots (n : Nat) (s : List Int) : Lang (.choice [.chain (List.replicate n .dot)]) s ↔ s.length = n := by
  simp only [Lang, LangAny, or_false]
  induction n generalizing s with
  | zero => simp [LangSeq]
  | succ n ih =>
    rw [List.replicate_succ, LangSeq]
    constructor
    · rintro ⟨u, v, rfl, hu, hv⟩
      rw [Lang] at hu
      obtain ⟨r, rfl, _⟩ := hu
      have := (ih v).1 hv
      simp; omega
    · intro h
      cases s with
      | nil => simp at h
      | cons r t => exact ⟨[r], t, rfl, by rw [Lang]; exact ⟨r, rfl, rfl⟩, (ih t).2 (by simpa using h)⟩
theorem beg_of {x : Pt} {rs : List Int} {n : Nat} (h : ∀ k, k ≤ rs.length → (Lang x (rs.take k) ↔ k = n)) : begF (layF x ⟨[], []⟩) rs = if n ≤ rs.length then (n : Int) else -1 := by
  obtain ⟨h1, h2, h3⟩ := beg_law (layF x ⟨[], []⟩) rs
  by_cases hn : n ≤ rs.length
  · rw [if_pos hn]
    have hw := (h3 n hn).1 ((whole_lang x _).2 ((h n hn).2 rfl))
    obtain ⟨k, hk⟩ := Int.eq_ofNat_of_zero_le (show (0 : Int) ≤ begF (layF x ⟨[], []⟩) rs by omega)
    have := (h k (by omega)).1 ((whole_lang x _).1 ((h3 k (by omega)).2 hk))
    omega
  · rw [if_neg hn]
    apply Classical.byContradiction
    intro hc
    obtain ⟨k, hk⟩ := Int.eq_ofNat_of_zero_le (show (0 : Int) ≤ begF (layF x ⟨[], []⟩) rs by omega)
    have := (h k (by omega)).1 ((whole_lang x _).1 ((h3 k (by omega)).2 hk))
    omega
theorem esc_sign : ∀ (l : List Int), signsGo false (l.flatMap fun r => [92, r]) = l.map (fun r => (r, false)) ∧ endsGo false (l.flatMap fun r => [92, r]) = false
  | [] => ⟨rfl, rfl⟩
  | r :: l => by
    obtain ⟨h1, h2⟩ := esc_sign l
    rw [List.flatMap_cons, List.map_cons]
    constructor
    · show signsGo false (92 :: r :: _) = _
      rw [signsGo, if_pos (by decide), signsGo, if_neg (by simp)]
      show (r, !true) :: signsGo false (l.flatMap fun r => [92, r]) = _
      rw [h1]; rfl
    · show endsGo false (92 :: r :: _) = _
      rw [endsGo, if_pos (by decide), endsGo, if_neg (by simp)]
      exact h2
theorem at_esc (l : List Int) (q : Int) : atB (l.map (fun r => (r, false))) q = false := by
  cases l with
  | nil => rfl
  | cons r l => simp [atB]
theorem esc_chain : ∀ (l : List Int) (acc : List Pt), chainP (l.map (fun r => (r, false))) acc = some (acc ++ l.map Pt.only, [])
  | [], acc => by rw [List.map_nil, chain_nil]; simp
  | r :: l, acc => by
    rw [chainP_eq]
    have hs : stopB ((r :: l).map (fun r => (r, false))) = false := by unfold stopB; rw [at_esc, at_esc]; rfl
    have ha : atomP ((r :: l).map (fun r => (r, false))) = some (.only r, l.map (fun r => (r, false))) := by
      rw [atomP_eq, at_esc, at_esc, at_esc]; rfl
    rw [hs, ha]
    simp only [Bool.false_eq_true, if_false]
    have h3 := (⟨at_esc l 42, at_esc l 43, at_esc l 63⟩ : atB (l.map (fun r => (r, false))) 42 = false ∧ atB (l.map (fun r => (r, false))) 43 = false ∧ atB (l.map (fun r => (r, false))) 63 = false)
    rw [timesR_none h3, timesF_none _ h3, esc_chain l]
    simp
theorem read_esc (l : List Int) : readP (l.flatMap fun r => [92, r]) = some (.choice [.chain (l.map Pt.only)]) := by
  obtain ⟨h1, h2⟩ := esc_sign l
  refine readP_make h2 ?_
  rw [h1]
  have := choice_chain [] (esc_chain l [])
  simpa using this
theorem lang_esc (l s : List Int) : Lang (.choice [.chain (l.map Pt.only)]) s ↔ s = l := by
  simp only [Lang, LangAny, or_false]
  induction l generalizing s with
  | nil => simp [LangSeq]
  | cons r l ih =>
    rw [List.map_cons, LangSeq]
    constructor
    · rintro ⟨u, v, rfl, hu, hv⟩
      rw [Lang] at hu
      obtain ⟨q, rfl, hq⟩ := hu
      simp only [fitsF, beq_iff_eq] at hq
      rw [(ih v).1 hv, hq]; rfl
    · rintro rfl
      exact ⟨[r], l, rfl, by rw [Lang]; exact ⟨r, rfl, by simp [fitsF]⟩, (ih l).2 rfl⟩
theorem read_class (lo hi : Int) (neg : Bool) (h1 : 97 ≤ lo) (h2 : lo ≤ hi) : readP (91 :: (if neg then [94] else []) ++ [lo, 45, hi, 93]) = some (.choice [.chain [.cls neg [(lo, hi)]]]) := by
  have hl : lo ≠ 92 := by omega
  have hh : hi ≠ 92 := by omega
  have core : ∀ acc, itemsP [(lo, true), (45, true), (hi, true), (93, true)] acc = some (acc ++ [(lo, hi)], [(93, true)]) := by
    intro acc
    rw [itemsP_eq, at_cons]
    have e1 : (lo == 93) = false := beq_eq_false_iff_ne.2 (by omega)
    have e2 : itemF [(lo, true), (45, true), (hi, true), (93, true)] = ((lo, hi), [(93, true)]) := by
      unfold itemF
      have e3 : (hi == 93) = false := beq_eq_false_iff_ne.2 (by omega)
      simp [at_cons, e3]
    rw [e1, e2]
    simp only [List.isEmpty_cons, Bool.or_false, Bool.false_eq_true, if_false]
    rw [if_neg (by omega), itemsP_eq, at_cons]
    rfl
  have hcls : ∀ l, takeB l 94 = [(lo, true), (45, true), (hi, true), (93, true)] → classP l = some (.cls (atB l 94) [(lo, hi)], []) := by
    intro l hl
    unfold classP
    rw [hl, core []]
    dsimp only
    rw [at_cons]
    rfl
  have hsig : signsGo false (91 :: (if neg then [94] else []) ++ [lo, 45, hi, 93]) = (91, true) :: ((if neg then [(94, true)] else []) ++ [(lo, true), (45, true), (hi, true), (93, true)]) := by
    cases neg
    · simp only [Bool.false_eq_true, if_false, List.nil_append, List.cons_append]
      rw [sign_one (by decide), sign_one hl, sign_one (by decide), sign_one hh, sign_one (by decide)]; rfl
    · simp only [if_true, List.cons_append, List.nil_append]
      rw [sign_one (by decide), sign_one (by decide), sign_one hl, sign_one (by decide), sign_one hh, sign_one (by decide)]; rfl
  have hend : endsGo false (91 :: (if neg then [94] else []) ++ [lo, 45, hi, 93]) = false := by
    cases neg
    · simp only [Bool.false_eq_true, if_false, List.nil_append, List.cons_append]
      rw [end_one (by decide), end_one hl, end_one (by decide), end_one hh, end_one (by decide)]; rfl
    · simp only [if_true, List.cons_append, List.nil_append]
      rw [end_one (by decide), end_one (by decide), end_one hl, end_one (by decide), end_one hh, end_one (by decide)]; rfl
  have hc : classP ((if neg then [(94, true)] else []) ++ [(lo, true), (45, true), (hi, true), (93, true)]) = some (.cls neg [(lo, hi)], []) := by
    cases neg
    · have e : (lo == 94) = false := beq_eq_false_iff_ne.2 (by omega)
      simp only [Bool.false_eq_true, if_false, List.nil_append]
      have h9 : atB [(lo, true), (45, true), (hi, true), (93, true)] 94 = false := by rw [at_cons]; exact e
      rw [hcls _ (by unfold takeB; rw [h9]; rfl), h9]
    · simp only [if_true, List.cons_append, List.nil_append]
      have h9 : atB [(94, true), (lo, true), (45, true), (hi, true), (93, true)] 94 = true := by rw [at_cons]; rfl
      rw [hcls _ (by unfold takeB; rw [h9]; rfl), h9]
  refine readP_make hend ?_
  rw [hsig]
  refine choice_chain [] ?_
  rw [chainP_eq]
  have hs : stopB ((91, true) :: ((if neg then [(94, true)] else []) ++ [(lo, true), (45, true), (hi, true), (93, true)])) = false := by unfold stopB; rw [at_cons, at_cons]; rfl
  have ha : atomP ((91, true) :: ((if neg then [(94, true)] else []) ++ [(lo, true), (45, true), (hi, true), (93, true)])) = some (.cls neg [(lo, hi)], []) := by
    rw [atomP_eq, at_cons, at_cons]
    simp only [List.tail_cons]
    rw [hc]; rfl
  rw [hs, ha]
  simp only [Bool.false_eq_true, if_false]
  rw [timesR_none (by simp [atB]), timesF_none _ (by simp [atB]), chain_nil]
  rfl
theorem lang_class (neg : Bool) (lo hi : Int) (s : List Int) : Lang (.choice [.chain [.cls neg [(lo, hi)]]]) s ↔ ∃ r, s = [r] ∧ (decide (lo ≤ r ∧ r ≤ hi) != neg) = true := by
  rw [lang_one, Lang]
  have e : ∀ r, fitsF (.cls neg [(lo, hi)]) r = (decide (lo ≤ r ∧ r ≤ hi) != neg) := by
    intro r
    unfold fitsF hasF
    simp only [List.any_cons, List.any_nil, Bool.or_false, Bool.decide_and]
  simp only [e]
end Go.Proofs.Ytfpdhmecomgbdaa
