/- Patterns, plain: read from the runes as they stand, a backslash and what it is ahead of in one step: the same as read from signs. No program in it. -/
import Derived.Test.YtmidpekkomhogaaMg06
namespace Go.Proofs.Ytmidpekkomhogaa.Pat

/-- The rune that comes; -1: none. -/
def hd (rs : List Int) : Int := rs.headD (-1)
def tmF (x : Pt) (rs : List Int) : Pt := if hd rs = 42 then .times x true true else if hd rs = 43 then .times x false true else if hd rs = 63 then .times x true false else x
def tmR (rs : List Int) : List Int := if hd rs = 42 ∨ hd rs = 43 ∨ hd rs = 63 then rs.tail else rs
/-- A rune of a class, and what is behind it. -/
def itR (rs : List Int) : Option (Int × List Int) := match rs with
  | [] => none
  | r :: t => if r = 92 then (match t with | [] => none | x :: u => some (x, u)) else some (r, t)
def itsR : Nat → List Int → List (Int × Int) → Option (List (Int × Int) × List Int)
  | 0, _, _ => none
  | n + 1, rs, acc => if hd rs = 93 ∧ acc ≠ [] then some (acc, rs.tail) else if hd rs = 93 ∨ rs = [] then none else
    match itR rs with
    | none => none
    | some (lo, t) => if hd t = 45 ∧ 1 < t.length ∧ hd t.tail ≠ 93 then
        (match itR t.tail with
        | none => none
        | some (h, u) => if h < lo then none else itsR n u (acc ++ [(lo, h)]))
      else itsR n t (acc ++ [(lo, lo)])
def clR (rs : List Int) : Option (Pt × List Int) := if hd rs = 94 then (match itsR (rs.length + 1) rs.tail [] with | none => none | some (its, m) => some (.cls true its, m)) else (match itsR (rs.length + 1) rs [] with | none => none | some (its, m) => some (.cls false its, m))
def liR (rs : List Int) : Option (Pt × List Int) := match rs with
  | [] => none
  | r :: t => if r = 92 then (match t with | [] => none | x :: u => some (.only x, u)) else if r = 42 ∨ r = 43 ∨ r = 63 ∨ r = 93 then none else some (.only r, t)
mutual
def chR : Nat → List Int → List Pt → Option (List Pt × List Int)
  | 0, _, _ => none
  | n + 1, rs, acc => match cnR n rs [] with
    | none => none
    | some (c, m) => if hd m = 124 then chR n m.tail (acc ++ [.chain c]) else some (acc ++ [.chain c], m)
def cnR : Nat → List Int → List Pt → Option (List Pt × List Int)
  | 0, _, _ => none
  | n + 1, rs, acc => if rs = [] ∨ hd rs = 124 ∨ hd rs = 41 then some (acc, rs) else match atR n rs with
    | none => none
    | some (x, m) => cnR n (tmR m) (acc ++ [tmF x m])
def atR : Nat → List Int → Option (Pt × List Int)
  | 0, _ => none
  | n + 1, rs => if hd rs = 40 then (match chR n rs.tail [] with
      | none => none
      | some (c, m) => if hd m = 41 then some (.choice c, m.tail) else none)
    else if hd rs = 91 then clR rs.tail
    else if hd rs = 46 then some (.dot, rs.tail)
    else liR rs
end
abbrev S (rs : List Int) : List Sg := signsGo false rs
abbrev E (rs : List Int) : Bool := endsGo false rs
theorem S_nil : S [] = [] := rfl
theorem S_plain {r : Int} (h : r ≠ 92) (t : List Int) : S (r :: t) = (r, true) :: S t := by
  show signsGo false (r :: t) = _
  rw [signsGo, if_neg (by simp [h])]; rfl
theorem S_back (x : Int) (t : List Int) : S (92 :: x :: t) = (x, false) :: S t := by
  show signsGo false (92 :: x :: t) = _
  rw [signsGo, if_pos (by simp), signsGo]; simp
theorem S_lone : S [92] = [] := by decide
theorem E_nil : E [] = false := rfl
theorem E_plain {r : Int} (h : r ≠ 92) (t : List Int) : E (r :: t) = E t := by
  show endsGo false (r :: t) = _
  rw [endsGo, if_neg (by simp [h])]
theorem E_back (x : Int) (t : List Int) : E (92 :: x :: t) = E t := by
  show endsGo false (92 :: x :: t) = _
  rw [endsGo, if_pos (by simp), endsGo]; simp
theorem E_lone : E [92] = true := by decide
theorem hd_cons (r : Int) (t : List Int) : hd (r :: t) = r := rfl
/-- Runes: none, a lone backslash, one with a backslash, one without. -/
theorem raw_cases (rs : List Int) : rs = [] ∨ rs = [92] ∨ (∃ x t, rs = 92 :: x :: t) ∨ ∃ r t, r ≠ 92 ∧ rs = r :: t := by
  match rs with
  | [] => exact .inl rfl
  | [r] =>
    by_cases h : r = 92
    · subst h; exact .inr (.inl rfl)
    · exact .inr (.inr (.inr ⟨r, [], h, rfl⟩))
  | r :: x :: t =>
    by_cases h : r = 92
    · subst h; exact .inr (.inr (.inl ⟨x, t, rfl⟩))
    · exact .inr (.inr (.inr ⟨r, x :: t, h, rfl⟩))
theorem at_hd {q : Int} (hq : q ≠ 92) (hq0 : q ≠ -1) (rs : List Int) : atB (S rs) q = decide (hd rs = q) := by
  rcases raw_cases rs with rfl | rfl | ⟨x, t, rfl⟩ | ⟨r, t, hr, rfl⟩
  · rw [S_nil, decide_eq_false (show ¬ hd [] = q from fun h => hq0 h.symm)]; rfl
  · rw [S_lone, decide_eq_false (show ¬ hd [92] = q from fun h => hq h.symm)]; rfl
  · rw [S_back, decide_eq_false (show ¬ hd (92 :: x :: t) = q from fun h => hq h.symm)]
    unfold atB; simp
  · rw [S_plain hr, hd_cons]
    unfold atB; simp only [Bool.and_true]
    by_cases h : r = q
    · simp [h]
    · simp [h]
theorem tail_hd {q : Int} (hq : q ≠ 92) (hq0 : q ≠ -1) {rs : List Int} (h : hd rs = q) : rs = q :: rs.tail ∧ S rs.tail = (S rs).tail ∧ E rs.tail = E rs := by
  cases rs with
  | nil => exact absurd h.symm hq0
  | cons r t =>
    have h : r = q := h
    subst h
    exact ⟨rfl, by rw [S_plain hq]; rfl, (E_plain hq t).symm⟩
theorem tm_same (x : Pt) (rs : List Int) : timesF x (S rs) = tmF x rs ∧ timesR (S rs) = S (tmR rs) ∧ E (tmR rs) = E rs := by
  unfold timesF timesR tmF tmR
  rw [at_hd (by decide) (by decide), at_hd (by decide) (by decide), at_hd (by decide) (by decide)]
  by_cases h1 : hd rs = 42
  · obtain ⟨_, a, b⟩ := tail_hd (by decide) (by decide) h1
    simp [h1, a, b]
  · by_cases h2 : hd rs = 43
    · obtain ⟨_, a, b⟩ := tail_hd (by decide) (by decide) h2
      simp [h2, a, b]
    · by_cases h3 : hd rs = 63
      · obtain ⟨_, a, b⟩ := tail_hd (by decide) (by decide) h3
        simp [h3, a, b]
      · simp [h1, h2, h3]
theorem it_open {rs t : List Int} {x : Int} (h : itR rs = some (x, t)) : (∃ b, S rs = (x, b) :: S t) ∧ E t = E rs ∧ t.length < rs.length := by
  rcases raw_cases rs with rfl | rfl | ⟨y, u, rfl⟩ | ⟨r, u, hr, rfl⟩
  · cases h
  · cases h
  · have h : some (y, u) = some (x, t) := h
    injection h with h; injection h with h1 h2; subst h1 h2
    exact ⟨⟨false, S_back _ _⟩, (E_back _ _).symm, by simp; omega⟩
  · unfold itR at h
    dsimp only at h
    rw [if_neg hr] at h
    injection h with h; injection h with h1 h2; subst h1 h2
    exact ⟨⟨true, S_plain hr _⟩, (E_plain hr _).symm, by simp⟩
theorem it_some {rs : List Int} (he : E rs = false) (hne : rs ≠ []) : ∃ x t, itR rs = some (x, t) := by
  rcases raw_cases rs with rfl | rfl | ⟨y, u, rfl⟩ | ⟨r, u, hr, rfl⟩
  · exact absurd rfl hne
  · rw [E_lone] at he; cases he
  · exact ⟨y, u, rfl⟩
  · exact ⟨r, u, by unfold itR; dsimp only; rw [if_neg hr]⟩
theorem S_empty {rs : List Int} (he : E rs = false) : (S rs).isEmpty = rs.isEmpty := by
  rcases raw_cases rs with rfl | rfl | ⟨y, u, rfl⟩ | ⟨r, u, hr, rfl⟩
  · rfl
  · rw [E_lone] at he; cases he
  · rw [S_back]; rfl
  · rw [S_plain hr]; rfl
theorem its_E : ∀ (n : Nat) (rs : List Int) (acc its : List (Int × Int)) (m : List Int), itsR n rs acc = some (its, m) → E m = E rs
  | 0, _, _, _, _, h => by cases h
  | n + 1, rs, acc, its, m, h => by
    rw [itsR] at h
    split at h
    · next hc =>
      injection h with h; injection h with _ h; subst h
      exact (tail_hd (by decide) (by decide) hc.1).2.2
    · split at h
      · cases h
      · split at h
        · cases h
        · next lo t hi =>
          obtain ⟨_, he, _⟩ := it_open hi
          split at h
          · next hc =>
            split at h
            · cases h
            · next hh u hi2 =>
              obtain ⟨_, he2, _⟩ := it_open hi2
              have he3 := (tail_hd (by decide) (by decide) hc.1).2.2
              split at h
              · cases h
              · rw [its_E n _ _ _ _ h, he2, he3, he]
          · rw [its_E n _ _ _ _ h, he]
def clsEnd (q : Option (List (Int × Int) × List Sg)) : Option (List (Int × Int) × List Sg) := match q with
  | none => none
  | some q => if atB q.2 93 && decide (0 < q.1.length) then some (q.1, q.2.tail) else none
theorem its_same : ∀ (n : Nat) (rs : List Int) (acc : List (Int × Int)), rs.length < n → E rs = false → (itsR n rs acc).map (fun p => (p.1, S p.2)) = clsEnd (itemsP (S rs) acc)
  | 0, _, _, h, _ => by omega
  | n + 1, rs, acc, hn, he => by
    rw [itsR, itemsP_eq, S_empty he, at_hd (by decide) (by decide)]
    by_cases h93 : hd rs = 93
    · obtain ⟨e1, e2, _⟩ := tail_hd (by decide) (by decide) h93
      rw [decide_eq_true h93, Bool.or_true, if_pos rfl]
      have ha : atB (S rs) 93 = true := by rw [at_hd (by decide) (by decide), decide_eq_true h93]
      show _ = if atB (S rs) 93 && decide (0 < acc.length) then some (acc, (S rs).tail) else none
      rw [ha, Bool.true_and]
      cases acc with
      | nil => rw [if_neg (by simp), if_pos (.inl h93)]; rfl
      | cons a as1 => rw [if_pos ⟨h93, by simp⟩, if_pos (by simp), ← e2]; rfl
    · rw [decide_eq_false h93, Bool.or_false, if_neg (fun h => h93 h.1)]
      by_cases hr : rs = []
      · subst hr
        rw [if_pos (.inr rfl), if_pos (show ([] : List Int).isEmpty = true from rfl)]; rfl
      · rw [if_neg (by rintro (h | h); exact h93 h; exact hr h), if_neg (by cases rs; exact absurd rfl hr; simp)]
        obtain ⟨lo, t, hi⟩ := it_some he hr
        obtain ⟨⟨b, hS⟩, he2, hl⟩ := it_open hi
        rw [hi]
        dsimp only
        have het : E t = false := by rw [he2, he]
        rw [hS]
        have hIF : itemF ((lo, b) :: S t) = if (atB (S t) 45 && (decide (2 ≤ (S t).length) && !atB (S t).tail 93)) = true then ((lo, ((S t).tail.headD (0, false)).1), (S t).tail.tail) else ((lo, lo), S t) := rfl
        by_cases h45 : hd t = 45
        · obtain ⟨f1, f2, f3⟩ := tail_hd (by decide) (by decide) h45
          have heu : E t.tail = false := by rw [f3, het]
          have h2l : t.length = t.tail.length + 1 := by rw [f1]; rfl
          have hlen : decide (2 ≤ (S t).length) = decide (1 < t.length) := by
            have h1 : (S t).length = (S t.tail).length + 1 := by
              rw [f1, S_plain (by decide)]; rfl
            have h3 := S_empty heu
            have h4 : (S t.tail).length = 0 ↔ t.tail.length = 0 := by
              rw [List.length_eq_zero_iff, List.length_eq_zero_iff, ← List.isEmpty_iff, ← List.isEmpty_iff, h3]
            apply Bool.eq_iff_iff.2
            simp only [decide_eq_true_eq]
            omega
          rw [at_hd (by decide) (by decide), decide_eq_true h45, Bool.true_and, ← f2, at_hd (by decide) (by decide), hlen] at hIF
          by_cases hc : 1 < t.length ∧ hd t.tail ≠ 93
          · rw [if_pos ⟨h45, hc⟩]
            have hcc : (decide (1 < t.length) && !decide (hd t.tail = 93)) = true := by simp [hc.1, hc.2]
            have hne : t.tail ≠ [] := fun e => by
              have := hc.1
              rw [e] at h2l; simp at h2l; omega
            obtain ⟨h, u, hi2⟩ := it_some heu hne
            obtain ⟨⟨b2, hS2⟩, he3, hl2⟩ := it_open hi2
            rw [if_pos hcc, hS2] at hIF
            have hIF2 : itemF ((lo, b) :: S t) = ((lo, h), S u) := hIF
            rw [hi2, hIF2]
            dsimp only
            by_cases hlt : h < lo
            · rw [if_pos hlt, if_pos hlt]; rfl
            · rw [if_neg hlt, if_neg hlt]
              exact its_same n u _ (by omega) (by rw [he3, heu])
          · rw [if_neg (fun h => hc h.2)]
            have hcc : ¬ (decide (1 < t.length) && !decide (hd t.tail = 93)) = true := by
              intro h
              simp at h
              exact hc h
            rw [if_neg hcc] at hIF
            rw [hIF]
            dsimp only
            rw [if_neg (Int.lt_irrefl lo)]
            exact its_same n t _ (by omega) het
        · rw [if_neg (fun h => h45 h.1)]
          rw [at_hd (by decide) (by decide), decide_eq_false h45, Bool.false_and, if_neg (by simp)] at hIF
          rw [hIF]
          dsimp only
          rw [if_neg (Int.lt_irrefl lo)]
          exact its_same n t _ (by omega) het
theorem cl_E {rs m : List Int} {x : Pt} (h : clR rs = some (x, m)) : E m = E rs := by
  unfold clR at h
  split at h
  · next hc =>
    split at h
    · cases h
    · next its k hk =>
      injection h with h; injection h with _ h; subst h
      rw [its_E _ _ _ _ _ hk]
      exact (tail_hd (by decide) (by decide) hc).2.2
  · split at h
    · cases h
    · next its k hk =>
      injection h with h; injection h with _ h; subst h
      exact its_E _ _ _ _ _ hk
theorem cls_of (l : List Sg) : classP l = (clsEnd (itemsP (takeB l 94) [])).map (fun q => (.cls (atB l 94) q.1, q.2)) := by
  unfold classP clsEnd
  cases itemsP (takeB l 94) [] with
  | none => rfl
  | some q =>
    obtain ⟨its, m⟩ := q
    dsimp only
    cases (atB m 93 && decide (0 < its.length)) <;> rfl
theorem cl_same {rs : List Int} (he : E rs = false) : (clR rs).map (fun p => (p.1, S p.2)) = classP (S rs) := by
  rw [cls_of]
  unfold clR takeB
  rw [at_hd (by decide) (by decide)]
  by_cases h : hd rs = 94
  · obtain ⟨_, f2, f3⟩ := tail_hd (by decide) (by decide) h
    rw [if_pos h, decide_eq_true h, if_pos rfl, ← f2, ← its_same (rs.length + 1) rs.tail [] (by simp; omega) (by rw [f3, he])]
    cases itsR (rs.length + 1) rs.tail [] <;> rfl
  · rw [if_neg h, decide_eq_false h, if_neg (by simp), ← its_same (rs.length + 1) rs [] (by omega) he]
    cases itsR (rs.length + 1) rs [] <;> rfl
theorem li_E {rs m : List Int} {x : Pt} (h : liR rs = some (x, m)) : E m = E rs := by
  rcases raw_cases rs with rfl | rfl | ⟨y, u, rfl⟩ | ⟨r, u, hr, rfl⟩
  · cases h
  · cases h
  · have h : some (Pt.only y, u) = some (x, m) := h
    injection h with h; injection h with _ h2; subst h2
    exact (E_back _ _).symm
  · unfold liR at h
    dsimp only at h
    rw [if_neg hr] at h
    split at h
    · cases h
    · injection h with h; injection h with _ h2; subst h2
      exact (E_plain hr _).symm
theorem li_same {rs : List Int} (he : E rs = false) (h1 : hd rs ≠ 124) (h2 : hd rs ≠ 41) (h3 : hd rs ≠ 40) (h4 : hd rs ≠ 91) : (liR rs).map (fun p => (p.1, S p.2)) = litP (S rs) := by
  rcases raw_cases rs with rfl | rfl | ⟨y, u, rfl⟩ | ⟨r, u, hr, rfl⟩
  · rfl
  · rw [E_lone] at he; cases he
  · rw [S_back]; rfl
  · rw [S_plain hr]
    have h1 : r ≠ 124 := h1
    have h2 : r ≠ 41 := h2
    have h3 : r ≠ 40 := h3
    have h4 : r ≠ 91 := h4
    unfold liR litP
    dsimp only
    rw [if_neg hr, Bool.true_and]
    by_cases hm : r = 42 ∨ r = 43 ∨ r = 63 ∨ r = 93
    · have : markB r = true := by unfold markB; rcases hm with rfl | rfl | rfl | rfl <;> decide
      rw [if_pos hm, this]; rfl
    · have : markB r = false := by
        unfold markB
        simp only [not_or] at hm
        simp [hm.1, hm.2.1, hm.2.2.1, hm.2.2.2, h1, h2, h3, h4]
      rw [if_neg hm, this]; rfl
theorem go_E : ∀ n : Nat,
    (∀ (rs : List Int) (acc c : List Pt) (m : List Int), chR n rs acc = some (c, m) → E m = E rs) ∧
    (∀ (rs : List Int) (acc c : List Pt) (m : List Int), cnR n rs acc = some (c, m) → E m = E rs) ∧
    (∀ (rs : List Int) (x : Pt) (m : List Int), atR n rs = some (x, m) → E m = E rs)
  | 0 => ⟨fun _ _ _ _ h => by simp [chR] at h, fun _ _ _ _ h => by simp [cnR] at h, fun _ _ _ h => by simp [atR] at h⟩
  | n + 1 => by
    obtain ⟨i1, i2, i3⟩ := go_E n
    refine ⟨?_, ?_, ?_⟩
    · intro rs acc c m h
      rw [chR] at h
      split at h
      · cases h
      · next d k hk =>
        have e1 := i2 _ _ _ _ hk
        split at h
        · next hb => rw [i1 _ _ _ _ h, (tail_hd (by decide) (by decide) hb).2.2, e1]
        · injection h with h; injection h with _ h; subst h; exact e1
    · intro rs acc c m h
      rw [cnR] at h
      split at h
      · injection h with h; injection h with _ h; subst h; rfl
      · split at h
        · cases h
        · next x k hk => rw [i2 _ _ _ _ h, (tm_same x k).2.2, i3 _ _ _ hk]
    · intro rs x m h
      rw [atR] at h
      split at h
      · next hb =>
        have e0 := (tail_hd (by decide) (by decide) hb).2.2
        split at h
        · cases h
        · next d k hk =>
          have e1 := i1 _ _ _ _ hk
          split at h
          · next hc =>
            injection h with h; injection h with _ h; subst h
            rw [(tail_hd (by decide) (by decide) hc).2.2, e1, e0]
          · cases h
      · split at h
        · next hb => rw [cl_E h]; exact (tail_hd (by decide) (by decide) hb).2.2
        · split at h
          · next hb =>
            injection h with h; injection h with _ h; subst h
            exact (tail_hd (by decide) (by decide) hb).2.2
          · exact li_E h
theorem go_same : ∀ n : Nat,
    (∀ (rs : List Int) (acc : List Pt), E rs = false → (chR n rs acc).map (fun p => (p.1, S p.2)) = choiceGo n (S rs) acc) ∧
    (∀ (rs : List Int) (acc : List Pt), E rs = false → (cnR n rs acc).map (fun p => (p.1, S p.2)) = chainGo n (S rs) acc) ∧
    (∀ (rs : List Int), E rs = false → hd rs ≠ 124 → hd rs ≠ 41 → (atR n rs).map (fun p => (p.1, S p.2)) = atomGo n (S rs))
  | 0 => ⟨fun _ _ _ => by simp [chR, choiceGo], fun _ _ _ => by simp [cnR, chainGo], fun _ _ _ _ => by simp [atR, atomGo]⟩
  | n + 1 => by
    obtain ⟨i1, i2, i3⟩ := go_same n
    obtain ⟨e1, e2, e3⟩ := go_E n
    refine ⟨?_, ?_, ?_⟩
    · intro rs acc he
      rw [chR, choiceGo, ← i2 rs [] he]
      cases hk : cnR n rs [] with
      | none => rfl
      | some q =>
        obtain ⟨c, m⟩ := q
        have em : E m = false := by rw [e2 _ _ _ _ hk, he]
        show Option.map _ (if hd m = 124 then chR n m.tail (acc ++ [.chain c]) else some (acc ++ [.chain c], m)) = if atB (S m) 124 then choiceGo n (S m).tail (acc ++ [.chain c]) else some (acc ++ [.chain c], S m)
        rw [at_hd (by decide) (by decide)]
        by_cases hb : hd m = 124
        · obtain ⟨_, f2, f3⟩ := tail_hd (by decide) (by decide) hb
          rw [if_pos hb, decide_eq_true hb, if_pos rfl, ← f2]
          exact i1 _ _ (by rw [f3, em])
        · rw [if_neg hb, decide_eq_false hb, if_neg (by simp)]; rfl
    · intro rs acc he
      rw [cnR, chainGo]
      unfold stopB
      rw [S_empty he, at_hd (by decide) (by decide), at_hd (by decide) (by decide)]
      by_cases hs : rs = [] ∨ hd rs = 124 ∨ hd rs = 41
      · rw [if_pos hs, if_pos (by rcases hs with rfl | h | h <;> simp_all)]; rfl
      · have hs2 : ¬ (rs.isEmpty || (decide (hd rs = 124) || decide (hd rs = 41))) = true := by
          intro h; simp at h; exact hs h
        simp only [not_or] at hs
        rw [if_neg (by rintro (h | h | h); exact hs.1 h; exact hs.2.1 h; exact hs.2.2 h), if_neg hs2, ← i3 rs he hs.2.1 hs.2.2]
        cases hk : atR n rs with
        | none => rfl
        | some q =>
          obtain ⟨x, m⟩ := q
          have em : E m = false := by rw [e3 _ _ _ hk, he]
          obtain ⟨t1, t2, t3⟩ := tm_same x m
          show Option.map _ (cnR n (tmR m) (acc ++ [tmF x m])) = chainGo n (timesR (S m)) (acc ++ [timesF x (S m)])
          rw [t1, t2]
          exact i2 _ _ (by rw [t3, em])
    · intro rs he h1 h2
      rw [atR, atomGo, at_hd (by decide) (by decide), at_hd (by decide) (by decide), at_hd (by decide) (by decide)]
      by_cases h40 : hd rs = 40
      · obtain ⟨_, f2, f3⟩ := tail_hd (by decide) (by decide) h40
        rw [if_pos h40, decide_eq_true h40, if_pos rfl, ← f2, ← i1 rs.tail [] (by rw [f3, he])]
        cases hk : chR n rs.tail [] with
        | none => rfl
        | some q =>
          obtain ⟨c, m⟩ := q
          show Option.map _ (if hd m = 41 then some (Pt.choice c, m.tail) else none) = if atB (S m) 41 then some (Pt.choice c, (S m).tail) else none
          rw [at_hd (by decide) (by decide)]
          by_cases hb : hd m = 41
          · obtain ⟨_, g2, _⟩ := tail_hd (by decide) (by decide) hb
            rw [if_pos hb, decide_eq_true hb, if_pos rfl, ← g2]; rfl
          · rw [if_neg hb, decide_eq_false hb, if_neg Bool.false_ne_true]; rfl
      · rw [if_neg h40, decide_eq_false h40, if_neg Bool.false_ne_true]
        by_cases h91 : hd rs = 91
        · obtain ⟨_, f2, f3⟩ := tail_hd (by decide) (by decide) h91
          rw [if_pos h91, decide_eq_true h91, if_pos rfl, ← f2]
          exact cl_same (by rw [f3, he])
        · rw [if_neg h91, decide_eq_false h91, if_neg Bool.false_ne_true]
          by_cases h46 : hd rs = 46
          · obtain ⟨_, f2, _⟩ := tail_hd (by decide) (by decide) h46
            rw [if_pos h46, decide_eq_true h46, if_pos rfl, ← f2]; rfl
          · rw [if_neg h46, decide_eq_false h46, if_neg Bool.false_ne_true]
            exact li_same he h1 h2 h40 h91
/-- Read from the runes as they stand: the same. -/
def rawP (rs : List Int) : Option Pt := match chR (3 * rs.length + 3) rs [] with
  | some (c, []) => some (.choice c)
  | _ => none
theorem raw_read (rs : List Int) : rawP rs = readP rs := by
  unfold rawP readP
  cases he : endsGo false rs with
  | true =>
    rw [if_pos rfl]
    cases hk : chR (3 * rs.length + 3) rs [] with
    | none => rfl
    | some q =>
      obtain ⟨c, m⟩ := q
      cases m with
      | nil =>
        have := (go_E _).1 _ _ _ _ hk
        rw [show E rs = true from he] at this
        cases this
      | cons a as1 => rfl
  | false =>
    rw [if_neg Bool.false_ne_true]
    have hl := signsGo_len false rs
    have h1 : choiceP (signsGo false rs) [] = choiceGo (3 * rs.length + 3) (S rs) [] := (go_fuel _).1 _ _ _ (Nat.le_refl _) (by show 3 * (signsGo false rs).length + 3 ≤ _; omega)
    rw [h1, ← (go_same _).1 rs [] he]
    cases hk : chR (3 * rs.length + 3) rs [] with
    | none => rfl
    | some q =>
      obtain ⟨c, m⟩ := q
      have em : E m = false := by rw [(go_E _).1 _ _ _ _ hk]; exact he
      show _ = if (S m).isEmpty then some (Pt.choice c) else none
      rw [S_empty em]
      cases m <;> rfl
end Go.Proofs.Ytmidpekkomhogaa.Pat
