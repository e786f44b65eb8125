import Derived.Test.YtbcemjhaecelnaaGreatDoorMg08
import Derived.Test.YtbcemjhaecelnaaGreatDoorMg04
import Derived.Laws.OwnMore
import Derived.BigQuiet
section
namespace Go.Proofs.YtbcemjhaecelnaaGreatDoor.Pat
def hd (rs : List Int) : Int := rs.headD (-1)
def tmF (x : Pt) (rs : List Int) : Pt := if hd rs = 42 then .times x true true else if hd rs = 43 then .times x false true else if hd rs = 63 then .times x true false else x
def tmR (rs : List Int) : List Int := if hd rs = 42 \/ hd rs = 43 \/ hd rs = 63 then rs.tail else rs
def itR (rs : List Int) : Option (Int × List Int) := match rs with
 | [] => none
 | r :: t => if r = 92 then (match t with | [] => none | x :: u => some (x, u)) else some (r, t)
def itsR : Nat -> List Int -> List (Int × Int) -> Option (List (Int × Int) × List Int)
 | 0, _, _ => none
 | n + 1, rs, acc => if hd rs = 93 /\ acc ≠ [] then some (acc, rs.tail) else if hd rs = 93 \/ rs = [] then none else
   match itR rs with
   | none => none
   | some (lo, t) => if hd t = 45 /\ 1 < t.length /\ hd t.tail ≠ 93 then
    (match itR t.tail with
    | none => none
    | some (h, u) => if h < lo then none else itsR n u (acc ++ [(lo, h)]))
     else itsR n t (acc ++ [(lo, lo)])
def clR (rs : List Int) : Option (Pt × List Int) := if hd rs = 94 then (match itsR (rs.length + 1) rs.tail [] with | none => none | some (its, m) => some (.cls true its, m)) else (match itsR (rs.length + 1) rs [] with | none => none | some (its, m) => some (.cls false its, m))
def liR (rs : List Int) : Option (Pt × List Int) := match rs with
 | [] => none
 | r :: t => if r = 92 then (match t with | [] => none | x :: u => some (.only x, u)) else if r = 42 \/ r = 43 \/ r = 63 \/ r = 93 then none else some (.only r, t)
mutual
def chR : Nat -> List Int -> List Pt -> Option (List Pt × List Int)
 | 0, _, _ => none
 | n + 1, rs, acc => match cnR n rs [] with
   | none => none
   | some (c, m) => if hd m = 124 then chR n m.tail (acc ++ [.chain c]) else some (acc ++ [.chain c], m)
def cnR : Nat -> List Int -> List Pt -> Option (List Pt × List Int)
 | 0, _, _ => none
 | n + 1, rs, acc => if rs = [] \/ hd rs = 124 \/ hd rs = 41 then some (acc, rs) else match atR n rs with
   | none => none
   | some (x, m) => cnR n (tmR m) (acc ++ [tmF x m])
def atR : Nat -> List Int -> Option (Pt × List Int)
 | 0, _ => none
 | n + 1, rs => if hd rs = 40 then (match chR n rs.tail [] with
  | none => none
  | some (c, m) => if hd m = 41 then some (.choice c, m.tail) else none)
   else if hd rs = 91 then clR rs.tail
   else if hd rs = 46 then some (.dot, rs.tail)
   else liR rs
end
abbrev S (rs : List Int) : List Sg := zay false rs
abbrev E (rs : List Int) : Bool := zaV false rs
theorem S_nil : S [] = [] := rfl
theorem zdJ {r : Int} (h : r ≠ 92) (t : List Int) : S (r :: t) = (r, true) :: S t := by
 show zay false (r :: t) = _
 rw [zay, if_neg (by simp [h])]; rfl
theorem zhn (x : Int) (t : List Int) : S (92 :: x :: t) = (x, false) :: S t := by
 show zay false (92 :: x :: t) = _
 rw [zay, if_pos (by simp), zay]; simp
theorem S_lone : S [92] = [] := by decide
theorem zgH {r : Int} (h : r ≠ 92) (t : List Int) : E (r :: t) = E t := by
 show zaV false (r :: t) = _
 rw [zaV, if_neg (by simp [h])]
theorem ziB (x : Int) (t : List Int) : E (92 :: x :: t) = E t := by
 show zaV false (92 :: x :: t) = _
 rw [zaV, if_pos (by simp), zaV]; simp
theorem zih : E [92] = true := by decide
theorem hd_cons (r : Int) (t : List Int) : hd (r :: t) = r := rfl
theorem zbS (rs : List Int) : rs = [] \/ rs = [92] \/ (∃ x t, rs = 92 :: x :: t) \/ ∃ r t, r ≠ 92 /\ rs = r :: t := by
 match rs with
 | [] => exact .inl rfl
 | [r] =>
   by_cases h : r = 92
   ·subst h; exact .inr (.inl rfl)
   ·exact .inr (.inr (.inr ⟨r, [], h, rfl⟩))
 | r :: x :: t =>
   by_cases h : r = 92
   ·subst h; exact .inr (.inr (.inl ⟨x, t, rfl⟩))
   ·exact .inr (.inr (.inr ⟨r, x :: t, h, rfl⟩))
theorem zcV {q : Int} (hq : q ≠ 92) (hq0 : q ≠ -1) (rs : List Int) : atB (S rs) q = decide (hd rs = q) := by
 rcases zbS rs with rfl | rfl | ⟨x, t, rfl⟩ | ⟨r, t, hr, rfl⟩
 ·rw [S_nil, decide_eq_false (show ¬ hd [] = q from fun h => hq0 h.symm)]; rfl
 ·rw [S_lone, decide_eq_false (show ¬ hd [92] = q from fun h => hq h.symm)]; rfl
 ·rw [zhn, decide_eq_false (show ¬ hd (92 :: x :: t) = q from fun h => hq h.symm)]
  unfold atB; simp
 ·rw [zdJ hr, hd_cons]
  unfold atB; simp only [Bool.and_true]
  by_cases h : r = q
  ·simp [h]
  ·simp [h]
theorem zaP {q : Int} (hq : q ≠ 92) (hq0 : q ≠ -1) {rs : List Int} (h : hd rs = q) : rs = q :: rs.tail /\ S rs.tail = (S rs).tail /\ E rs.tail = E rs := by
 cases rs with
 | nil => exact absurd h.symm hq0
 | cons r t =>
   have h : r = q := h
   subst h
   exact ⟨rfl, by rw [zdJ hq]; rfl, (zgH hq t).symm⟩
theorem zii (x : Pt) (rs : List Int) : timesF x (S rs) = tmF x rs /\ zbs (S rs) = S (tmR rs) /\ E (tmR rs) = E rs := by
 unfold timesF zbs tmF tmR
 rw [zcV (by decide) (by decide), zcV (by decide) (by decide), zcV (by decide) (by decide)]
 by_cases h1 : hd rs = 42
 ·obtain ⟨_, a, b⟩ := zaP (by decide) (by decide) h1
  simp [h1, a, b]
 ·by_cases h2 : hd rs = 43
  ·obtain ⟨_, a, b⟩ := zaP (by decide) (by decide) h2
   simp [h2, a, b]
  ·by_cases h3 : hd rs = 63
   ·obtain ⟨_, a, b⟩ := zaP (by decide) (by decide) h3
    simp [h3, a, b]
   ·simp [h1, h2, h3]
theorem zdK {rs t : List Int} {x : Int} (h : itR rs = some (x, t)) : (∃ b, S rs = (x, b) :: S t) /\ E t = E rs /\ t.length < rs.length := by
 rcases zbS rs with rfl | rfl | ⟨y, u, rfl⟩ | ⟨r, u, hr, rfl⟩
 ·cases h
 ·cases h
 ·have h : some (y, u) = some (x, t) := h
  injection h with h; injection h with h1 h2; subst h1 h2
  exact ⟨⟨false, zhn _ _⟩, (ziB _ _).symm, by simp; omega⟩
 ·unfold itR at h
  dsimp only at h
  rw [if_neg hr] at h
  injection h with h; injection h with h1 h2; subst h1 h2
  exact ⟨⟨true, zdJ hr _⟩, (zgH hr _).symm, by simp⟩
theorem zij {rs : List Int} (he : E rs = false) (hne : rs ≠ []) : ∃ x t, itR rs = some (x, t) := by
 rcases zbS rs with rfl | rfl | ⟨y, u, rfl⟩ | ⟨r, u, hr, rfl⟩
 ·exact absurd rfl hne
 ·rw [zih] at he; cases he
 ·exact ⟨y, u, rfl⟩
 ·exact ⟨r, u, by unfold itR; dsimp only; rw [if_neg hr]⟩
theorem zfL {rs : List Int} (he : E rs = false) : (S rs).isEmpty = rs.isEmpty := by
 rcases zbS rs with rfl | rfl | ⟨y, u, rfl⟩ | ⟨r, u, hr, rfl⟩
 ·rfl
 ·rw [zih] at he; cases he
 ·rw [zhn]; rfl
 ·rw [zdJ hr]; rfl
theorem ziz : ∀ (n : Nat) (rs : List Int) (acc its : List (Int × Int)) (m : List Int), itsR n rs acc = some (its, m) -> E m = E rs
 | 0, _, _, _, _, h => by cases h
 | n + 1, rs, acc, its, m, h => by
   rw [itsR] at h
   split at h
   ·next hc =>
    injection h with h; injection h with _ h; subst h
    exact (zaP (by decide) (by decide) hc.1).2.2
   ·split at h
    ·cases h
    ·split at h
     ·cases h
     ·next lo t hi =>
      obtain ⟨_, he, _⟩ := zdK hi
      split at h
      ·next hc =>
       split at h
       ·cases h
       ·next hh u hi2 =>
        obtain ⟨_, he2, _⟩ := zdK hi2
        have he3 := (zaP (by decide) (by decide) hc.1).2.2
        split at h
        ·cases h
        ·rw [ziz n _ _ _ _ h, he2, he3, he]
      ·rw [ziz n _ _ _ _ h, he]
def zik (q : Option (List (Int × Int) × List Sg)) : Option (List (Int × Int) × List Sg) := match q with
 | none => none
 | some q => if atB q.2 93 && decide (0 < q.1.length) then some (q.1, q.2.tail) else none
theorem zd0 : ∀ (n : Nat) (rs : List Int) (acc : List (Int × Int)), rs.length < n -> E rs = false -> (itsR n rs acc).map (fun p => (p.1, S p.2)) = zik (zds (S rs) acc)
 | 0, _, _, h, _ => by omega
 | n + 1, rs, acc, hn, he => by
   rw [itsR, zc9, zfL he, zcV (by decide) (by decide)]
   by_cases h93 : hd rs = 93
   ·obtain ⟨e1, e2, _⟩ := zaP (by decide) (by decide) h93
    rw [decide_eq_true h93, Bool.or_true, if_pos rfl]
    have ha : atB (S rs) 93 = true := by rw [zcV (by decide) (by decide), decide_eq_true h93]
    show _ = if atB (S rs) 93 && decide (0 < acc.length) then some (acc, (S rs).tail) else none
    rw [ha, Bool.true_and]
    cases acc with
    | nil => rw [if_neg (by simp), if_pos (.inl h93)]; rfl
    | cons a as1 => rw [if_pos ⟨h93, by simp⟩, if_pos (by simp), <- e2]; rfl
   ·rw [decide_eq_false h93, Bool.or_false, if_neg (fun h => h93 h.1)]
    by_cases hr : rs = []
    ·subst hr
     rw [if_pos (.inr rfl), if_pos (show ([] : List Int).isEmpty = true from rfl)]; rfl
    ·rw [if_neg (by rintro (h | h); exact h93 h; exact hr h), if_neg (by cases rs; exact absurd rfl hr; simp)]
     obtain ⟨lo, t, hi⟩ := zij he hr
     obtain ⟨⟨b, hS⟩, he2, hl⟩ := zdK hi
     rw [hi]
     dsimp only
     have het : E t = false := by rw [he2, he]
     rw [hS]
     have hIF : zbN ((lo, b) :: S t) = if (atB (S t) 45 && (decide (2 <= (S t).length) && !atB (S t).tail 93)) = true then ((lo, ((S t).tail.headD (0, false)).1), (S t).tail.tail) else ((lo, lo), S t) := rfl
     by_cases h45 : hd t = 45
     ·obtain ⟨f1, f2, f3⟩ := zaP (by decide) (by decide) h45
      have heu : E t.tail = false := by rw [f3, het]
      have h2l : t.length = t.tail.length + 1 := by rw [f1]; rfl
      have hlen : decide (2 <= (S t).length) = decide (1 < t.length) := by
       have h1 : (S t).length = (S t.tail).length + 1 := by
        rw [f1, zdJ (by decide)]; rfl
       have h3 := zfL heu
       have h4 : (S t.tail).length = 0 ↔ t.tail.length = 0 := by
        rw [List.length_eq_zero_iff, List.length_eq_zero_iff, <- List.isEmpty_iff, <- List.isEmpty_iff, h3]
       apply Bool.eq_iff_iff.2
       simp only [decide_eq_true_eq]
       omega
      rw [zcV (by decide) (by decide), decide_eq_true h45, Bool.true_and, <- f2, zcV (by decide) (by decide), hlen] at hIF
      by_cases hc : 1 < t.length /\ hd t.tail ≠ 93
      ·rw [if_pos ⟨h45, hc⟩]
       have hcc : (decide (1 < t.length) && !decide (hd t.tail = 93)) = true := by simp [hc.1, hc.2]
       have hne : t.tail ≠ [] := fun e => by
        have := hc.1
        rw [e] at h2l; simp at h2l; omega
       obtain ⟨h, u, hi2⟩ := zij heu hne
       obtain ⟨⟨b2, hS2⟩, he3, hl2⟩ := zdK hi2
       rw [if_pos hcc, hS2] at hIF
       have hIF2 : zbN ((lo, b) :: S t) = ((lo, h), S u) := hIF
       rw [hi2, hIF2]
       dsimp only
       by_cases hlt : h < lo
       ·rw [if_pos hlt, if_pos hlt]; rfl
       ·rw [if_neg hlt, if_neg hlt]
        exact zd0 n u _ (by omega) (by rw [he3, heu])
      ·rw [if_neg (fun h => hc h.2)]
       have hcc : ¬ (decide (1 < t.length) && !decide (hd t.tail = 93)) = true := by
        intro h
        simp at h
        exact hc h
       rw [if_neg hcc] at hIF
       rw [hIF]
       dsimp only
       rw [if_neg (Int.lt_irrefl lo)]
       exact zd0 n t _ (by omega) het
     ·rw [if_neg (fun h => h45 h.1)]
      rw [zcV (by decide) (by decide), decide_eq_false h45, Bool.false_and, if_neg (by simp)] at hIF
      rw [hIF]
      dsimp only
      rw [if_neg (Int.lt_irrefl lo)]
      exact zd0 n t _ (by omega) het
theorem cl_E {rs m : List Int} {x : Pt} (h : clR rs = some (x, m)) : E m = E rs := by
 unfold clR at h
 split at h
 ·next hc =>
  split at h
  ·cases h
  ·next its k hk =>
   injection h with h; injection h with _ h; subst h
   rw [ziz _ _ _ _ _ hk]
   exact (zaP (by decide) (by decide) hc).2.2
 ·split at h
  ·cases h
  ·next its k hk =>
   injection h with h; injection h with _ h; subst h
   exact ziz _ _ _ _ _ hk
theorem cls_of (l : List Sg) : zbx l = (zik (zds (zeJ l 94) [])).map (fun q => (.cls (atB l 94) q.1, q.2)) := by
 unfold zbx zik
 cases zds (zeJ l 94) [] with
 | none => rfl
 | some q =>
   obtain ⟨its, m⟩ := q
   dsimp only
   cases (atB m 93 && decide (0 < its.length)) <;> rfl
theorem cl_same {rs : List Int} (he : E rs = false) : (clR rs).map (fun p => (p.1, S p.2)) = zbx (S rs) := by
 rw [cls_of]
 unfold clR zeJ
 rw [zcV (by decide) (by decide)]
 by_cases h : hd rs = 94
 ·obtain ⟨_, f2, f3⟩ := zaP (by decide) (by decide) h
  rw [if_pos h, decide_eq_true h, if_pos rfl, <- f2, <- zd0 (rs.length + 1) rs.tail [] (by simp; omega) (by rw [f3, he])]
  cases itsR (rs.length + 1) rs.tail [] <;> rfl
 ·rw [if_neg h, decide_eq_false h, if_neg (by simp), <- zd0 (rs.length + 1) rs [] (by omega) he]
  cases itsR (rs.length + 1) rs [] <;> rfl
theorem li_E {rs m : List Int} {x : Pt} (h : liR rs = some (x, m)) : E m = E rs := by
 rcases zbS rs with rfl | rfl | ⟨y, u, rfl⟩ | ⟨r, u, hr, rfl⟩
 ·cases h
 ·cases h
 ·have h : some (Pt.only y, u) = some (x, m) := h
  injection h with h; injection h with _ h2; subst h2
  exact (ziB _ _).symm
 ·unfold liR at h
  dsimp only at h
  rw [if_neg hr] at h
  split at h
  ·cases h
  ·injection h with h; injection h with _ h2; subst h2
   exact (zgH hr _).symm
theorem li_same {rs : List Int} (he : E rs = false) (h1 : hd rs ≠ 124) (h2 : hd rs ≠ 41) (h3 : hd rs ≠ 40) (h4 : hd rs ≠ 91) : (liR rs).map (fun p => (p.1, S p.2)) = litP (S rs) := by
 rcases zbS rs with rfl | rfl | ⟨y, u, rfl⟩ | ⟨r, u, hr, rfl⟩
 ·rfl
 ·rw [zih] at he; cases he
 ·rw [zhn]; rfl
 ·rw [zdJ hr]
  have h1 : r ≠ 124 := h1
  have h2 : r ≠ 41 := h2
  have h3 : r ≠ 40 := h3
  have h4 : r ≠ 91 := h4
  unfold liR litP
  dsimp only
  rw [if_neg hr, Bool.true_and]
  by_cases hm : r = 42 \/ r = 43 \/ r = 63 \/ r = 93
  ·have : zdV r = true := by unfold zdV; rcases hm with rfl | rfl | rfl | rfl <;> decide
   rw [if_pos hm, this]; rfl
  ·have : zdV r = false := by
    unfold zdV
    simp only [not_or] at hm
    simp [hm.1, hm.2.1, hm.2.2.1, hm.2.2.2, h1, h2, h3, h4]
   rw [if_neg hm, this]; rfl
theorem go_E : ∀ n : Nat,
 (∀ (rs : List Int) (acc c : List Pt) (m : List Int), chR n rs acc = some (c, m) -> E m = E rs) /\
 (∀ (rs : List Int) (acc c : List Pt) (m : List Int), cnR n rs acc = some (c, m) -> E m = E rs) /\
 (∀ (rs : List Int) (x : Pt) (m : List Int), atR n rs = some (x, m) -> E m = E rs)
 | 0 => ⟨fun _ _ _ _ h => by simp [chR] at h, fun _ _ _ _ h => by simp [cnR] at h, fun _ _ _ h => by simp [atR] at h⟩
 | n + 1 => by
   obtain ⟨i1, i2, i3⟩ := go_E n
   refine ⟨?_, ?_, ?_⟩
   ·intro rs acc c m h
    rw [chR] at h
    split at h
    ·cases h
    ·next d k hk =>
     have e1 := i2 _ _ _ _ hk
     split at h
     ·next hb => rw [i1 _ _ _ _ h, (zaP (by decide) (by decide) hb).2.2, e1]
     ·injection h with h; injection h with _ h; subst h; exact e1
   ·intro rs acc c m h
    rw [cnR] at h
    split at h
    ·injection h with h; injection h with _ h; subst h; rfl
    ·split at h
     ·cases h
     ·next x k hk => rw [i2 _ _ _ _ h, (zii x k).2.2, i3 _ _ _ hk]
   ·intro rs x m h
    rw [atR] at h
    split at h
    ·next hb =>
     have e0 := (zaP (by decide) (by decide) hb).2.2
     split at h
     ·cases h
     ·next d k hk =>
      have e1 := i1 _ _ _ _ hk
      split at h
      ·next hc =>
       injection h with h; injection h with _ h; subst h
       rw [(zaP (by decide) (by decide) hc).2.2, e1, e0]
      ·cases h
    ·split at h
     ·next hb => rw [cl_E h]; exact (zaP (by decide) (by decide) hb).2.2
     ·split at h
      ·next hb =>
       injection h with h; injection h with _ h; subst h
       exact (zaP (by decide) (by decide) hb).2.2
      ·exact li_E h
theorem zil : ∀ n : Nat,
 (∀ (rs : List Int) (acc : List Pt), E rs = false -> (chR n rs acc).map (fun p => (p.1, S p.2)) = za7 n (S rs) acc) /\
 (∀ (rs : List Int) (acc : List Pt), E rs = false -> (cnR n rs acc).map (fun p => (p.1, S p.2)) = chainGo n (S rs) acc) /\
 (∀ (rs : List Int), E rs = false -> hd rs ≠ 124 -> hd rs ≠ 41 -> (atR n rs).map (fun p => (p.1, S p.2)) = zbC n (S rs))
 | 0 => ⟨fun _ _ _ => by simp [chR, za7], fun _ _ _ => by simp [cnR, chainGo], fun _ _ _ _ => by simp [atR, zbC]⟩
 | n + 1 => by
   obtain ⟨i1, i2, i3⟩ := zil n
   obtain ⟨e1, e2, e3⟩ := go_E n
   refine ⟨?_, ?_, ?_⟩
   ·intro rs acc he
    rw [chR, za7, <- i2 rs [] he]
    cases hk : cnR n rs [] with
    | none => rfl
    | some q =>
      obtain ⟨c, m⟩ := q
      have em : E m = false := by rw [e2 _ _ _ _ hk, he]
      show Option.map _ (if hd m = 124 then chR n m.tail (acc ++ [.chain c]) else some (acc ++ [.chain c], m)) = if atB (S m) 124 then za7 n (S m).tail (acc ++ [.chain c]) else some (acc ++ [.chain c], S m)
      rw [zcV (by decide) (by decide)]
      by_cases hb : hd m = 124
      ·obtain ⟨_, f2, f3⟩ := zaP (by decide) (by decide) hb
       rw [if_pos hb, decide_eq_true hb, if_pos rfl, <- f2]
       exact i1 _ _ (by rw [f3, em])
      ·rw [if_neg hb, decide_eq_false hb, if_neg (by simp)]; rfl
   ·intro rs acc he
    rw [cnR, chainGo]
    unfold zeK
    rw [zfL he, zcV (by decide) (by decide), zcV (by decide) (by decide)]
    by_cases hs : rs = [] \/ hd rs = 124 \/ hd rs = 41
    ·rw [if_pos hs, if_pos (by rcases hs with rfl | h | h <;> simp_all)]; rfl
    ·have hs2 : ¬ (rs.isEmpty || (decide (hd rs = 124) || decide (hd rs = 41))) = true := by
      intro h; simp at h; exact hs h
     simp only [not_or] at hs
     rw [if_neg (by rintro (h | h | h); exact hs.1 h; exact hs.2.1 h; exact hs.2.2 h), if_neg hs2, <- i3 rs he hs.2.1 hs.2.2]
     cases hk : atR n rs with
     | none => rfl
     | some q =>
       obtain ⟨x, m⟩ := q
       have em : E m = false := by rw [e3 _ _ _ hk, he]
       obtain ⟨t1, t2, t3⟩ := zii x m
       show Option.map _ (cnR n (tmR m) (acc ++ [tmF x m])) = chainGo n (zbs (S m)) (acc ++ [timesF x (S m)])
       rw [t1, t2]
       exact i2 _ _ (by rw [t3, em])
   ·intro rs he h1 h2
    rw [atR, zbC, zcV (by decide) (by decide), zcV (by decide) (by decide), zcV (by decide) (by decide)]
    by_cases h40 : hd rs = 40
    ·obtain ⟨_, f2, f3⟩ := zaP (by decide) (by decide) h40
     rw [if_pos h40, decide_eq_true h40, if_pos rfl, <- f2, <- i1 rs.tail [] (by rw [f3, he])]
     cases hk : chR n rs.tail [] with
     | none => rfl
     | some q =>
       obtain ⟨c, m⟩ := q
       show Option.map _ (if hd m = 41 then some (Pt.choice c, m.tail) else none) = if atB (S m) 41 then some (Pt.choice c, (S m).tail) else none
       rw [zcV (by decide) (by decide)]
       by_cases hb : hd m = 41
       ·obtain ⟨_, g2, _⟩ := zaP (by decide) (by decide) hb
        rw [if_pos hb, decide_eq_true hb, if_pos rfl, <- g2]; rfl
       ·rw [if_neg hb, decide_eq_false hb, if_neg Bool.false_ne_true]; rfl
    ·rw [if_neg h40, decide_eq_false h40, if_neg Bool.false_ne_true]
     by_cases h91 : hd rs = 91
     ·obtain ⟨_, f2, f3⟩ := zaP (by decide) (by decide) h91
      rw [if_pos h91, decide_eq_true h91, if_pos rfl, <- f2]
      exact cl_same (by rw [f3, he])
     ·rw [if_neg h91, decide_eq_false h91, if_neg Bool.false_ne_true]
      by_cases h46 : hd rs = 46
      ·obtain ⟨_, f2, _⟩ := zaP (by decide) (by decide) h46
       rw [if_pos h46, decide_eq_true h46, if_pos rfl, <- f2]; rfl
      ·rw [if_neg h46, decide_eq_false h46, if_neg Bool.false_ne_true]
       exact li_same he h1 h2 h40 h91
def rawP (rs : List Int) : Option Pt := match chR (3 * rs.length + 3) rs [] with
 | some (c, []) => some (.choice c)
 | _ => none
theorem raw_read (rs : List Int) : rawP rs = readP rs := by
 unfold rawP readP
 cases he : zaV false rs with
 | true =>
   rw [if_pos rfl]
   cases hk : chR (3 * rs.length + 3) rs [] with
   | none => rfl
   | some q =>
     obtain ⟨c, m⟩ := q
     cases m with
     | nil =>
       have := (go_E _).1 _ _ _ _ hk
       rw [show E rs = true from he] at this
       cases this
     | cons a as1 => rfl
 | false =>
   rw [if_neg Bool.false_ne_true]
   have hl := zbO false rs
   have h1 : zbn (zay false rs) [] = za7 (3 * rs.length + 3) (S rs) [] := (zew _).1 _ _ _ (Nat.le_refl _) (by show 3 * (zay false rs).length + 3 <= _; omega)
   rw [h1, <- (zil _).1 rs [] he]
   cases hk : chR (3 * rs.length + 3) rs [] with
   | none => rfl
   | some q =>
     obtain ⟨c, m⟩ := q
     have em : E m = false := by rw [(go_E _).1 _ _ _ _ hk]; exact he
     show _ = if (S m).isEmpty then some (Pt.choice c) else none
     rw [zfL em]
     cases m <;> rfl
end Go.Proofs.YtbcemjhaecelnaaGreatDoor.Pat
end

section
set_option maxHeartbeats 4000000
set_option maxRecDepth 100000
namespace Go.Proofs.YtbcemjhaecelnaaGreatDoor.Dpt
open Go.RowKit Go.Lib
open Go.Proofs.YtbcemjhaecelnaaGreatDoor.Pat
def zgL (w : World) (bp : Nat) (o : Option Addr) (rs : List Int) : Prop := rs = [] \/ ∃ b off, o = some ⟨b, off, none⟩ /\ b < bp /\ ∀ (j : Nat) r, rs[j]? = some r -> w.cell? ⟨b, off + j, none⟩ = some (.int .i32 r)
theorem zgL.keep {w w' : World} {bp : Nat} {o : Option Addr} {rs : List Int} (h : zgL w bp o rs) (hb : ∀ k, k < bp -> w'.heap[k]? = w.heap[k]?) : zgL w' bp o rs :=
 h.imp id fun ⟨b, off, e, hl, hc⟩ => ⟨b, off, e, hl, fun j r hj => (World.cell?_of_block (a := ⟨b, off + j, none⟩) (hb b hl)).trans (hc j r hj)⟩
def DP (w : World) (bp : Nat) (rs : List Int) (a : Nat) (bad : Bool) (k : Nat) : Prop := ∃ (vp : Value) (root : Int) (o : Option Addr) (c N : Nat) (xs : List Value),
 w.heap[bp]? = some (.cells #[vp, .int .i64 root, .slice o rs.length c, .int .i64 (a : Nat), .bool bad] 200 (0, 0)) /\ zgL w bp o rs /\ w.ownsRow (bp + 1) 213 9 vp N xs /\ N <= k
theorem DP.lt {w : World} {bp : Nat} {rs : List Int} {a : Nat} {bad : Bool} {k : Nat} (h : DP w bp rs a bad k) : bp < w.heap.size := by
 obtain ⟨_, _, _, _, _, _, h, _⟩ := h; exact (Array.getElem?_eq_some_iff.1 h).1
theorem zaG {w : World} {k T : Nat} {a b c d e : Value} (h : w.heap[k]? = some (.cells #[a, b, c, d, e] T (0, 0))) : (w.cell? ⟨k, 0, none⟩ = some a /\ w.cell? ⟨k, 1, none⟩ = some b /\ w.cell? ⟨k, 2, none⟩ = some c /\ w.cell? ⟨k, 3, none⟩ = some d /\ w.cell? ⟨k, 4, none⟩ = some e) /\ (w.frozen? ⟨k, 0, none⟩ = false /\ w.frozen? ⟨k, 1, none⟩ = false /\ w.frozen? ⟨k, 2, none⟩ = false /\ w.frozen? ⟨k, 3, none⟩ = false /\ w.frozen? ⟨k, 4, none⟩ = false) := by
 refine ⟨⟨?_, ?_, ?_, ?_, ?_⟩, ?_, ?_, ?_, ?_, ?_⟩ <;> simp [World.cell?, World.frozen?, h]
theorem zdY (w : World) (b i : Nat) (cs : Array Value) (T : TypeId) (lk : Nat × Nat) (h : w.heap[b]? = some (.cells cs T lk)) : w.cell? ⟨b, i, none⟩ = cs[i]? := by simp [World.cell?, h]
theorem DP.drewN {w : World} {bp : Nat} {rs : List Int} {a : Nat} {bad : Bool} {k : Nat} (h : DP w bp rs a bad k) (n : Nat) : DP (w.drewN n) bp rs a bad k := h
theorem DP.setAt {w : World} {bp : Nat} {rs : List Int} {a : Nat} {bad : Bool} {k : Nat} (h : DP w bp rs a bad k) (a' : Nat) (z : Int) (hz : z = (a' : Nat)) : DP (w.setCell ⟨bp, 3, none⟩ (.int .i64 z)) bp rs a' bad k := by
 subst hz
 obtain ⟨vp, root, o, c, N, xs, h1, h2, h3, h4⟩ := h
 refine ⟨vp, root, o, c, N, xs, heap_setCell_same w bp 3 #[vp, .int .i64 root, .slice o rs.length c, .int .i64 (a : Nat), .bool bad] 200 (.int .i64 (a' : Nat)) h1, h2.keep fun k hk => heap_setCell_other w ⟨bp, 3, none⟩ k _ (fun e => by have e2 : k = bp := e; omega), ?_, h4⟩
 refine h3.kept (row := some bp) ⟨rfl, rfl, rfl, by simp [World.setCell], fun k _ hk => heap_setCell_other w ⟨bp, 3, none⟩ k _ (fun e => hk (by simp [e]))⟩ ?_
 cases ho : vp.ownBlock with
 | none => exact .inl rfl
 | some g =>
   have := (h3.lt g ho).1
   exact .inr (by simp; omega)
theorem DP.setBad {w : World} {bp : Nat} {rs : List Int} {a : Nat} {bad : Bool} {k : Nat} (h : DP w bp rs a bad k) (b' : Bool) : DP (w.setCell ⟨bp, 4, none⟩ (.bool b')) bp rs a b' k := by
 obtain ⟨vp, root, o, c, N, xs, h1, h2, h3, h4⟩ := h
 refine ⟨vp, root, o, c, N, xs, heap_setCell_same w bp 4 #[vp, .int .i64 root, .slice o rs.length c, .int .i64 (a : Nat), .bool bad] 200 (.bool b') h1, h2.keep fun k hk => heap_setCell_other w ⟨bp, 4, none⟩ k _ (fun e => by have e2 : k = bp := e; omega), ?_, h4⟩
 refine h3.kept (row := some bp) ⟨rfl, rfl, rfl, by simp [World.setCell], fun k _ hk => heap_setCell_other w ⟨bp, 4, none⟩ k _ (fun e => hk (by simp [e]))⟩ ?_
 cases ho : vp.ownBlock with
 | none => exact .inl rfl
 | some g =>
   have := (h3.lt g ho).1
   exact .inr (by simp; omega)
theorem below_set {B k : Nat} {a w : World} (h : Below B a w) (hk : B <= k) (i : Nat) (v : Value) : Below B a (w.setCell ⟨k, i, none⟩ v) := h.setCell hk _
def Kept1 (bp : Nat) (w w' : World) : Prop := w'.heap.size = w.heap.size /\ (∀ j, j ≠ bp -> w'.heap[j]? = w.heap[j]?) /\ w'.cell? ⟨bp, 0, none⟩ = w.cell? ⟨bp, 0, none⟩
theorem Kept1.trans {bp : Nat} {a b c : World} (h : Kept1 bp a b) (g : Kept1 bp b c) : Kept1 bp a c := ⟨g.1.trans h.1, fun j hj => (g.2.1 j hj).trans (h.2.1 j hj), g.2.2.trans h.2.2⟩
theorem Kept1.set {w : World} {bp : Nat} {rs : List Int} {a : Nat} {bad : Bool} {k : Nat} (h : DP w bp rs a bad k) (i : Nat) (hi : i ≠ 0) (v : Value) : Kept1 bp w (w.setCell ⟨bp, i, none⟩ v) := by
 obtain ⟨vp, root, o, c, N, xs, h1, _⟩ := h
 refine ⟨by simp [World.setCell], fun j hj => heap_setCell_other w ⟨bp, i, none⟩ j _ hj, ?_⟩
 have := heap_setCell_same w bp i #[vp, .int .i64 root, .slice o rs.length c, .int .i64 (a : Nat), .bool bad] 200 v h1
 rw [zdY w bp 0 _ _ _ h1, zdY _ bp 0 _ _ _ this, Array.getElem?_setIfInBounds_ne hi]
theorem zfv {rs : List Int} {a : Nat} (h : rs.length <= a) : hd (rs.drop a) = -1 := by rw [List.drop_eq_nil_of_le h]; rfl
theorem zeo {rs : List Int} {a : Nat} {r : Int} (h : rs[a]? = some r) : hd (rs.drop a) = r := by
 obtain ⟨hp, e⟩ := List.getElem?_eq_some_iff.1 h
 rw [List.drop_eq_getElem_cons hp, e]; rfl
theorem next_any (bp : Nat) (rs : List Int) (a : Nat) (bad : Bool) (k : Nat) (w : World) (h : DP w bp rs a bad k) (_hl : rs.length <= 1000000) (ha : a <= 1000000) :
 Calls Tryz.prog 170 #[.pointer (some ⟨bp, 0, none⟩)] w fun e w' => e = .returned (.int .i32 (hd (rs.drop a))) /\ ∃ q, w' = w.drewN q := by
 obtain ⟨vp, root, o, c, N, xs, h1, h2, -, -⟩ := h
 obtain ⟨⟨c0, c1, c2, c3, c4⟩, -⟩ := zaG h1
 obtain ⟨n, hn⟩ : ∃ n, rs.length = n := ⟨_, rfl⟩
 rw [hn] at c2
 have HN := zh hn
 by_cases hlt : a < n
 ·have j1 : (a : Int) < n := by omega
  have j0 : (0 : Int) <= (a : Int) := by omega
  obtain ⟨r, hr⟩ : ∃ r, rs[a]? = some r := ⟨_, List.getElem?_eq_getElem (by omega)⟩
  obtain ⟨b, off, rfl, hb, hc⟩ := h2.resolve_left (fun e => by rw [e] at hr; simp at hr)
  have d0 := hc a r hr
  rw [zeo hr]
  clear h1 hc hr hn
  go_enter Tryz.func170, Tryz.ntmps170
  go_wp2_with fail
  go_quiet (fail)
  go_wp2_with fail
  go_quiet (fail)
  go_wp2
  go_ret
  exact ⟨rfl, ⟨_, World.drewN_drewN _ _ _⟩⟩
 ·have j1 : ¬ (a : Int) < n := by omega
  rw [zfv (by omega)]
  clear h1 h2 hn
  go_enter Tryz.func170, Tryz.ntmps170
  go_wp2_with fail
  go_quiet (fail)
  go_wp2
  go_ret
  exact ⟨rfl, _, rfl⟩
def ItemEnd (w : World) (bp : Nat) (rs : List Int) (a k : Nat) (e : Ending) (w' : World) : Prop := ∃ (r : Int) (a' : Nat) (b' : Bool), e = .returned (.int .i32 r) /\ DP w' bp rs a' b' k /\ Below bp w w' /\ Kept1 bp w w' /\ a < a' /\ a' <= a + 2 /\ match itR (rs.drop a) with
 | none => b' = true
 | some (x, m) => b' = false /\ r = x /\ rs.drop a' = m /\ a' <= rs.length
theorem item_any (bp : Nat) (rs : List Int) (a k : Nat) (w : World) (h : DP w bp rs a false k) (hl : rs.length <= 1000) (ha : a < rs.length) (hpos : ∀ r ∈ rs, 0 <= r) :
 Calls Tryz.prog 188 #[.pointer (some ⟨bp, 0, none⟩)] w (ItemEnd w bp rs a k) := by
 have HN1 := zh (next_any bp rs a false k w h (by omega) (by omega))
 obtain ⟨r, hr⟩ : ∃ r, rs[a]? = some r := ⟨_, List.getElem?_eq_getElem ha⟩
 have hr0 := hpos r (List.mem_of_getElem? hr)
 rw [zeo hr] at HN1
 have HD := zh h
 have HR := zh hr
 have hdr : rs.drop a = r :: rs.drop (a + 1) := by
  obtain ⟨hp, e⟩ := List.getElem?_eq_some_iff.1 hr
  rw [List.drop_eq_getElem_cons hp, e]
 have HDR := zh hdr
 have ia : (a : Int) <= 1000 := by omega
 obtain ⟨n, hn⟩ : ∃ n, rs.length = n := ⟨_, rfl⟩
 have HLN := zh hn
 have first : ∀ w1, (∃ q, w1 = w.drewN q) -> DP w1 bp rs a false k /\ Below bp w w1 /\ Kept1 bp w w1 := by
  rintro w1 ⟨q, rfl⟩
  exact ⟨h, ⟨rfl, rfl, rfl, Nat.le_refl _, fun _ _ => rfl⟩, rfl, fun _ _ => rfl, rfl⟩
 by_cases h92 : r = 92
 ·subst h92
  obtain ⟨x, hx⟩ : ∃ x, hd (rs.drop (a + 1)) = x := ⟨_, rfl⟩
  have HX := zh hx
  have hxx : (x < 0 /\ rs.drop (a + 1) = []) \/ (¬ x < 0 /\ rs.drop (a + 1) = x :: rs.drop (a + 2) /\ a + 2 <= n) := by
   by_cases h2 : a + 1 < rs.length
   ·obtain ⟨y, hy⟩ : ∃ y, rs[a + 1]? = some y := ⟨_, List.getElem?_eq_getElem h2⟩
    have hy0 := hpos y (List.mem_of_getElem? hy)
    rw [zeo hy] at hx
    subst hx
    refine .inr ⟨by omega, ?_, by omega⟩
    obtain ⟨hp, e⟩ := List.getElem?_eq_some_iff.1 hy
    rw [List.drop_eq_getElem_cons hp, e]
   ·rw [zfv (by omega)] at hx
    exact .inl ⟨by omega, List.drop_eq_nil_of_le (by omega)⟩
  have HXX := zh hxx
  have HN2 := zh (fun W (h2 : DP W bp rs (a + 1) false k) => next_any bp rs (a + 1) false k W h2 (by omega) (by omega))
  rw [hx] at HN2
  have HF := zh first
  clear h hr hdr hn hx hxx first
  go_enter Tryz.func188, Tryz.ntmps188
  go_wp2_with fail
  refine HN1.out.mono ?_
  rintro e w1 ⟨rfl, hq⟩
  obtain ⟨hd1, hb1, hk1⟩ := HF.out w1 hq
  have hd2 := hd1.setAt (a + 1) ((a : Int) + 1) (by omega)
  have HB2 := zh (below_set hb1 (Nat.le_refl _) 3 (.int .i64 ((a : Int) + 1)))
  have HK2 := zh (hk1.trans (Kept1.set hd1 3 (by decide) (.int .i64 ((a : Int) + 1))))
  have HD2 := zh hd2
  have HNN := zh (HN2.out _ hd2)
  obtain ⟨vp, root, o, c, N, xs, h1, -⟩ := hd1
  obtain ⟨⟨c0, c1, c2, c3, c4⟩, f0, f1, f2, f3, f4⟩ := zaG h1
  clear hq hb1 hk1 hd2 h1
  go_wp2_with fail
  refine HNN.out.mono ?_
  rintro e w3 ⟨rfl, hq⟩
  have hd3 : DP w3 bp rs (a + 1) false k := by obtain ⟨q, rfl⟩ := hq; exact HD2.out
  have hb3 : Below bp w w3 := by obtain ⟨q, rfl⟩ := hq; exact ⟨HB2.out.os, HB2.out.tape, HB2.out.output, HB2.out.size, HB2.out.block⟩
  have hk3 : Kept1 bp w w3 := by obtain ⟨q, rfl⟩ := hq; exact HK2.out
  have hd4 := (hd3.setAt (a + 2) ((a : Int) + 1 + 1) (by omega)).setBad (decide (x < 0))
  have HE := zh (And.intro hd4 (And.intro (below_set (below_set hb3 (Nat.le_refl _) 3 (.int .i64 ((a : Int) + 1 + 1))) (Nat.le_refl _) 4 (.bool (decide (x < 0)))) (hk3.trans ((Kept1.set hd3 3 (by decide) (.int .i64 ((a : Int) + 1 + 1))).trans (Kept1.set (hd3.setAt (a + 2) ((a : Int) + 1 + 1) (by omega)) 4 (by decide) (.bool (decide (x < 0))))))))
  clear c0 c1 c2 c3 c4 f0 f1 f2 f3 f4
  obtain ⟨vp, root, o, c, N, xs, h1, -⟩ := hd3
  obtain ⟨⟨c0, c1, c2, c3, c4⟩, f0, f1, f2, f3, f4⟩ := zaG h1
  have c3' : w3.cell? ⟨bp, 3, none⟩ = some (.int .i64 ((a : Int) + 1)) := by rw [c3]; simp
  clear hq hb3 hk3 hd4 h1 c3
  go_wp2
  go_ret
  refine ⟨x, a + 2, decide (x < 0), rfl, HE.out.1, HE.out.2.1, HE.out.2.2, by omega, by omega, ?_⟩
  rw [HDR.out]
  rcases HXX.out with ⟨g1, g2⟩ | ⟨g1, g2, g3⟩
  ·rw [g2]
   show decide (x < 0) = true
   simp [g1]
  ·rw [g2]
   show decide (x < 0) = false /\ x = x /\ rs.drop (a + 2) = rs.drop (a + 2) /\ a + 2 <= rs.length
   exact ⟨by simp [g1], rfl, rfl, by rw [HLN.out]; exact g3⟩
 ·have e92 : (r == 92) = false := by simp [h92]
  have e0 : decide (r < 0) = false := by simp; omega
  have HF := zh first
  have HR0 := zh hr0
  clear h hr hdr hn first hr0
  go_enter Tryz.func188, Tryz.ntmps188
  go_wp2_with fail
  refine HN1.out.mono ?_
  rintro e w1 ⟨rfl, hq⟩
  obtain ⟨hd1, hb1, hk1⟩ := HF.out w1 hq
  have hd3 := (hd1.setAt (a + 1) ((a : Int) + 1) (by omega)).setBad (decide (r < 0))
  have HE := zh (And.intro hd3 (And.intro (below_set (below_set hb1 (Nat.le_refl _) 3 (.int .i64 ((a : Int) + 1))) (Nat.le_refl _) 4 (.bool (decide (r < 0)))) (hk1.trans ((Kept1.set hd1 3 (by decide) (.int .i64 ((a : Int) + 1))).trans (Kept1.set (hd1.setAt (a + 1) ((a : Int) + 1) (by omega)) 4 (by decide) (.bool (decide (r < 0))))))))
  obtain ⟨vp, root, o, c, N, xs, h1, -⟩ := hd1
  obtain ⟨⟨c0, c1, c2, c3, c4⟩, f0, f1, f2, f3, f4⟩ := zaG h1
  have e0' := zh e0
  clear hq hb1 hk1 hd3 h1 e0
  go_wp2
  go_ret
  refine ⟨r, a + 1, decide (r < 0), rfl, HE.out.1, HE.out.2.1, HE.out.2.2, by omega, by omega, ?_⟩
  rw [HDR.out]
  unfold itR
  dsimp only
  rw [if_neg h92]
  exact ⟨e0'.out, rfl, rfl, by omega⟩
theorem infoP : (Tryz.prog.info? 213).map (fun i => (i.zero, i.size, i.bytes)) = some (some (.agg #[.int .i64 0, .int .i32 0, .slice none 0 0, .slice none 0 0, .bool false, .int .i64 0, .int .i64 0, .int .i64 0, .bool false]), 9, 104) := by kernel_rfl
theorem zeL {w : World} {B e size n : Nat} {v : Value} {xs : List Value} (h : w.ownsRow B e size v n xs) : ∃ o c, v = .slice o n c := by
 rcases h.2 with ⟨rfl, rfl⟩ | ⟨g, cap, cur, rfl, _⟩
 ·exact ⟨_, _, rfl⟩
 ·exact ⟨_, _, rfl⟩
theorem own_stepD {P : Program} {ops : Array Oper} {o : Oper} {a : Act} {w : World} {K : Act -> World -> Prop} {Q : Exit -> Act -> World -> Prop} {E : Prop} (hg : o.guard = none) (s x : Operand) (t : TypeId)
 (ho : o.op = .call { callee := .builtin .append, args := #[s, x], argTypes := #[t, t] })
 (base : Nat) (e : TypeId) (i : TypeInfo) (z : Value) (size bytes : Nat) (ht : P.underlying t = some (.slice e)) (hi : P.info? e = some i) (hz : i.zero = some z)
 (hsize : i.size = size) (hby : i.bytes = bytes) (hzs : z.cells.size = size) (hsz : 0 < size)
 (v : Value) (n : Nat) (xs : List Value) (hs : a.eval s = v) (hown : w.ownsRow base e size v n xs)
 (ad : Addr) (m c : Nat) (news : List Value) (hx : a.eval x = .slice (some ad) m c) (hl : news.length = m * size) (hnews : ∀ j u, news[j]? = some u -> w.cell? (ad.add j) = some u) (h1 : ∀ u ∈ news, u.oneCell' = true)
 (h63 : n + m <= maxLen) (hbytes : (n + m) * bytes <= 140737488355328) (hbase : base <= w.heap.size)
 (h : ∀ v' w', w'.ownsRow base e size v' (n + m) (xs ++ news) -> w.grownBy w' v.ownBlock -> K (a.put o.dst v') w') :
 if Region.wanted o (yielded ops a.tmps) = true then Oper.wp P o a w K Q else E := by
 rw [if_pos (by simp [Region.wanted, hg])]
 exact wp_append_own w s x t ho base e i z size bytes ht hi hz hsize hby hzs hsz v n xs hs hown ad m c news hx hl hnews h1 h63 hbytes hbase fun v' w' h2 h3 _ => h v' w' h2 h3
theorem cells9 (w : World) (c0 c1 c2 c3 c4 c5 c6 c7 c8 : Value) (t : TypeId) : ∀ j u, [c0, c1, c2, c3, c4, c5, c6, c7, c8][j]? = some u -> (w.alloc (.cells #[c0, c1, c2, c3, c4, c5, c6, c7, c8] t)).cell? ((⟨w.heap.size, 0, none⟩ : Addr).add j) = some u := by
 intro j u hj
 match j, hj with
 | 0, hj => simp at hj; subst hj; simp [Addr.add]
 | 1, hj => simp at hj; subst hj; simp [Addr.add]
 | 2, hj => simp at hj; subst hj; simp [Addr.add]
 | 3, hj => simp at hj; subst hj; simp [Addr.add]
 | 4, hj => simp at hj; subst hj; simp [Addr.add]
 | 5, hj => simp at hj; subst hj; simp [Addr.add]
 | 6, hj => simp at hj; subst hj; simp [Addr.add]
 | 7, hj => simp at hj; subst hj; simp [Addr.add]
 | 8, hj => simp at hj; subst hj; simp [Addr.add]
 | j + 9, hj => simp at hj
theorem grown_belowD {B : Nat} {w w2 w3 : World} {v : Value} (hb : Below B w w2) (hg : w2.grownBy w3 v.ownBlock) (hB : B <= w2.heap.size) (hv : ∀ g, v.ownBlock = some g -> B <= g) : Below B w w3 :=
 hb.trans ⟨hg.os, hg.tape, hg.output, hg.size, fun k hk => hg.block k (by omega) (fun e => by have := hv k e.symm; omega)⟩
def PartEnd (w : World) (bp : Nat) (rs : List Int) (a' : Nat) (bad' : Bool) (k' : Nat) (e : Ending) (w' : World) : Prop := (∃ n : Int, e = .returned (.int .i64 n)) /\ DP w' bp rs a' bad' k' /\ Below bp w w'
theorem zcl (bp : Nat) (rs : List Int) (a : Nat) (bad : Bool) (k : Nat) (w : World) (h : DP w bp rs a bad k) (hk : k <= 100000) (kd r : Int) (lo hi : Option Addr) (ln lc hn hc : Nat) (nt : Bool) (pa pb le : Int) (on : Bool) :
 Calls Tryz.prog 171 #[.pointer (some ⟨bp, 0, none⟩), .agg #[.int .i64 kd, .int .i32 r, .slice lo ln lc, .slice hi hn hc, .bool nt, .int .i64 pa, .int .i64 pb, .int .i64 le, .bool on]] w (PartEnd w bp rs a bad (k + 1)) := by
 obtain ⟨ie, hinf, hz0, hz1, hz2⟩ := info_parts infoP
 have hlt := h.lt
 obtain ⟨vp, root, o, c, N, xs, h1, h2, h3, h4⟩ := h
 obtain ⟨wP, hwP⟩ : ∃ wP, w.alloc (Obj.cells #[.int .i64 kd, .int .i32 r, .slice lo ln lc, .slice hi hn hc, .bool nt, .int .i64 pa, .int .i64 pb, .int .i64 le, .bool on] 213) = wP := ⟨_, rfl⟩
 have hbP : Below w.heap.size w wP := by rw [<- hwP]; exact (Below.refl _ _).alloc (Nat.le_refl _) _
 have hsP : w.heap.size < wP.heap.size := by rw [<- hwP]; simp
 have hbx : wP.heap[w.heap.size]? = some (.cells #[.int .i64 kd, .int .i32 r, .slice lo ln lc, .slice hi hn hc, .bool nt, .int .i64 pa, .int .i64 pb, .int .i64 le, .bool on] 213 (0, 0)) := by rw [<- hwP]; exact Array.getElem?_push_size
 have h1P : wP.heap[bp]? = _ := (hbP.block bp hlt).trans h1
 have HO0 := zh h3
 have HOP := zh (show wP.ownsRow (bp + 1) 213 9 vp N xs by rw [<- hwP]; exact h3.alloc _)
 obtain ⟨vo, vc, hvp⟩ := zeL h3
 subst hvp
 have HH := zh (fun (W : World) (hW : ∀ j, j <= bp \/ j = w.heap.size -> W.heap[j]? = wP.heap[j]?) => (show W.cell? ⟨bp, 0, none⟩ = some (.slice vo N vc) /\ W.cell? ⟨w.heap.size, 0, none⟩ = some (.int .i64 kd) /\ W.cell? ⟨w.heap.size, 1, none⟩ = some (.int .i32 r) /\ W.cell? ⟨w.heap.size, 2, none⟩ = some (.slice lo ln lc) /\ W.cell? ⟨w.heap.size, 3, none⟩ = some (.slice hi hn hc) /\ W.cell? ⟨w.heap.size, 4, none⟩ = some (.bool nt) /\ W.cell? ⟨w.heap.size, 5, none⟩ = some (.int .i64 pa) /\ W.cell? ⟨w.heap.size, 6, none⟩ = some (.int .i64 pb) /\ W.cell? ⟨w.heap.size, 7, none⟩ = some (.int .i64 le) /\ W.cell? ⟨w.heap.size, 8, none⟩ = some (.bool on) from by
  have e1 := (hW bp (.inl (Nat.le_refl _))).trans h1P
  have e2 := (hW w.heap.size (.inr rfl)).trans hbx
  refine ⟨?_, ?_, ?_, ?_, ?_, ?_, ?_, ?_, ?_, ?_⟩ <;> simp [World.cell?, e1, e2]))
 have HFZ := zh (fun (W : World) (hW : W.heap[bp]? = wP.heap[bp]?) => (show W.frozen? ⟨bp, 0, none⟩ = false from by have e1 := hW.trans h1P; simp [World.frozen?, e1]))
 have HP := zh (And.intro hbP (And.intro h1P h2))
 have HWP := zh hwP
 have HLT := zh (And.intro hlt hsP)
 have HN := zh h4
 have hN : N <= 100000 := by omega
 obtain ⟨r0, r1, r2, r3, r4, r5, r6, r7, r8, r9⟩ := HH.out wP (fun _ _ => rfl)
 obtain ⟨t0, t1, t2, t3, t4, t5, t6, t7, t8, t9⟩ := HH.out ((wP.alloc (.cells #[.int .i64 kd, .int .i32 r, .slice lo ln lc, .slice hi hn hc, .bool nt, .int .i64 pa, .int .i64 pb, .int .i64 le, .bool on] 213)).drew) (fun j hj => Below.heap_alloc _ _ _ (by rcases hj with hj | hj <;> omega))
 clear h1 h2 h3 h4 hbP hsP hbx h1P hwP hlt
 go_enter Tryz.func171, Tryz.ntmps171
 go_wp2_with fail
 rw [show w.alloc (Obj.cells #[.int .i64 kd, .int .i32 r, .slice lo ln lc, .slice hi hn hc, .bool nt, .int .i64 pa, .int .i64 pb, .int .i64 le, .bool on] 213) = wP from HWP.out]
 go_region_law (first
  | (refine own_stepD rfl (.tmp 9) (.tmp 11) 198 rfl (bp + 1) 213 ie _ 9 104 Tryz.underlying198 hinf hz0 hz1 hz2 rfl (by decide) (.slice vo N vc) N xs rfl (World.ownsRow.alloc (w := wP.drew) HOP.out _) ⟨wP.heap.size, 0, none⟩ 1 1 [.int .i64 kd, .int .i32 r, .slice lo ln lc, .slice hi hn hc, .bool nt, .int .i64 pa, .int .i64 pb, .int .i64 le, .bool on] rfl rfl (cells9 wP.drew _ _ _ _ _ _ _ _ _ _) (by intro u hu; simp at hu; rcases hu with rfl | rfl | rfl | rfl | rfl | rfl | rfl | rfl | rfl <;> rfl) (by unfold maxLen; omega) (by omega) (by have := HLT.out; simp; omega) ?_
     intro v2 wC hoC hgC
     obtain ⟨o2, c2, rfl⟩ := zeL hoC
     have HOC := zh hoC
     have HGC := zh hgC
     have hWC : ∀ j, j <= bp \/ j = w.heap.size -> wC.heap[j]? = wP.heap[j]? := fun j hj => by
      have hl := HLT.out
      refine (hgC.block j (by simp; rcases hj with hj | hj <;> omega) (fun e => ?_)).trans (Below.heap_alloc _ _ _ (by rcases hj with hj | hj <;> (show _ < wP.heap.size; omega)))
      have h5 := HO0.out.lt j e.symm
      rcases hj with hj | hj <;> omega
     obtain ⟨s0, s1, s2, s3, s4, s5, s6, s7, s8, s9⟩ := HH.out wC hWC
     have f0 := HFZ.out wC (hWC bp (.inl (Nat.le_refl _)))
     have HWC := zh hWC
     clear hoC hgC hWC))
 all_goals
  go_wp2
  go_ret
  have hl := HLT.out
  have hbC : Below bp w wC := grown_belowD (w2 := wP.drew.alloc (.cells #[.int .i64 kd, .int .i32 r, .slice lo ln lc, .slice hi hn hc, .bool nt, .int .i64 pa, .int .i64 pb, .int .i64 le, .bool on] 213)) ((HP.out.1.mono (by omega)).drew.alloc (by show bp <= wP.heap.size; omega) _) HGC.out (by simp; omega) (fun g hg => by have := HOP.out.lt g hg; omega)
  have e1 := (HWC.out bp (.inl (Nat.le_refl _))).trans HP.out.2.1
  refine ⟨⟨_, rfl⟩, ⟨_, root, o, c, N + 1, _, heap_setCell_same wC bp 0 #[.slice vo N vc, .int .i64 root, .slice o rs.length c, .int .i64 (a : Nat), .bool bad] 200 _ e1, HP.out.2.2.keep fun j hj => (heap_setCell_other wC ⟨bp, 0, none⟩ j _ (fun e => by have e2 : j = bp := e; omega)).trans (hbC.block j hj), HOC.out.kept (row := some bp) ⟨rfl, rfl, rfl, by simp [World.setCell], fun j _ hj => heap_setCell_other wC ⟨bp, 0, none⟩ j _ (fun e => hj (by simp [e]))⟩ ?_, by have := HN.out; omega⟩, below_set hbC (Nat.le_refl _) 0 _⟩
  cases ho : Value.ownBlock (.slice o2 (N + 1) c2) with
  | none => exact .inl rfl
  | some g =>
    have := (HOC.out.lt g ho).1
    exact .inr (by simp; omega)
end Go.Proofs.YtbcemjhaecelnaaGreatDoor.Dpt
end
