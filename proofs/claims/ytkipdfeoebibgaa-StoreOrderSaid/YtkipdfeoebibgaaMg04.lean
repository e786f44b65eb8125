import Derived.Lib.MapLaws
import Derived.Test.YtkipdfeoebibgaaMg03
import Derived.Test.YtkipdfeoebibgaaMg01
import Derived.OneCell
import Derived.Deep.RegionHeld3
import Derived.Lib.SliceRun
section
/- Stores of points under keys that are in an order, plain. No program in it. -/

namespace Go.Proofs.Ytkipdfeoebibgaa.Sto

abbrev Pt := Int × Int
/-- Keys in a strict order. -/
class Keys (K : Type) where
  lt : K → K → Bool
  irr : ∀ a, lt a a = false
  trans : ∀ a b c, lt a b = true → lt b c = true → lt a c = true
  tri : ∀ a b, lt a b = false → lt b a = false → a = b
variable {K : Type} [Keys K]
open Keys
theorem lt_asymm {a b : K} (h : lt a b = true) : lt b a = false := by
  cases hb : lt b a with
  | false => rfl
  | true => have := trans _ _ _ h hb; rw [irr] at this; cases this
theorem lt_ne {a b : K} (h : lt a b = true) : a ≠ b := fun e => by rw [e, irr] at h; cases h

/-- A store: series by their keys. -/
abbrev Store (K : Type) := List (K × List Pt)
/-- Do the keys rise? -/
def Rises (s : Store K) : Prop := s.Pairwise fun a b => lt a.1 b.1 = true
/-- The points under a key. -/
def find (k : K) : Store K → Option (List Pt)
  | [] => none
  | (k', ps) :: s => if lt k' k then find k s else if lt k k' then none else some ps
/-- One more point under a key. -/
def ins (k : K) (x : Pt) : Store K → Store K
  | [] => [(k, [x])]
  | (k', ps) :: s => if lt k' k then (k', ps) :: ins k x s else if lt k k' then (k, [x]) :: (k', ps) :: s else (k', ps ++ [x]) :: s
def lastT (ps : List Pt) : Int := match ps.getLast? with | some x => x.1 | none => 0
/-- Put, but for arguments that may not be: the store, and the error. -/
def putF (s : Store K) (k : K) (x : Pt) : Store K × Int :=
  match find k s with
  | some ps => if x.1 ≤ lastT ps then (s, 6) else if 25 ≤ ps.length then (s, 8) else (ins k x s, 0)
  | none => if 40 ≤ s.length then (s, 8) else (ins k x s, 0)
def pointsN (s : Store K) : Nat := (s.map fun a => a.2.length).sum

theorem ins_keys {k : K} {x : Pt} : ∀ {s : Store K} {a : K × List Pt}, a ∈ ins k x s → a.1 = k ∨ ∃ b ∈ s, b.1 = a.1
  | [], a, h => by
    simp [ins] at h; subst h; exact .inl rfl
  | (k', ps) :: s, a, h => by
    rw [ins] at h
    split at h
    · rcases List.mem_cons.1 h with rfl | h
      · exact .inr ⟨_, List.mem_cons_self, rfl⟩
      · rcases ins_keys h with h | ⟨b, hb, e⟩
        · exact .inl h
        · exact .inr ⟨b, List.mem_cons_of_mem _ hb, e⟩
    · split at h
      · rcases List.mem_cons.1 h with rfl | h
        · exact .inl rfl
        · exact .inr ⟨a, h, rfl⟩
      · rcases List.mem_cons.1 h with rfl | h
        · exact .inr ⟨_, List.mem_cons_self, rfl⟩
        · exact .inr ⟨a, List.mem_cons_of_mem _ h, rfl⟩
theorem rises_ins {k : K} {x : Pt} : ∀ {s : Store K}, Rises s → Rises (ins k x s)
  | [], _ => by simp [ins, Rises]
  | (k', ps) :: s, h => by
    obtain ⟨h1, h2⟩ := List.pairwise_cons.1 h
    rw [ins]
    split
    · next hl =>
      refine List.pairwise_cons.2 ⟨fun a ha => ?_, rises_ins h2⟩
      rcases ins_keys ha with e | ⟨b, hb, e⟩
      · rw [e]; exact hl
      · rw [← e]; exact h1 b hb
    · split
      · next hl =>
        refine List.pairwise_cons.2 ⟨fun a ha => ?_, h⟩
        rcases List.mem_cons.1 ha with rfl | ha
        · exact hl
        · exact trans _ _ _ hl (h1 a ha)
      · exact List.pairwise_cons.2 ⟨h1, h2⟩
theorem find_none_of {k : K} : ∀ {s : Store K}, (∀ a ∈ s, lt k a.1 = true) → find k s = none
  | [], _ => rfl
  | (k', ps) :: s, h => by
    have h1 := h _ List.mem_cons_self
    rw [find, if_neg (by rw [lt_asymm h1]; simp), if_pos h1]
theorem find_ins {k : K} {x : Pt} : ∀ {s : Store K}, Rises s → find k (ins k x s) = some ((find k s).getD [] ++ [x])
  | [], _ => by simp [ins, find, irr]
  | (k', ps) :: s, h => by
    obtain ⟨h1, h2⟩ := List.pairwise_cons.1 h
    rw [ins, find]
    split
    · next hl => rw [find, if_pos hl, find_ins h2]
    · next hl =>
      split
      · next hl2 => rw [find, if_neg (by rw [irr]; simp), if_neg (by rw [irr]; simp)]; rfl
      · next hl2 => rw [find, if_neg hl, if_neg hl2]; rfl
theorem find_ins_ne {k j : K} {x : Pt} (hne : j ≠ k) : ∀ {s : Store K}, Rises s → find j (ins k x s) = find j s
  | [], _ => by
    rw [ins, find, find]
    split
    · rfl
    · next h1 =>
      split
      · rfl
      · next h2 => exact absurd (tri j k (by simpa using h2) (by simpa using h1)) hne
  | (k', ps) :: s, h => by
    obtain ⟨h1, h2⟩ := List.pairwise_cons.1 h
    rw [ins]
    split
    · next hl => rw [find, find, find_ins_ne hne h2]
    · next hl =>
      split
      · next hl2 =>
        rw [find]
        split
        · rfl
        · next hj =>
          split
          · next hj2 =>
            rw [find, if_neg (by rw [lt_asymm (trans _ _ _ hj2 hl2)]; simp), if_pos (trans _ _ _ hj2 hl2)]
          · next hj2 => exact absurd (tri j k (by simpa using hj2) (by simpa using hj)) hne
      · next hl2 =>
        have e : k' = k := tri k' k (by simpa using hl) (by simpa using hl2)
        subst e
        rw [find, find]
        split
        · rfl
        · next hj =>
          split
          · rfl
          · next hj2 => exact absurd (tri j k' (by simpa using hj2) (by simpa using hj)) hne
theorem len_ins {k : K} {x : Pt} : ∀ {s : Store K}, (ins k x s).length = s.length + (if (find k s).isSome then 0 else 1)
  | [] => by simp [ins, find]
  | (k', ps) :: s => by
    rw [ins, find]
    split
    · rw [List.length_cons, len_ins, List.length_cons]; omega
    · split <;> simp
theorem points_ins {k : K} {x : Pt} : ∀ {s : Store K}, pointsN (ins k x s) = pointsN s + 1
  | [] => by simp [ins, pointsN]
  | (k', ps) :: s => by
    have ih := points_ins (k := k) (x := x) (s := s)
    unfold pointsN at ih ⊢
    rw [ins]
    split
    · simp only [List.map_cons, List.sum_cons, ih]; omega
    · split
      · simp only [List.map_cons, List.sum_cons, List.length_singleton]; omega
      · simp only [List.map_cons, List.sum_cons, List.length_append, List.length_singleton]; omega
/-- Two stores whose keys rise and that find the same, are the same. -/
theorem find_mem {k : K} {ps : List Pt} : ∀ {s : Store K}, Rises s → (find k s = some ps ↔ (k, ps) ∈ s)
  | [], _ => by simp [find]
  | (k', qs) :: s, h => by
    obtain ⟨h1, h2⟩ := List.pairwise_cons.1 h
    rw [find]
    split
    · next hl =>
      rw [find_mem h2, List.mem_cons]
      constructor
      · exact .inr
      · rintro (e | h)
        · cases e; rw [irr] at hl; cases hl
        · exact h
    · next hl =>
      split
      · next hl2 =>
        constructor
        · intro h; cases h
        · intro h
          rcases List.mem_cons.1 h with e | h
          · cases e; rw [irr] at hl2; cases hl2
          · have := h1 _ h; rw [lt_asymm hl2] at this; cases this
      · next hl2 =>
        have e : k' = k := tri k' k (by simpa using hl) (by simpa using hl2)
        subst e
        rw [List.mem_cons]
        constructor
        · intro h; cases h; exact .inl rfl
        · rintro (e | h)
          · cases e; rfl
          · have := h1 _ h; rw [irr] at this; cases this
theorem store_ext : ∀ {s t : Store K}, Rises s → Rises t → (∀ k, find k s = find k t) → s = t
  | [], [], _, _, _ => rfl
  | [], (k, ps) :: t, _, ht, h => by
    have := (find_mem ht).2 (List.mem_cons_self (a := (k, ps)) (l := t))
    rw [← h k] at this; cases this
  | (k, ps) :: s, [], hs, _, h => by
    have := (find_mem hs).2 (List.mem_cons_self (a := (k, ps)) (l := s))
    rw [h k] at this; cases this
  | (k, ps) :: s, (j, qs) :: t, hs, ht, h => by
    obtain ⟨hs1, hs2⟩ := List.pairwise_cons.1 hs
    obtain ⟨ht1, ht2⟩ := List.pairwise_cons.1 ht
    have h1 := (find_mem hs).2 (List.mem_cons_self (a := (k, ps)) (l := s))
    have h2 := (find_mem ht).2 (List.mem_cons_self (a := (j, qs)) (l := t))
    have e : k = j := by
      rw [h k] at h1
      rw [← h j] at h2
      have m1 := (find_mem ht).1 h1
      have m2 := (find_mem hs).1 h2
      rcases List.mem_cons.1 m1 with e | m1
      · cases e; rfl
      · rcases List.mem_cons.1 m2 with e | m2
        · cases e; rfl
        · have a := ht1 _ m1
          have b := hs1 _ m2
          rw [lt_asymm a] at b; cases b
    subst e
    have e2 : ps = qs := by rw [h k, h2] at h1; exact (Option.some.inj h1).symm
    subst e2
    congr 1
    refine store_ext hs2 ht2 fun j => ?_
    have hj := h j
    rw [find, find] at hj
    cases hl : lt k j with
    | true => rw [if_pos hl, if_pos hl] at hj; exact hj
    | false =>
      have n1 : ∀ {u : Store K}, (∀ a ∈ u, lt k a.1 = true) → find j u = none := fun hu => find_none_of fun a ha => by
        have := hu a ha
        cases hj2 : lt j a.1 with
        | true => rfl
        | false =>
          cases hj3 : lt a.1 j with
          | true => have := trans _ _ _ this hj3; rw [hl] at this; cases this
          | false => rw [tri _ _ hj2 hj3, this] at hl; cases hl
      rw [n1 hs1, n1 ht1]
end Go.Proofs.Ytkipdfeoebibgaa.Sto
end

section
/- Points put one after another, in whatever order, plain. No program in it. -/

namespace Go.Proofs.Ytkipdfeoebibgaa.Sto
open Keys
variable {K : Type} [Keys K]

/-- What is put, if it may be. -/
def putO (s : Store K) (o : Option (K × Pt)) : Store K := match o with | none => s | some a => (putF s a.1 a.2).1
def puts (s : Store K) (l : List (Option (K × Pt))) : Store K := l.foldl putO s
/-- .. with no limit on how many series there are. -/
def putU (s : Store K) (k : K) (x : Pt) : Store K :=
  match find k s with
  | some ps => if x.1 ≤ lastT ps then s else if 25 ≤ ps.length then s else ins k x s
  | none => ins k x s
def putUO (s : Store K) (o : Option (K × Pt)) : Store K := match o with | none => s | some a => putU s a.1 a.2
def putsU (s : Store K) (l : List (Option (K × Pt))) : Store K := l.foldl putUO s

theorem rises_putF {s : Store K} (h : Rises s) (k : K) (x : Pt) : Rises (putF s k x).1 := by
  unfold putF
  split
  · split
    · exact h
    · split
      · exact h
      · exact rises_ins h
  · split
    · exact h
    · exact rises_ins h
theorem rises_putO {s : Store K} (h : Rises s) (o : Option (K × Pt)) : Rises (putO s o) := by
  cases o with
  | none => exact h
  | some a => exact rises_putF h a.1 a.2
theorem rises_puts : ∀ (l : List (Option (K × Pt))) {s : Store K}, Rises s → Rises (puts s l)
  | [], _, h => h
  | o :: l, _, h => rises_puts l (rises_putO h o)
theorem rises_putU {s : Store K} (h : Rises s) (k : K) (x : Pt) : Rises (putU s k x) := by
  unfold putU
  split
  · split
    · exact h
    · split
      · exact h
      · exact rises_ins h
  · exact rises_ins h
theorem rises_putUO {s : Store K} (h : Rises s) (o : Option (K × Pt)) : Rises (putUO s o) := by
  cases o with
  | none => exact h
  | some a => exact rises_putU h a.1 a.2
theorem rises_putsU : ∀ (l : List (Option (K × Pt))) {s : Store K}, Rises s → Rises (putsU s l)
  | [], _, h => h
  | o :: l, _, h => rises_putsU l (rises_putUO h o)
theorem len_putF (s : Store K) (k : K) (x : Pt) : s.length ≤ (putF s k x).1.length := by
  unfold putF
  split
  · split
    · exact Nat.le_refl _
    · split
      · exact Nat.le_refl _
      · show s.length ≤ (ins k x s).length; rw [len_ins]; omega
  · split
    · exact Nat.le_refl _
    · show s.length ≤ (ins k x s).length; rw [len_ins]; omega
theorem len_putO (s : Store K) (o : Option (K × Pt)) : s.length ≤ (putO s o).length := by
  cases o with
  | none => exact Nat.le_refl _
  | some a => exact len_putF s a.1 a.2
theorem len_puts : ∀ (l : List (Option (K × Pt))) (s : Store K), s.length ≤ (puts s l).length
  | [], _ => Nat.le_refl _
  | o :: l, s => Nat.le_trans (len_putO s o) (len_puts l (putO s o))
theorem len_putU (s : Store K) (k : K) (x : Pt) : s.length ≤ (putU s k x).length := by
  unfold putU
  split
  · split
    · exact Nat.le_refl _
    · split
      · exact Nat.le_refl _
      · rw [len_ins]; omega
  · rw [len_ins]; omega
theorem len_putUO (s : Store K) (o : Option (K × Pt)) : s.length ≤ (putUO s o).length := by
  cases o with
  | none => exact Nat.le_refl _
  | some a => exact len_putU s a.1 a.2
theorem len_putsU : ∀ (l : List (Option (K × Pt))) (s : Store K), s.length ≤ (putsU s l).length
  | [], _ => Nat.le_refl _
  | o :: l, s => Nat.le_trans (len_putUO s o) (len_putsU l (putUO s o))
theorem put_same {s : Store K} (h : s.length < 40) (o : Option (K × Pt)) : putO s o = putUO s o := by
  cases o with
  | none => rfl
  | some a =>
    show (putF s a.1 a.2).1 = putU s a.1 a.2
    unfold putF putU
    cases find a.1 s with
    | none => dsimp only; rw [if_neg (by omega)]
    | some ps =>
      dsimp only
      split
      · rfl
      · split <;> rfl
/-- Where there is room for all of them, the limit tells nothing. -/
theorem puts_room : ∀ (l : List (Option (K × Pt))) (s : Store K), (puts s l).length < 40 → puts s l = putsU s l
  | [], _, _ => rfl
  | o :: l, s, h => by
    have h1 : (putO s o).length < 40 := Nat.lt_of_le_of_lt (len_puts l _) h
    have h2 : s.length < 40 := Nat.lt_of_le_of_lt (len_putO s o) h1
    show puts (putO s o) l = putsU (putUO s o) l
    rw [puts_room l _ h, put_same h2]
theorem putsU_room : ∀ (l : List (Option (K × Pt))) (s : Store K), (putsU s l).length < 40 → puts s l = putsU s l
  | [], _, _ => rfl
  | o :: l, s, h => by
    have h1 : (putUO s o).length < 40 := Nat.lt_of_le_of_lt (len_putsU l _) h
    have h2 : s.length < 40 := Nat.lt_of_le_of_lt (len_putUO s o) h1
    show puts (putO s o) l = putsU (putUO s o) l
    rw [put_same h2]
    exact putsU_room l _ h
/-- One key's points, one more put. -/
def one (p : Option (List Pt)) (x : Pt) : Option (List Pt) :=
  match p with
  | none => some [x]
  | some ps => if x.1 ≤ lastT ps then some ps else if 25 ≤ ps.length then some ps else some (ps ++ [x])
section
variable [DecidableEq K]
/-- What of all that is put is put under one key. -/
def under (k : K) (l : List (Option (K × Pt))) : List Pt := l.filterMap fun o => match o with | none => none | some a => if a.1 = k then some a.2 else none
theorem find_putU {s : Store K} (h : Rises s) (k j : K) (x : Pt) : find k (putU s j x) = if j = k then one (find k s) x else find k s := by
  unfold putU
  by_cases e : j = k
  · subst e
    rw [if_pos rfl]
    cases hf : find j s with
    | none => dsimp only; rw [find_ins h, hf]; rfl
    | some ps =>
      dsimp only [one]
      split
      · exact hf
      · split
        · exact hf
        · rw [find_ins h, hf]; rfl
  · rw [if_neg e]
    have h1 := find_ins_ne (k := j) (j := k) (x := x) (fun e2 => e e2.symm) h
    split
    · split
      · rfl
      · split
        · rfl
        · exact h1
    · exact h1
theorem find_putsU (k : K) : ∀ (l : List (Option (K × Pt))) {s : Store K}, Rises s → find k (putsU s l) = (under k l).foldl one (find k s)
  | [], _, _ => rfl
  | o :: l, s, h => by
    show find k (putsU (putUO s o) l) = _
    rw [find_putsU k l (rises_putUO h o)]
    cases o with
    | none => rfl
    | some a =>
      show (under k l).foldl one (find k (putU s a.1 a.2)) = _
      rw [find_putU h]
      unfold under
      by_cases e : a.1 = k
      · rw [if_pos e]; simp [e]
      · rw [if_neg e]; simp [e]
omit [Keys K] in
theorem under_app (k : K) (a b : List (Option (K × Pt))) : under k (a ++ b) = under k a ++ under k b := by unfold under; rw [List.filterMap_append]
/-- Points of several series, put in whatever order, come to the same store. -/
theorem order_free {a b : List (Option (K × Pt))} (hd : ∀ x y, some x ∈ a → some y ∈ b → x.1 ≠ y.1) (h : (puts (puts ([] : Store K) a) b).length < 40) : puts (puts [] a) b = puts (puts [] b) a := by
  have e1 : ∀ u v : List (Option (K × Pt)), puts (puts ([] : Store K) u) v = puts [] (u ++ v) := fun u v => by unfold puts; rw [List.foldl_append]
  rw [e1] at h
  rw [e1, e1]
  have h0 : Rises ([] : Store K) := List.Pairwise.nil
  have hU : putsU ([] : Store K) (a ++ b) = putsU [] (b ++ a) := by
    refine store_ext (rises_putsU _ h0) (rises_putsU _ h0) fun k => ?_
    rw [find_putsU k _ h0, find_putsU k _ h0, under_app, under_app]
    have : under k a = [] ∨ under k b = [] := by
      cases ha : under k a with
      | nil => exact .inl rfl
      | cons p ps =>
        right
        rw [List.eq_nil_iff_forall_not_mem]
        intro q hq
        have hp : p ∈ under k a := by rw [ha]; exact List.mem_cons_self
        unfold under at hp hq
        obtain ⟨o1, m1, e1⟩ := List.mem_filterMap.1 hp
        obtain ⟨o2, m2, e2⟩ := List.mem_filterMap.1 hq
        cases o1 with
        | none => cases e1
        | some x =>
          cases o2 with
          | none => cases e2
          | some y =>
            dsimp only at e1 e2
            split at e1
            · next h1 =>
              split at e2
              · next h2 => exact hd x y m1 m2 (h1.trans h2.symm)
              · cases e2
            · cases e1
    rcases this with e | e <;> rw [e] <;> simp
  have r1 := puts_room (a ++ b) ([] : Store K) h
  rw [r1] at h
  rw [r1, hU]
  rw [hU] at h
  exact (putsU_room (b ++ a) [] h).symm
end
omit [Keys K] in
/-- Series that are meant, and the others, are all. -/
theorem select_all (p : K → Bool) (s : Store K) : (s.filter fun a => p a.1).length + (s.filter fun a => !p a.1).length = s.length := by
  induction s with
  | nil => rfl
  | cons a s ih =>
    rw [List.filter_cons, List.filter_cons, List.length_cons]
    cases p a.1 <;> simp <;> omega
omit [Keys K] in
theorem select_less (p q : K → Bool) : ∀ s : Store K, (s.filter fun a => p a.1 && q a.1).length ≤ (s.filter fun a => p a.1).length
  | [] => Nat.le_refl _
  | a :: s => by
    have ih := select_less p q s
    rw [List.filter_cons, List.filter_cons]
    cases p a.1 <;> cases q a.1 <;> simp <;> omega
end Go.Proofs.Ytkipdfeoebibgaa.Sto
end

section
/- Stores: what each put tells of how many there are; a store that is full. Plain. No program in it. -/

namespace Go.Proofs.Ytkipdfeoebibgaa.Sto
open Keys
variable {K : Type} [Keys K]

/-- Each put that is told to be well lays one more point. -/
theorem points_putF (s : Store K) (k : K) (x : Pt) : pointsN (putF s k x).1 = pointsN s + (if (putF s k x).2 = 0 then 1 else 0) := by
  unfold putF
  split
  · split
    · rw [if_neg (by simp)]; rfl
    · split
      · rw [if_neg (by simp)]; rfl
      · rw [if_pos rfl]; exact points_ins
  · split
    · rw [if_neg (by simp)]; rfl
    · rw [if_pos rfl]; exact points_ins
/-- A key that lies behind all of them. -/
theorem ins_last {k : K} {x : Pt} : ∀ {s : Store K}, (∀ a ∈ s, lt a.1 k = true) → ins k x s = s ++ [(k, [x])]
  | [], _ => rfl
  | (j, ps) :: s, h => by
    rw [ins, if_pos (h _ List.mem_cons_self), ins_last (fun a ha => h a (List.mem_cons_of_mem _ ha))]; rfl
theorem find_last {k : K} {ps : List Pt} : ∀ {s : Store K}, (∀ a ∈ s, lt a.1 k = true) → find k (s ++ [(k, ps)]) = some ps
  | [], _ => by simp [find, irr]
  | (j, qs) :: s, h => by
    show find k ((j, qs) :: (s ++ [(k, ps)])) = _
    rw [find, if_pos (h _ List.mem_cons_self), find_last (fun a ha => h a (List.mem_cons_of_mem _ ha))]
theorem find_over {k : K} : ∀ {s : Store K}, (∀ a ∈ s, lt a.1 k = true) → find k s = none
  | [], _ => rfl
  | (j, qs) :: s, h => by
    rw [find, if_pos (h _ List.mem_cons_self), find_over (fun a ha => h a (List.mem_cons_of_mem _ ha))]
theorem ins_grow {k : K} {x : Pt} {ps : List Pt} : ∀ {s : Store K}, (∀ a ∈ s, lt a.1 k = true) → ins k x (s ++ [(k, ps)]) = s ++ [(k, ps ++ [x])]
  | [], _ => by simp [ins, irr]
  | (j, qs) :: s, h => by
    show ins k x ((j, qs) :: (s ++ [(k, ps)])) = _
    rw [ins, if_pos (h _ List.mem_cons_self), ins_grow (fun a ha => h a (List.mem_cons_of_mem _ ha))]; rfl
/-- So many points, one a time. -/
def run (n : Nat) : List Pt := (List.range n).map fun (j : Nat) => ((j : Int), (j : Int))
theorem run_succ (n : Nat) : run (n + 1) = run n ++ [((n : Int), (n : Int))] := by unfold run; rw [List.range_succ, List.map_append]; rfl
theorem run_len (n : Nat) : (run n).length = n := by simp [run]
theorem run_last (n : Nat) : lastT (run (n + 1)) = n := by
  rw [run_succ]; unfold lastT; simp
/-- A store to which one key after another came, each behind all others: what a put into the newest tells. -/
theorem put_new {s : Store K} {k : K} (h : ∀ a ∈ s, lt a.1 k = true) (hl : s.length < 40) : putF s k (0, 0) = (s ++ [(k, run 1)], 0) := by
  unfold putF
  rw [find_over h]
  dsimp only
  rw [if_neg (by omega), ins_last h]; rfl
theorem put_more {s : Store K} {k : K} {n : Nat} (h : ∀ a ∈ s, lt a.1 k = true) (hn : n + 1 < 25) : putF (s ++ [(k, run (n + 1))]) k (((n + 1 : Nat) : Int), ((n + 1 : Nat) : Int)) = (s ++ [(k, run (n + 1 + 1))], 0) := by
  unfold putF
  rw [find_last h]
  dsimp only
  rw [if_neg (by rw [run_last]; omega), if_neg (by rw [run_len]; omega), ins_grow h, ← run_succ]
theorem put_full {s : Store K} {k : K} {m : Nat} (h : ∀ a ∈ s, lt a.1 k = true) (hm : 25 ≤ m) : putF (s ++ [(k, run 25)]) k ((m : Int), (m : Int)) = (s ++ [(k, run 25)], 8) := by
  unfold putF
  rw [find_last h]
  dsimp only
  rw [if_neg (by have := run_last 24; rw [this]; omega), if_pos (by rw [run_len]; exact Nat.le_refl _)]
theorem put_none {s : Store K} {k : K} (x : Pt) (h : ∀ a ∈ s, lt a.1 k = true) (hl : 40 ≤ s.length) : putF s k x = (s, 8) := by
  unfold putF
  rw [find_over h]
  dsimp only
  rw [if_pos hl]
end Go.Proofs.Ytkipdfeoebibgaa.Sto
end

section
/- Stores in memory: which blocks a store has; what a write to other blocks leaves alone. -/



namespace Go.Proofs.Ytkipdfeoebibgaa.Sto
open Go.RowKit

abbrev Srs := Ser.Ser
abbrev Labs := List Go.Proofs.Ytkipdfeoebibgaa.Lab
instance labKeys : Keys Labs where
  lt a b := decide (cmpL a b < 0)
  irr a := by have := (cmpL_zero a a).2 rfl; simp [this]
  trans a b c h1 h2 := by simp at *; exact cmpL_lt_trans h1 h2
  tri a b h1 h2 := by
    simp at h1 h2
    have := cmpL_swap a b
    exact (cmpL_zero a b).1 (by omega)

/-- All blocks but these are as they were. -/
structure Sep (F : Nat → Prop) (w w' : World) : Prop where
  os : w'.os = w.os
  tape : w'.tape = w.tape
  output : w'.output = w.output
  size : w.heap.size ≤ w'.heap.size
  block : ∀ k, k < w.heap.size → ¬ F k → w'.heap[k]? = w.heap[k]?
/-- These blocks, and those that are new. -/
def Grow (F : Nat → Prop) (w w' : World) : Nat → Prop := fun k => F k ∨ (w.heap.size ≤ k ∧ k < w'.heap.size)
theorem Sep.refl (F : Nat → Prop) (w : World) : Sep F w w := ⟨rfl, rfl, rfl, Nat.le_refl _, fun _ _ _ => rfl⟩
theorem Sep.of_below {F : Nat → Prop} {w w' : World} (h : Below w.heap.size w w') : Sep F w w' := ⟨h.os, h.tape, h.output, h.size, fun k hk _ => h.block k hk⟩
theorem Sep.of_grown {F : Nat → Prop} {w w' : World} {row : Option Nat} (h : w.grownBy w' row) (hr : ∀ k, row = some k → F k) : Sep F w w' :=
  ⟨h.os, h.tape, h.output, h.size, fun k hk hF => h.block k hk fun e => hF (hr k e.symm)⟩
theorem Sep.of_set {F : Nat → Prop} (w : World) {p : Addr} (hp : F p.block) (u : Value) : Sep F w (w.setCell p u) :=
  ⟨rfl, rfl, rfl, by simp [World.setCell], fun k _ hF => Below.heap_setCell _ _ _ _ fun e => hF (e ▸ hp)⟩
theorem Sep.mono {F G : Nat → Prop} {w w' : World} (h : Sep F w w') (hg : ∀ k, k < w.heap.size → F k → G k) : Sep G w w' :=
  ⟨h.os, h.tape, h.output, h.size, fun k hk hG => h.block k hk fun hF => hG (hg k hk hF)⟩
theorem Sep.trans {F : Nat → Prop} {a b c : World} (h : Sep F a b) (k : Sep (Grow F a b) b c) : Sep F a c :=
  ⟨k.os.trans h.os, k.tape.trans h.tape, k.output.trans h.output, Nat.le_trans h.size k.size, fun i hi hF =>
    (k.block i (Nat.lt_of_lt_of_le hi h.size) (by rintro (h1 | h1); exact hF h1; omega)).trans (h.block i hi hF)⟩
theorem Sep.next {F : Nat → Prop} {a b c : World} (h : Sep F a b) (k : Sep F b c) : Sep F a c := h.trans (k.mono fun _ _ h => .inl h)
theorem Sep.below {F : Nat → Prop} {w w' : World} (h : Sep F w w') {B : Nat} (hB : B ≤ w.heap.size) (hF : ∀ k, F k → B ≤ k) : Below B w w' :=
  ⟨h.os, h.tape, h.output, h.size, fun k hk => h.block k (by omega) fun hk2 => by have := hF k hk2; omega⟩
theorem Sep.keeps {F G : Nat → Prop} {w w' : World} (h : Sep G w w') (hl : ∀ k, F k → k < w.heap.size) (hd : ∀ k, F k → ¬ G k) : ∀ k, F k → w'.heap[k]? = w.heap[k]? := fun k hk => h.block k (hl k hk) (hd k hk)
theorem grow_trans {F : Nat → Prop} {a b c : World} (h1 : a.heap.size ≤ b.heap.size) (h2 : b.heap.size ≤ c.heap.size) : ∀ k, Grow (Grow F a b) b c k → Grow F a c k := by
  rintro k ((h | h) | h)
  · exact .inl h
  · exact .inr ⟨h.1, by omega⟩
  · exact .inr ⟨by omega, h.2⟩
theorem grow_low {F : Nat → Prop} {a b : World} (hl : ∀ k, F k → k < a.heap.size) (h1 : a.heap.size ≤ b.heap.size) : ∀ k, Grow F a b k → k < b.heap.size := by
  rintro k (h | h)
  · have := hl k h; omega
  · exact h.2

theorem own_same {w w' : World} {B e size n : Nat} {v : Value} {xs : List Value} (h : w.ownsRow B e size v n xs) (hb : ∀ g, v.ownBlock = some g → w'.heap[g]? = w.heap[g]?) : w'.ownsRow B e size v n xs := by
  refine ⟨h.1, h.2.imp id ?_⟩
  rintro ⟨g, cap, cur, rfl, h2, h3, h4⟩
  exact ⟨g, cap, cur, rfl, h2, (hb g rfl).trans h3, h4⟩
/-- Of which type a row's own block is. -/
theorem own_typ {w : World} {B e size n : Nat} {v : Value} {xs : List Value} (h : w.ownsRow B e size v n xs) {g : Nat} (hg : v.ownBlock = some g) : ∃ cs m, w.heap[g]? = some (.cells cs e m) := by
  rcases h.2 with ⟨rfl, _⟩ | ⟨g', cap, cur, rfl, _, hh, _⟩
  · cases hg
  · have : g' = g := by simpa [Value.ownBlock] using hg
    subst this
    exact ⟨_, _, hh⟩
theorem typ_ne {w : World} {a b : Nat} {s t : TypeId} (ha : ∃ cs m, w.heap[a]? = some (.cells cs s m)) (hb : ∃ cs m, w.heap[b]? = some (.cells cs t m)) (hst : s ≠ t) : a ≠ b := by
  rintro rfl
  obtain ⟨cs, m, h1⟩ := ha
  obtain ⟨cs2, m2, h2⟩ := hb
  rw [h1] at h2
  cases h2
  exact hst rfl

/-- Two cells that are a series of a store: its labels lie in a block of theirs, its points are a row of its own. -/
structure OneS (F : Nat → Prop) (w : World) (u v : Value) (x : Srs) : Prop where
  lab : ∃ oL cL, u = .slice oL x.1.length cL ∧ SeesO w oL x.1 ∧ Ser.Typ w oL 53 ∧ ∀ b off, oL = some ⟨b, off, none⟩ → F b
  pts : w.ownsRow 0 58 2 v x.2.length (Pnt.flatL x.2)
  ptsF : ∀ g, v.ownBlock = some g → F g
theorem OneS.same {F G : Nat → Prop} {w w' : World} {u v : Value} {x : Srs} (h : OneS F w u v x) (hs : w.heap.size ≤ w'.heap.size) (hk : ∀ k, F k → w'.heap[k]? = w.heap[k]?) (hG : ∀ k, F k → G k) : OneS G w' u v x := by
  obtain ⟨⟨oL, cL, h1, h2, h3, h4⟩, h5, h6⟩ := h
  refine ⟨⟨oL, cL, h1, ?_, ?_, fun b off e => hG _ (h4 b off e)⟩, own_same h5 fun g hg => hk g (h6 g hg), fun g hg => hG _ (h6 g hg)⟩
  · rcases h2 with h2 | ⟨b, off, e, hS⟩
    · exact .inl h2
    · have hb := hk b (h4 b off e)
      exact .inr ⟨b, off, e, Nat.lt_of_lt_of_le hS.low hs, fun j x hx => (Ser.cell_same hb).trans (hS.at0 j x hx), fun j x hx => (Ser.cell_same hb).trans (hS.at1 j x hx)⟩
  · intro b off e
    obtain ⟨cs, m, hh⟩ := h3 b off e
    exact ⟨cs, m, (hk b (h4 b off e)).trans hh⟩
/-- The series of a store, in a row of its own. -/
structure Row (F : Nat → Prop) (w : World) (v : Value) (us : List (Value × Value)) (xs : List Srs) : Prop where
  len : us.length = xs.length
  own : w.ownsRow 0 56 2 v us.length (Ser.flatU us)
  ownF : ∀ g, v.ownBlock = some g → F g
  one : ∀ (j : Nat) (x : Srs), xs[j]? = some x → ∃ q, us[j]? = some q ∧ OneS F w q.1 q.2 x
  apart : ∀ (i j : Nat) (p q : Value × Value), i ≠ j → us[i]? = some p → us[j]? = some q → p.2.ownBlock = none ∨ p.2.ownBlock ≠ q.2.ownBlock
theorem Row.same {F G : Nat → Prop} {w w' : World} {v : Value} {us : List (Value × Value)} {xs : List Srs} (h : Row F w v us xs) (hs : w.heap.size ≤ w'.heap.size) (hk : ∀ k, F k → w'.heap[k]? = w.heap[k]?) (hG : ∀ k, F k → G k) : Row G w' v us xs :=
  ⟨h.len, own_same h.own fun g hg => hk g (h.ownF g hg), fun g hg => hG _ (h.ownF g hg), fun j x hx => by
    obtain ⟨q, h1, h2⟩ := h.one j x hx
    exact ⟨q, h1, h2.same hs hk hG⟩, h.apart⟩
/-- A store in memory. -/
structure St (F : Nat → Prop) (w : World) (p : Nat) (xs : List Srs) : Prop where
  low : ∀ k, F k → k < w.heap.size
  fp : F p
  row : ∃ v us, w.heap[p]? = some (.cells #[v] 31 (0, 0)) ∧ Row F w v us xs
theorem St.same {F G : Nat → Prop} {w w' : World} {p : Nat} {xs : List Srs} (h : St F w p xs) (hs : w.heap.size ≤ w'.heap.size) (hk : ∀ k, F k → w'.heap[k]? = w.heap[k]?) (hG : ∀ k, F k → G k) (hl : ∀ k, G k → k < w'.heap.size) : St G w' p xs := by
  obtain ⟨v, us, h1, h2⟩ := h.row
  exact ⟨hl, hG _ h.fp, v, us, (hk p h.fp).trans h1, h2.same hs hk hG⟩
theorem St.sep {F G : Nat → Prop} {w w' : World} {p : Nat} {xs : List Srs} (h : St F w p xs) (hs : Sep G w w') (hd : ∀ k, F k → ¬ G k) : St F w' p xs :=
  h.same hs.size (hs.keeps h.low hd) (fun _ h => h) fun k hk => Nat.lt_of_lt_of_le (h.low k hk) hs.size
theorem St.below {F : Nat → Prop} {w w' : World} {p : Nat} {xs : List Srs} (h : St F w p xs) (hb : Below w.heap.size w w') : St F w' p xs :=
  h.sep (G := fun _ => False) (Sep.of_below hb) fun _ _ h => h
theorem St.grow {F : Nat → Prop} {w w' : World} {p : Nat} {xs : List Srs} (h : St F w p xs) (hs : w.heap.size ≤ w'.heap.size) (hk : ∀ k, F k → w'.heap[k]? = w.heap[k]?) : St (Grow F w w') w' p xs :=
  h.same hs hk (fun _ h => .inl h) (grow_low h.low hs)
/-- A store that has nothing. -/
theorem st_nil {F : Nat → Prop} {w : World} {p : Nat} (h : w.heap[p]? = some (.cells #[.slice none 0 0] 31 (0, 0))) (hp : F p) (hl : ∀ k, F k → k < w.heap.size) : St F w p [] :=
  ⟨hl, hp, _, [], h, ⟨rfl, World.ownsRow_nil _ _ _ _, fun g hg => (by cases hg), fun j x hx => by simp at hx, fun i j p q _ hi => by simp at hi⟩⟩

/-- What a store's row reads as. -/
theorem OneS.one {F : Nat → Prop} {w : World} {u v : Value} {x : Srs} (h : OneS F w u v x) (h1 : x.1.length ≤ maxLen) : Ser.OneT w u v x := by
  obtain ⟨⟨oL, cL, e1, h2, h3, h4⟩, h5, h6⟩ := h
  obtain ⟨oP, cP, e2, h7, h8⟩ := Pnt.own_sees h5
  subst e2
  exact ⟨oL, cL, oP, cP, e1, rfl, h2, h7, h1, h8, h3, Ser.typ_own h5⟩
theorem own_shape {w : World} {B e size n : Nat} {v : Value} {xs : List Value} (h : w.ownsRow B e size v n xs) : ∃ o c, v = .slice o n c ∧ n ≤ maxLen := by
  rcases h.2 with ⟨rfl, rfl⟩ | ⟨g', cap, cur, rfl, _, hh, h1, h2, _⟩
  · exact ⟨none, 0, rfl, Nat.zero_le _⟩
  · exact ⟨_, _, rfl, by omega⟩
theorem Row.sees {F : Nat → Prop} {w : World} {v : Value} {us : List (Value × Value)} {xs : List Srs} (h : Row F w v us xs) (hl : ∀ x ∈ xs, x.1.length ≤ maxLen) : ∃ o c, v = .slice o xs.length c ∧ Ser.SeesO w o xs ∧ xs.length ≤ maxLen :=
  Ser.OwnU.sees (B := 0) ⟨h.len, h.own, fun j x hx => by
    obtain ⟨q, h1, h2⟩ := h.one j x hx
    exact ⟨q, h1, h2.one (hl x (List.mem_of_getElem? hx))⟩⟩
end Go.Proofs.Ytkipdfeoebibgaa.Sto
end

section
/- Stores, plain: the place of a key, and what stands there. No program in it. -/

namespace Go.Proofs.Ytkipdfeoebibgaa.Sto
open Keys
variable {K : Type} [Keys K]

/-- How many keys lie ahead of this one. -/
def rank (k : K) : Store K → Nat
  | [] => 0
  | a :: s => if lt a.1 k then rank k s + 1 else 0
theorem rank_le (k : K) : ∀ s : Store K, rank k s ≤ s.length
  | [] => Nat.le_refl _
  | a :: s => by
    have := rank_le k s
    rw [rank, List.length_cons]
    split <;> omega
theorem rank_lt {k : K} : ∀ {s : Store K} {j : Nat} {a : K × List Pt}, s[j]? = some a → j < rank k s → lt a.1 k = true
  | [], j, a, h, _ => by simp at h
  | b :: s, j, a, h, hj => by
    rw [rank] at hj
    split at hj
    · next hl =>
      cases j with
      | zero => simp at h; subst h; exact hl
      | succ j => exact rank_lt (s := s) (by simpa using h) (by omega)
    · omega
theorem rank_ge {k : K} : ∀ {s : Store K} {j : Nat} {a : K × List Pt}, Rises s → s[j]? = some a → rank k s ≤ j → lt a.1 k = false
  | [], j, a, _, h, _ => by simp at h
  | b :: s, j, a, hr, h, hj => by
    obtain ⟨h1, h2⟩ := List.pairwise_cons.1 hr
    rw [rank] at hj
    split at hj
    · next hl =>
      cases j with
      | zero => omega
      | succ j => exact rank_ge (s := s) h2 (by simpa using h) (by omega)
    · next hl =>
      cases j with
      | zero => simp at h; subst h; simpa using hl
      | succ j =>
        have ha := h1 a (List.mem_of_getElem? (i := j) (by simpa using h))
        cases hlt : lt a.1 k with
        | false => rfl
        | true => exact absurd (trans _ _ _ ha hlt) hl
/-- The place of a key is where all ahead of it are less, and none behind it is. -/
theorem rank_is {k : K} {s : Store K} {i : Nat} (h1 : ∀ j a, s[j]? = some a → j < i → lt a.1 k = true) (h2 : ∀ a, s[i]? = some a → lt a.1 k = false) (hi : i ≤ s.length) : rank k s = i := by
  induction s generalizing i with
  | nil => simp at hi; subst hi; rfl
  | cons b s ih =>
    cases i with
    | zero =>
      have := h2 b rfl
      rw [rank, if_neg (by simp [this])]
    | succ i =>
      have hb := h1 0 b rfl (Nat.succ_pos _)
      have he := ih (i := i) (fun j a hj hl => h1 (j + 1) a (by simpa using hj) (by omega)) (fun a ha => h2 a (by simpa using ha)) (by simpa using hi)
      rw [rank, if_pos hb, he]
theorem find_at (k : K) : ∀ {s : Store K} {a : K × List Pt}, s[rank k s]? = some a → (lt k a.1 = false → find k s = some a.2) ∧ (lt k a.1 = true → find k s = none)
  | [], a, h => by simp at h
  | b :: s, a, h => by
    rw [rank] at h
    split at h
    · next hl =>
      obtain ⟨h1, h2⟩ := find_at k (s := s) (a := a) (by simpa using h)
      rw [show b :: s = (b.1, b.2) :: s from rfl, find, if_pos hl]
      exact ⟨h1, h2⟩
    · next hl =>
      simp at h
      subst h
      rw [show b :: s = (b.1, b.2) :: s from rfl, find, if_neg hl]
      exact ⟨fun h => by rw [if_neg (by simp [h])], fun h => by rw [if_pos h]⟩
theorem find_end (k : K) : ∀ {s : Store K}, s[rank k s]? = none → find k s = none
  | [], _ => rfl
  | b :: s, h => by
    rw [rank] at h
    split at h
    · next hl =>
      rw [show b :: s = (b.1, b.2) :: s from rfl, find, if_pos hl]
      exact find_end k (by simpa using h)
    · simp at h
theorem ins_new (k : K) (x : Pt) : ∀ {s : Store K}, find k s = none → ins k x s = s.take (rank k s) ++ (k, [x]) :: s.drop (rank k s)
  | [], _ => rfl
  | b :: s, h => by
    rw [show b :: s = (b.1, b.2) :: s from rfl, find] at h
    rw [show b :: s = (b.1, b.2) :: s from rfl, ins, rank]
    split
    · next hl =>
      rw [if_pos hl] at h
      rw [ins_new k x h, List.take_succ_cons, List.drop_succ_cons]; rfl
    · next hl =>
      rw [if_neg hl] at h
      split
      · rfl
      · next hl2 => rw [if_neg hl2] at h; cases h
theorem ins_old (k : K) (x : Pt) : ∀ {s : Store K} {a : K × List Pt}, s[rank k s]? = some a → lt k a.1 = false → ins k x s = s.set (rank k s) (a.1, a.2 ++ [x])
  | [], a, h, _ => by simp at h
  | b :: s, a, h, hl2 => by
    rw [rank] at h
    rw [show b :: s = (b.1, b.2) :: s from rfl, ins, rank]
    split
    · next hl =>
      rw [if_pos hl] at h
      rw [ins_old k x (a := a) (by simpa using h) hl2]; rfl
    · next hl =>
      rw [if_neg hl] at h
      simp at h
      subst h
      rw [if_neg (by simp [hl2])]; rfl
/-- What a put comes to, by the place of its key. -/
theorem putF_new {k : K} {x : Pt} {s : Store K} (h : s[rank k s]? = none ∨ ∃ a, s[rank k s]? = some a ∧ lt k a.1 = true) : putF s k x = if 40 ≤ s.length then (s, 8) else (s.take (rank k s) ++ (k, [x]) :: s.drop (rank k s), 0) := by
  have hf : find k s = none := by
    rcases h with h | ⟨a, h, hl⟩
    · exact find_end k h
    · exact (find_at k h).2 hl
  unfold putF
  rw [hf]
  dsimp only
  rw [ins_new k x hf]
theorem putF_old {k : K} {x : Pt} {s : Store K} {a : K × List Pt} (h : s[rank k s]? = some a) (hl : lt k a.1 = false) : putF s k x = if x.1 ≤ lastT a.2 then (s, 6) else if 25 ≤ a.2.length then (s, 8) else (s.set (rank k s) (a.1, a.2 ++ [x]), 0) := by
  unfold putF
  rw [(find_at k h).1 hl]
  dsimp only
  rw [ins_old k x h hl]
end Go.Proofs.Ytkipdfeoebibgaa.Sto
end

section
/- Points of a while, plain: which points may be, those of a while, how much numbers grow. No program in it. -/

namespace Go.Proofs.Ytkipdfeoebibgaa.Win

/-- A point: its time, its number. -/
abbrev Pt := Int × Int
/-- A number that may be, as chapter 4 says. -/
def valP (v : Int) : Prop := -1000000000000 ≤ v ∧ v ≤ 1000000000000
instance (v : Int) : Decidable (valP v) := by unfold valP; infer_instance
def timeP (t : Int) : Prop := 0 ≤ t ∧ t ≤ 1000000000
instance (t : Int) : Decidable (timeP t) := by unfold timeP; infer_instance
/-- Do the times rise, and may each point be? -/
def risesP : Option Int → List Pt → Bool
  | _, [] => true
  | none, x :: xs => decide (timeP x.1) && (decide (valP x.2) && risesP (some x.1) xs)
  | some p, x :: xs => decide (timeP x.1) && (decide (p < x.1) && (decide (valP x.2) && risesP (some x.1) xs))
def pointsB (l : List Pt) : Bool := decide (l.length ≤ 25) && risesP none l
theorem rises_some : ∀ (xs : List Pt) (p : Int), risesP (some p) xs = true ↔ (∀ x ∈ xs, p < x.1) ∧ xs.Pairwise (fun a b => a.1 < b.1) ∧ ∀ x ∈ xs, timeP x.1 ∧ valP x.2
  | [], p => by simp [risesP]
  | x :: xs, p => by
    have ih := rises_some xs x.1
    simp only [risesP, Bool.and_eq_true, decide_eq_true_eq, ih, List.pairwise_cons, List.forall_mem_cons]
    constructor
    · rintro ⟨h1, h2, h3, h4, h5, h6⟩
      exact ⟨⟨h2, fun y hy => Int.lt_trans h2 (h4 y hy)⟩, ⟨h4, h5⟩, ⟨h1, h3⟩, h6⟩
    · rintro ⟨⟨h1, _⟩, ⟨h3, h4⟩, ⟨h5, h6⟩, h7⟩
      exact ⟨h5, h1, h6, h3, h4, h7⟩
theorem rises_none (xs : List Pt) : risesP none xs = true ↔ xs.Pairwise (fun a b => a.1 < b.1) ∧ ∀ x ∈ xs, timeP x.1 ∧ valP x.2 := by
  cases xs with
  | nil => simp [risesP]
  | cons x xs =>
    simp only [risesP, Bool.and_eq_true, decide_eq_true_eq, rises_some, List.pairwise_cons, List.forall_mem_cons]
    constructor
    · rintro ⟨h1, h2, h3, h4, h5⟩
      exact ⟨⟨h3, h4⟩, ⟨h1, h2⟩, h5⟩
    · rintro ⟨⟨h3, h4⟩, ⟨h1, h2⟩, h5⟩
      exact ⟨h1, h2, h3, h4, h5⟩
/-- Just these points are right. -/
theorem points_iff (l : List Pt) : pointsB l = true ↔ l.length ≤ 25 ∧ l.Pairwise (fun a b => a.1 < b.1) ∧ ∀ x ∈ l, timeP x.1 ∧ valP x.2 := by
  unfold pointsB
  rw [Bool.and_eq_true, decide_eq_true_eq, rises_none]

/-- Is a time in a while: above the one, at most the other? -/
def inW (c t : Int) (x : Pt) : Bool := decide (c < x.1) && decide (x.1 ≤ t)
/-- The points of a while, as chapter 5 says. -/
def ofF (l : List Pt) (t w : Int) : List Pt := if pointsB l = true ∧ timeP t ∧ timeP w then l.filter (inW (t - w) t) else []
def lastF (l : List Pt) (t w : Int) : Int × Bool := match (ofF l t w).getLast? with | some x => (x.2, true) | none => (0, false)
/-- A while is its first part, and the rest. -/
theorem win_split {l : List Pt} (h : l.Pairwise (fun a b => a.1 < b.1)) {c d t : Int} (h1 : c ≤ d) (h2 : d ≤ t) : l.filter (inW c t) = l.filter (inW c d) ++ l.filter (inW d t) := by
  induction l with
  | nil => rfl
  | cons x xs ih =>
    obtain ⟨hx, hp⟩ := List.pairwise_cons.1 h
    have ih := ih hp
    by_cases hd : x.1 ≤ d
    · have e2 : inW d t x = false := by unfold inW; rw [decide_eq_false (by omega)]; rfl
      have e3 : inW c t x = inW c d x := by
        unfold inW
        rw [decide_eq_true (p := x.1 ≤ t) (by omega), decide_eq_true (p := x.1 ≤ d) hd]
      rw [List.filter_cons, List.filter_cons, List.filter_cons, e2, e3, ih]
      cases inW c d x <;> simp
    · have e1 : inW c d x = false := by unfold inW; rw [decide_eq_false (p := x.1 ≤ d) hd, Bool.and_false]
      have e3 : inW c t x = inW d t x := by
        unfold inW
        rw [decide_eq_true (p := c < x.1) (by omega), decide_eq_true (p := d < x.1) (by omega)]
      have e4 : xs.filter (inW c d) = [] := by
        rw [List.filter_eq_nil_iff]
        intro y hy
        have := hx y hy
        unfold inW
        rw [decide_eq_false (p := y.1 ≤ d) (by omega), Bool.and_false]; exact fun h => by cases h
      rw [e4, List.nil_append] at ih
      rw [List.filter_cons, List.filter_cons, List.filter_cons, e1, e3, e4, ih]
      simp
/-- What is in a while stays at its end when the while begins earlier. -/
theorem win_tail {l : List Pt} (h : l.Pairwise (fun a b => a.1 < b.1)) {c d t : Int} (h1 : c ≤ d) (h2 : d ≤ t) : (l.filter (inW d t)).length ≤ (l.filter (inW c t)).length ∧ (l.filter (inW c t)).drop ((l.filter (inW c t)).length - (l.filter (inW d t)).length) = l.filter (inW d t) := by
  rw [win_split h h1 h2, List.length_append]
  refine ⟨by omega, ?_⟩
  rw [show (l.filter (inW c d)).length + (l.filter (inW d t)).length - (l.filter (inW d t)).length = (l.filter (inW c d)).length by omega, List.drop_left]
/-- How much numbers grow from each to the next. -/
def grownF : List Int → Int
  | [] => 0
  | [_] => 0
  | a :: b :: l => (if a ≤ b then b - a else b) + grownF (b :: l)
/-- The single steps. -/
def stepsF : List Int → List Int
  | [] => []
  | [_] => []
  | a :: b :: l => (if a ≤ b then b - a else b) :: stepsF (b :: l)
theorem grown_sum : ∀ l : List Int, grownF l = (stepsF l).sum
  | [] => rfl
  | [_] => rfl
  | a :: b :: l => by rw [grownF, stepsF, List.sum_cons, grown_sum (b :: l)]
theorem steps_len : ∀ l : List Int, (stepsF l).length = l.length - 1
  | [] => rfl
  | [_] => rfl
  | a :: b :: l => by
    have := steps_len (b :: l)
    simp only [stepsF, List.length_cons] at this ⊢; omega
/-- Numbers that never fall grow by the last one less the first one. -/
theorem grown_rise : ∀ (l : List Int) (a : Int), (a :: l).Pairwise (fun x y => x ≤ y) → grownF (a :: l) = (a :: l).getLast (by simp) - a
  | [], a, _ => by simp [grownF]
  | b :: l, a, h => by
    obtain ⟨h1, h2⟩ := List.pairwise_cons.1 h
    rw [grownF, if_pos (h1 b (by simp)), grown_rise l b h2, List.getLast_cons (List.cons_ne_nil b l)]
    omega
theorem grown_snoc : ∀ (l : List Int) (a b : Int), grownF (l ++ [a, b]) = grownF (l ++ [a]) + (if a ≤ b then b - a else b)
  | [], a, b => by simp [grownF]
  | [x], a, b => by simp [grownF]
  | x :: y :: l, a, b => by
    have := grown_snoc (y :: l) a b
    simp only [List.cons_append] at this ⊢
    rw [grownF, grownF, this]; omega
/-- Grown in two parts that have a number in common. -/
theorem grown_parts : ∀ (l : List Int) (a : Int) (r : List Int), grownF (l ++ a :: r) = grownF (l ++ [a]) + grownF (a :: r)
  | [], a, r => by simp [grownF]
  | [x], a, r => by simp [grownF]
  | x :: y :: l, a, r => by
    have := grown_parts (y :: l) a r
    simp only [List.cons_append] at this ⊢
    rw [grownF, grownF, this]; omega
end Go.Proofs.Ytkipdfeoebibgaa.Win
end

section
/- Functions of points, plain: what each answers, and what holds of the answers. No program in it. -/

namespace Go.Proofs.Ytkipdfeoebibgaa.Win

def minL : List Int → Int
  | [] => 0
  | x :: xs => xs.foldl min x
def maxL : List Int → Int
  | [] => 0
  | x :: xs => xs.foldl max x
theorem foldl_min : ∀ (xs : List Int) (a : Int), xs.foldl min a ≤ a ∧ (∀ x ∈ xs, xs.foldl min a ≤ x) ∧ (xs.foldl min a = a ∨ xs.foldl min a ∈ xs)
  | [], a => by simp
  | y :: ys, a => by
    obtain ⟨h1, h2, h3⟩ := foldl_min ys (min a y)
    rw [List.foldl_cons]
    refine ⟨by omega, fun x hx => ?_, ?_⟩
    · rcases List.mem_cons.1 hx with rfl | hx
      · omega
      · exact h2 x hx
    · rcases h3 with h3 | h3
      · rw [h3]
        by_cases h : a ≤ y
        · exact .inl (by omega)
        · exact .inr (List.mem_cons.2 (.inl (by omega)))
      · exact .inr (List.mem_cons_of_mem _ h3)
theorem foldl_max : ∀ (xs : List Int) (a : Int), a ≤ xs.foldl max a ∧ (∀ x ∈ xs, x ≤ xs.foldl max a) ∧ (xs.foldl max a = a ∨ xs.foldl max a ∈ xs)
  | [], a => by simp
  | y :: ys, a => by
    obtain ⟨h1, h2, h3⟩ := foldl_max ys (max a y)
    rw [List.foldl_cons]
    refine ⟨by omega, fun x hx => ?_, ?_⟩
    · rcases List.mem_cons.1 hx with rfl | hx
      · omega
      · exact h2 x hx
    · rcases h3 with h3 | h3
      · rw [h3]
        by_cases h : y ≤ a
        · exact .inl (by omega)
        · exact .inr (List.mem_cons.2 (.inl (by omega)))
      · exact .inr (List.mem_cons_of_mem _ h3)
theorem min_le {l : List Int} : ∀ x ∈ l, minL l ≤ x := by
  cases l with
  | nil => intro x hx; simp at hx
  | cons y ys =>
    intro x hx
    obtain ⟨h1, h2, _⟩ := foldl_min ys y
    rcases List.mem_cons.1 hx with rfl | hx
    · exact h1
    · exact h2 x hx
theorem le_max {l : List Int} : ∀ x ∈ l, x ≤ maxL l := by
  cases l with
  | nil => intro x hx; simp at hx
  | cons y ys =>
    intro x hx
    obtain ⟨h1, h2, _⟩ := foldl_max ys y
    rcases List.mem_cons.1 hx with rfl | hx
    · exact h1
    · exact h2 x hx
theorem min_mem {l : List Int} (h : l ≠ []) : minL l ∈ l := by
  cases l with
  | nil => exact absurd rfl h
  | cons y ys =>
    obtain ⟨_, _, h3⟩ := foldl_min ys y
    show ys.foldl min y ∈ y :: ys
    rcases h3 with h3 | h3
    · rw [h3]; exact List.mem_cons_self
    · exact List.mem_cons_of_mem _ h3
theorem max_mem {l : List Int} (h : l ≠ []) : maxL l ∈ l := by
  cases l with
  | nil => exact absurd rfl h
  | cons y ys =>
    obtain ⟨_, _, h3⟩ := foldl_max ys y
    show ys.foldl max y ∈ y :: ys
    rcases h3 with h3 | h3
    · rw [h3]; exact List.mem_cons_self
    · exact List.mem_cons_of_mem _ h3
theorem sum_between (lo hi : Int) : ∀ l : List Int, (∀ x ∈ l, lo ≤ x ∧ x ≤ hi) → lo * l.length ≤ l.sum ∧ l.sum ≤ hi * l.length
  | [], _ => by simp
  | x :: xs, h => by
    obtain ⟨h1, h2⟩ := sum_between lo hi xs (fun y hy => h y (List.mem_cons_of_mem _ hy))
    have h3 := h x List.mem_cons_self
    have e : ((x :: xs).length : Int) = xs.length + 1 := by simp
    rw [List.sum_cons, e, Int.mul_add, Int.mul_add, Int.mul_one, Int.mul_one]
    omega
/-- A mean, cut towards nought, is no further out than what it is the mean of. -/
theorem mean_between {lo hi s : Int} {n : Nat} (hn : 0 < n) (h1 : lo * n ≤ s) (h2 : s ≤ hi * n) : lo ≤ s.tdiv n ∧ s.tdiv n ≤ hi := by
  have hn0 : (0 : Int) < n := by omega
  have e := Int.mul_tdiv_add_tmod s n
  rcases Int.lt_or_le s 0 with hs | hs
  · -- below nought: the quotient is rounded up
    have hr : s.tmod n ≤ 0 := by
      have := Int.tmod_nonneg (n : Int) (show 0 ≤ -s by omega)
      rw [Int.neg_tmod] at this; omega
    have hr2 : -(n : Int) < s.tmod n := by
      have := Int.lt_tmod_of_pos s hn0
      exact this
    constructor
    · by_cases h : lo ≤ s.tdiv n
      · exact h
      · exfalso
        have h3 : s.tdiv n + 1 ≤ lo := by omega
        have h4 : (n : Int) * (s.tdiv n + 1) ≤ n * lo := Int.mul_le_mul_of_nonneg_left h3 (by omega)
        rw [Int.mul_add, Int.mul_one] at h4
        rw [Int.mul_comm] at h1
        omega
    · by_cases h : s.tdiv n ≤ hi
      · exact h
      · exfalso
        have h3 : hi + 1 ≤ s.tdiv n := by omega
        have h4 : (n : Int) * (hi + 1) ≤ n * s.tdiv n := Int.mul_le_mul_of_nonneg_left h3 (by omega)
        rw [Int.mul_add, Int.mul_one] at h4
        rw [Int.mul_comm] at h2
        omega
  · have hr : 0 ≤ s.tmod n := Int.tmod_nonneg _ hs
    have hr2 : s.tmod n < n := Int.tmod_lt_of_pos s hn0
    constructor
    · by_cases h : lo ≤ s.tdiv n
      · exact h
      · exfalso
        have h3 : s.tdiv n + 1 ≤ lo := by omega
        have h4 : (n : Int) * (s.tdiv n + 1) ≤ n * lo := Int.mul_le_mul_of_nonneg_left h3 (by omega)
        rw [Int.mul_add, Int.mul_one] at h4
        rw [Int.mul_comm] at h1
        omega
    · by_cases h : s.tdiv n ≤ hi
      · exact h
      · exfalso
        have h3 : hi + 1 ≤ s.tdiv n := by omega
        have h4 : (n : Int) * (hi + 1) ≤ n * s.tdiv n := Int.mul_le_mul_of_nonneg_left h3 (by omega)
        rw [Int.mul_add, Int.mul_one] at h4
        rw [Int.mul_comm] at h2
        omega
theorem steps_bound (lo hi : Int) (hlo : lo ≤ 0) (hhi : 0 ≤ hi) : ∀ l : List Int, (∀ x ∈ l, lo ≤ x ∧ x ≤ hi) → ∀ d ∈ stepsF l, lo ≤ d ∧ d ≤ hi - lo
  | [], _ => by simp [stepsF]
  | [_], _ => by simp [stepsF]
  | a :: b :: l, h => by
    intro d hd
    rw [stepsF] at hd
    have ha := h a (by simp)
    have hb := h b (by simp)
    rcases List.mem_cons.1 hd with rfl | hd
    · split <;> omega
    · exact steps_bound lo hi hlo hhi (b :: l) (fun x hx => h x (List.mem_cons_of_mem _ hx)) d hd

/-- The numbers, the times. -/
def numsF (l : List Pt) : List Int := l.map fun x => x.2
def timesP (l : List Pt) : List Int := l.map fun x => x.1
/-- The eight functions, by their places in chapter 5's row of names. -/
def withinP (v : Int) : Int × Bool × Int := if valP v then (v, true, 0) else (0, false, 4)
def growP (l : List Int) : Option Int := if (∀ d ∈ stepsF l, valP d) ∧ valP (grownF l) then some (grownF l) else none
def overF (k : Nat) (l : List Pt) : Int × Bool × Int :=
  if 8 ≤ k ∨ pointsB l = false then (0, false, 1)
  else if l = [] ∨ (l.length < 2 ∧ 6 ≤ k) then (0, false, 0)
  else match k with
    | 0 => withinP (numsF l).sum
    | 1 => (minL (numsF l), true, 0)
    | 2 => (maxL (numsF l), true, 0)
    | 3 => (l.length, true, 0)
    | 4 => ((numsF l).sum.tdiv l.length, true, 0)
    | 5 => (((numsF l).getLast?).getD 0, true, 0)
    | 6 => match growP (numsF l) with | some g => (g, true, 0) | none => (0, false, 4)
    | _ => match growP (numsF l) with
      | some g => if valP (g * 1000) then ((g * 1000).tdiv (((timesP l).getLast?).getD 0 - ((timesP l).head?).getD 0), true, 0) else (0, false, 4)
      | none => (0, false, 4)
end Go.Proofs.Ytkipdfeoebibgaa.Win
end

section
/- Points of a while, plain: the last one; what the functions answer of numbers that are small. No program in it. -/

namespace Go.Proofs.Ytkipdfeoebibgaa.Win

def upTo (t : Int) (x : Pt) : Bool := decide (x.1 ≤ t)
theorem inW_two (c t : Int) (l : List Pt) : l.filter (inW c t) = (l.filter (upTo t)).filter (fun x => decide (c < x.1)) := by
  rw [List.filter_filter]; congr 1
/-- The last point of a while is the last one that is not too young, if it is not too old. -/
theorem last_win {l : List Pt} (h : l.Pairwise (fun a b => a.1 < b.1)) (c t : Int) :
    (l.filter (inW c t)).getLast? = match (l.filter (upTo t)).getLast? with | some x => if c < x.1 then some x else none | none => none := by
  rw [inW_two]
  have hp : (l.filter (upTo t)).Pairwise (fun a b => a.1 < b.1) := h.sublist List.filter_sublist
  generalize l.filter (upTo t) = m at hp
  cases hm : m.getLast? with
  | none =>
    have : m = [] := List.getLast?_eq_none_iff.1 hm
    rw [this]; rfl
  | some x =>
    obtain ⟨m', rfl⟩ := List.getLast?_eq_some_iff.1 hm
    show _ = if c < x.1 then some x else none
    rw [List.filter_append]
    by_cases hc : c < x.1
    · rw [if_pos hc, List.filter_cons, if_pos (by simpa using hc)]; simp
    · rw [if_neg hc, List.filter_cons, if_neg (by simpa using hc)]
      have : m'.filter (fun x => decide (c < x.1)) = [] := by
        rw [List.filter_eq_nil_iff]
        intro y hy
        have h2 := (List.pairwise_append.1 hp).2.2 y hy x (by simp)
        simp; omega
      rw [this]; rfl
theorem upTo_step {l : List Pt} {i : Nat} {x : Pt} (hx : l[i]? = some x) (t : Int) : (l.take (i + 1)).filter (upTo t) = (l.take i).filter (upTo t) ++ (if x.1 ≤ t then [x] else []) := by
  have e : l.take (i + 1) = l.take i ++ [x] := by rw [List.take_add_one, hx]; rfl
  rw [e, List.filter_append]
  congr 1
  unfold upTo
  by_cases h : x.1 ≤ t
  · rw [if_pos h, List.filter_cons, if_pos (by simpa using h)]; rfl
  · rw [if_neg h, List.filter_cons, if_neg (by simpa using h)]; rfl
theorem nums_len (l : List Pt) : (numsF l).length = l.length := List.length_map _
theorem small_sum {l : List Int} (hl : l.length ≤ 25) (h : ∀ x ∈ l, -1000000000 ≤ x ∧ x ≤ 1000000000) : valP l.sum := by
  have := sum_between (-1000000000) 1000000000 l h
  unfold valP; omega
theorem small_grow {l : List Int} (hl : l.length ≤ 25) (h : ∀ x ∈ l, -1000000000 ≤ x ∧ x ≤ 1000000000) : growP l = some (grownF l) := by
  have hs := steps_bound (-1000000000) 1000000000 (by omega) (by omega) l h
  have hlen := steps_len l
  have hsum := sum_between (-1000000000) 2000000000 (stepsF l) (fun d hd => by have := hs d hd; omega)
  unfold growP
  rw [if_pos]
  refine ⟨fun d hd => ?_, ?_⟩
  · have := hs d hd; unfold valP; omega
  · rw [grown_sum]; unfold valP; omega
/-- Points whose numbers are small: each function's answer. -/
theorem over_small {l : List Pt} (hr : pointsB l = true) (h2 : 2 ≤ l.length) (h : ∀ x ∈ numsF l, -1000000000 ≤ x ∧ x ≤ 1000000000) :
    overF 0 l = ((numsF l).sum, true, 0) ∧ overF 1 l = (minL (numsF l), true, 0) ∧ overF 2 l = (maxL (numsF l), true, 0) ∧ overF 3 l = ((l.length : Int), true, 0) ∧ overF 4 l = ((numsF l).sum.tdiv l.length, true, 0) ∧ overF 5 l = (((numsF l).getLast?).getD 0, true, 0) ∧ overF 6 l = (grownF (numsF l), true, 0) ∧
    overF 7 l = (if valP (grownF (numsF l) * 1000) then ((grownF (numsF l) * 1000).tdiv (((timesP l).getLast?).getD 0 - ((timesP l).head?).getD 0), true, 0) else (0, false, 4)) := by
  have hl := ((points_iff l).1 hr).1
  have hn : (numsF l).length ≤ 25 := by rw [nums_len]; exact hl
  have hs := small_sum hn h
  have hg := small_grow hn h
  have hne : l ≠ [] := fun e => by rw [e] at h2; simp at h2
  have k : ∀ j : Nat, j < 8 → ¬ (8 ≤ j ∨ pointsB l = false) := fun j hj hh => by
    rcases hh with hh | hh
    · omega
    · rw [hr] at hh; cases hh
  have k2 : ∀ j : Nat, ¬ (l = [] ∨ (l.length < 2 ∧ 6 ≤ j)) := fun j hh => by
    rcases hh with hh | hh
    · exact hne hh
    · omega
  refine ⟨?_, ?_, ?_, ?_, ?_, ?_, ?_, ?_⟩ <;> (unfold overF; rw [if_neg (k _ (by decide)), if_neg (k2 _)])
  · show withinP _ = _
    unfold withinP; rw [if_pos hs]
  · rfl
  · rfl
  · rfl
  · rfl
  · rfl
  · simp only [hg]
  · simp only [hg]
/-- Of one point. -/
theorem over_one {p : Pt} (hr : pointsB [p] = true) : overF 0 [p] = (p.2, true, 0) ∧ overF 1 [p] = (p.2, true, 0) ∧ overF 2 [p] = (p.2, true, 0) ∧ overF 3 [p] = (1, true, 0) ∧ overF 4 [p] = (p.2, true, 0) ∧ overF 5 [p] = (p.2, true, 0) ∧ overF 6 [p] = (0, false, 0) ∧ overF 7 [p] = (0, false, 0) := by
  have hv := ((points_iff [p]).1 hr).2.2 p (by simp)
  refine ⟨?_, ?_, ?_, ?_, ?_, ?_, ?_, ?_⟩
  · simp [overF, hr, numsF, withinP, hv.2]
  · simp [overF, hr, numsF, minL]
  · simp [overF, hr, numsF, maxL]
  · simp [overF, hr]
  · simp [overF, hr, numsF]
  · simp [overF, hr, numsF]
  · simp [overF, hr]
  · simp [overF, hr]
theorem over_none (k : Nat) (hk : k < 8) : overF k [] = (0, false, 0) := by
  unfold overF
  rw [if_neg (by rintro (h | h); omega; exact absurd h (by decide)), if_pos (.inl rfl)]
end Go.Proofs.Ytkipdfeoebibgaa.Win
end

section
/- Points of a while, plain: points looked at one by one; the names of the functions. No program in it. -/

namespace Go.Proofs.Ytkipdfeoebibgaa.Win

def prevO (l : List Pt) (k : Nat) : Option Int := if k = 0 then none else (l[k-1]?).map fun x => x.1
theorem drop_get {l : List Pt} {k : Nat} {x : Pt} (h : l[k]? = some x) : l.drop k = x :: l.drop (k + 1) := by
  obtain ⟨hk, e⟩ := List.getElem?_eq_some_iff.1 h
  rw [List.drop_eq_getElem_cons hk, e]
theorem rises_bad_time {l : List Pt} {k : Nat} {x : Pt} (h : l[k]? = some x) (ht : ¬ timeP x.1) : risesP (prevO l k) (l.drop k) = false := by
  rw [drop_get h]
  cases prevO l k <;> simp [risesP, ht]
theorem rises_bad_val {l : List Pt} {k : Nat} {x : Pt} (h : l[k]? = some x) (ht : ¬ valP x.2) : risesP (prevO l k) (l.drop k) = false := by
  rw [drop_get h]
  cases prevO l k <;> simp [risesP, ht]
theorem prevO_succ {l : List Pt} {k : Nat} {x : Pt} (h : l[k]? = some x) : prevO l (k + 1) = some x.1 := by
  unfold prevO
  rw [if_neg (by omega), Nat.add_sub_cancel, h]; rfl
theorem rises_bad_step {l : List Pt} {k : Nat} {x y : Pt} (h : l[k + 1]? = some x) (hy : l[k]? = some y) (hs : ¬ y.1 < x.1) : risesP (prevO l (k + 1)) (l.drop (k + 1)) = false := by
  rw [drop_get h, prevO_succ hy]
  simp [risesP, hs]
theorem rises_first {l : List Pt} {x : Pt} (h : l[0]? = some x) (ht : timeP x.1) (hv : valP x.2) : risesP (prevO l (0 + 1)) (l.drop (0 + 1)) = risesP (prevO l 0) (l.drop 0) := by
  rw [drop_get h, prevO_succ h]
  simp [prevO, risesP, ht, hv]
theorem rises_next {l : List Pt} {k : Nat} {x y : Pt} (h : l[k + 1]? = some x) (hy : l[k]? = some y) (ht : timeP x.1) (hv : valP x.2) (hs : y.1 < x.1) : risesP (prevO l (k + 1 + 1)) (l.drop (k + 1 + 1)) = risesP (prevO l (k + 1)) (l.drop (k + 1)) := by
  rw [drop_get h, prevO_succ h, prevO_succ hy]
  simp [risesP, ht, hv, hs]
theorem rises_zero (l : List Pt) : risesP (prevO l 0) (l.drop 0) = risesP none l := rfl
theorem rises_end {l : List Pt} {k : Nat} (h : l.length ≤ k) : risesP (prevO l k) (l.drop k) = true := by
  rw [List.drop_eq_nil_of_le h]; cases prevO l k <;> rfl
theorem points_long {l : List Pt} (h : 25 < l.length) : pointsB l = false := by
  unfold pointsB; rw [decide_eq_false (by omega), Bool.false_and]
theorem points_short {l : List Pt} (h : l.length ≤ 25) : pointsB l = risesP none l := by
  unfold pointsB; rw [decide_eq_true h, Bool.true_and]

/-- The names of the functions, in chapter 5's row. -/
def nmOf : Nat → ByteArray
  | 0 => ⟨#[115, 117, 109, 95, 111, 118, 101, 114]⟩
  | 1 => ⟨#[109, 105, 110, 95, 111, 118, 101, 114]⟩
  | 2 => ⟨#[109, 97, 120, 95, 111, 118, 101, 114]⟩
  | 3 => ⟨#[99, 111, 117, 110, 116, 95, 111, 118, 101, 114]⟩
  | 4 => ⟨#[97, 118, 103, 95, 111, 118, 101, 114]⟩
  | 5 => ⟨#[108, 97, 115, 116, 95, 111, 118, 101, 114]⟩
  | 6 => ⟨#[105, 110, 99, 114, 101, 97, 115, 101]⟩
  | _ => ⟨#[114, 97, 116, 101]⟩
/-- Which function a name is of: its place, or 8. -/
def fnF (s : ByteArray) : Nat :=
  if s = nmOf 0 then 0 else if s = nmOf 1 then 1 else if s = nmOf 2 then 2 else if s = nmOf 3 then 3 else if s = nmOf 4 then 4 else if s = nmOf 5 then 5 else if s = nmOf 6 then 6 else if s = nmOf 7 then 7 else 8
theorem fn_nm : ∀ k, k < 8 → fnF (nmOf k) = k := by decide +kernel
theorem fn_le (s : ByteArray) : fnF s ≤ 8 := by unfold fnF; (repeat' split) <;> omega
/-- A text that is no name. -/
structure NoFn (s : ByteArray) : Prop where
  n0 : ¬ s.toList = [115, 117, 109, 95, 111, 118, 101, 114]
  n1 : ¬ s.toList = [109, 105, 110, 95, 111, 118, 101, 114]
  n2 : ¬ s.toList = [109, 97, 120, 95, 111, 118, 101, 114]
  n3 : ¬ s.toList = [99, 111, 117, 110, 116, 95, 111, 118, 101, 114]
  n4 : ¬ s.toList = [97, 118, 103, 95, 111, 118, 101, 114]
  n5 : ¬ s.toList = [108, 97, 115, 116, 95, 111, 118, 101, 114]
  n6 : ¬ s.toList = [105, 110, 99, 114, 101, 97, 115, 101]
  n7 : ¬ s.toList = [114, 97, 116, 101]
theorem fn_cases (s : ByteArray) : (∃ k, k < 8 ∧ s = nmOf k) ∨ (fnF s = 8 ∧ NoFn s) := by
  by_cases h0 : s = nmOf 0; · exact .inl ⟨0, by omega, h0⟩
  by_cases h1 : s = nmOf 1; · exact .inl ⟨1, by omega, h1⟩
  by_cases h2 : s = nmOf 2; · exact .inl ⟨2, by omega, h2⟩
  by_cases h3 : s = nmOf 3; · exact .inl ⟨3, by omega, h3⟩
  by_cases h4 : s = nmOf 4; · exact .inl ⟨4, by omega, h4⟩
  by_cases h5 : s = nmOf 5; · exact .inl ⟨5, by omega, h5⟩
  by_cases h6 : s = nmOf 6; · exact .inl ⟨6, by omega, h6⟩
  by_cases h7 : s = nmOf 7; · exact .inl ⟨7, by omega, h7⟩
  have key : ∀ (l : List UInt8), ¬ s = ⟨l.toArray⟩ → ¬ s.toList = l := fun l hl e => hl (by
    have e2 : s.data.toList = l := by rw [← e]; exact (ByteArray.toList_eq s).symm
    cases s; congr 1; exact Array.ext' (by simpa using e2))
  exact .inr ⟨by unfold fnF; rw [if_neg h0, if_neg h1, if_neg h2, if_neg h3, if_neg h4, if_neg h5, if_neg h6, if_neg h7], key _ h0, key _ h1, key _ h2, key _ h3, key _ h4, key _ h5, key _ h6, key _ h7⟩
theorem eight_cases {p : Nat → Prop} (h0 : p 0) (h1 : p 1) (h2 : p 2) (h3 : p 3) (h4 : p 4) (h5 : p 5) (h6 : p 6) (h7 : p 7) : ∀ k, k < 8 → p k := by
  intro k hk
  match k, hk with
  | 0, _ => exact h0
  | 1, _ => exact h1
  | 2, _ => exact h2
  | 3, _ => exact h3
  | 4, _ => exact h4
  | 5, _ => exact h5
  | 6, _ => exact h6
  | 7, _ => exact h7
end Go.Proofs.Ytkipdfeoebibgaa.Win
end

section
/- Numbers with a limit, plain: signs, what they reckon, texts that are signs. No program in it. -/

namespace Go.Proofs.Ytkipdfeoebibgaa.Fix

/-- A number that may be. -/
def rgt (v : Int) : Prop := -1000000000000 ≤ v ∧ v ≤ 1000000000000
instance (v : Int) : Decidable (rgt v) := by unfold rgt; infer_instance
def rgtB (v : Int) : Bool := decide (rgt v)

def reckB (f : Int) (q : Bool) : Bool := (f == 43 || f == 45 || f == 42 || f == 47 || f == 37) && !q
def cmpB (f : Int) (q : Bool) : Bool := if f = 61 ∨ f = 33 then q else f == 60 || f == 62
/-- What is read of runes: the first one, whether an equality sign stands behind it, whether it is a sign. -/
def readF : List Int → Int × Bool × Bool
  | [] => (0, false, false)
  | [f] => (f, false, reckB f false || cmpB f false)
  | [f, g] => if g = 61 then (f, true, reckB f true || cmpB f true) else (0, false, false)
  | _ => (0, false, false)

/-- Which sign a text is: its first rune, and whether an equality sign stands behind it. -/
def signOf (s : ByteArray) : Option (Int × Bool) :=
  if (readF (spell s.data.toList)).2.2 then some ((readF (spell s.data.toList)).1, (readF (spell s.data.toList)).2.1) else none

def holdsF (f : Int) (q : Bool) (a b : Int) : Bool :=
  if f = 60 then decide (a < b) || (q && a == b) else if f = 62 then decide (b < a) || (q && a == b) else if f = 61 then a == b else !(a == b)
def withinF (v : Int) : Int × Int := if rgt v then (v, 0) else (0, 4)
def sizeF (v : Int) : Int := if v ≤ -v then -v else v
def timesF (a b : Int) : Int × Int := if b ≠ 0 ∧ 1000000000000 / sizeF b < sizeF a then (0, 4) else (a * b, 0)
def reckF (f : Int) (a b : Int) : Int × Int :=
  if f = 43 then withinF (a + b) else if f = 45 then withinF (a - b) else if f = 42 then timesF a b else
  if b = 0 then (0, 5) else if f = 47 then (a.tdiv b, 0) else (a.tmod b, 0)
def doF (s : ByteArray) (a b : Int) : Int × Int :=
  match signOf s with
  | none => (0, 1)
  | some x => if rgt a ∧ rgt b then (if cmpB x.1 x.2 then (if holdsF x.1 x.2 a b then (1, 0) else (0, 0)) else reckF x.1 a b) else (0, 1)
def comparesF (s : ByteArray) : Bool :=
  match signOf s with
  | none => false
  | some x => cmpB x.1 x.2

/-! ### which texts are signs -/
theorem bytes_ext {a b : ByteArray} (h : a.data.toList = b.data.toList) : a = b := by
  cases a; cases b; congr 1; exact Array.ext' h
theorem spell_nil : spell [] = [] := rfl
theorem spell_step (l : List UInt8) (hne : l ≠ []) : spell l = rune l :: spell (l.drop (Go.Lib.decodeL l).2) := by
  unfold spell; rw [sufs_step l hne, List.map_cons]
theorem ascii_cons (c : UInt8) (hc : c.toNat < 128) (l : List UInt8) : spell (c :: l) = (c.toNat : Int) :: spell l := by
  have hd : Go.Lib.decodeL (c :: l) = (c.toNat, 1) := by
    rw [Go.Lib.decodeL_N]
    unfold Go.Lib.decodeN
    rw [if_pos (by simpa using hc)]; rfl
  rw [spell_step _ (by simp)]
  unfold rune
  rw [hd]; rfl
/-- A rune below 128 is its one byte. -/
theorem ascii_head (l : List UInt8) (hne : l ≠ []) (h : rune l < 128) : ∃ c t, l = c :: t ∧ c.toNat < 128 ∧ rune l = c.toNat ∧ spell l = (c.toNat : Int) :: spell t := by
  cases l with
  | nil => exact absurd rfl hne
  | cons c t =>
    have hc : c.toNat < 128 := by
      unfold rune at h
      rw [Go.Lib.decodeL_N] at h
      have h0 : ((c :: t).getD 0 0) = c := rfl
      rw [h0] at h
      rcases Go.Lib.decodeN_shape (c :: t).length c.toNat ((c :: t).getD 1 0).toNat ((c :: t).getD 2 0).toNat ((c :: t).getD 3 0).toNat with ⟨k, e⟩ | ⟨c1, c2, c3, cv, e⟩ | ⟨c1, c2, c3, c4, cv, cs, e⟩ | ⟨c1, c2, c3, c4, c5, cv, cw, e⟩ | e
      · omega
      all_goals (rw [e] at h; dsimp only at h; omega)
    have e := ascii_cons c hc t
    refine ⟨c, t, rfl, hc, ?_, e⟩
    have := spell_step (c :: t) (by simp)
    rw [e] at this
    exact (List.cons.inj this).1.symm
theorem spell_one {l : List UInt8} {f : Int} (h : spell l = [f]) (hf : f < 128) : l = [f.toNat.toUInt8] := by
  have hne : l ≠ [] := fun e => by rw [e] at h; simp [spell_nil] at h
  have h2 := spell_step l hne
  rw [h] at h2
  obtain ⟨c, t, rfl, hc, hr, e⟩ := ascii_head l hne (by rw [← (List.cons.inj h2).1]; exact hf)
  rw [h] at e
  obtain ⟨e1, e2⟩ := List.cons.inj e
  have ht : t = [] := by
    cases t with
    | nil => rfl
    | cons x y => rw [spell_step _ (by simp)] at e2; simp at e2
  subst ht
  rw [e1]; simp
theorem spell_two {l : List UInt8} {f g : Int} (h : spell l = [f, g]) (hf : f < 128) (hg : g < 128) : l = [f.toNat.toUInt8, g.toNat.toUInt8] := by
  have hne : l ≠ [] := fun e => by rw [e] at h; simp [spell_nil] at h
  have h2 := spell_step l hne
  rw [h] at h2
  obtain ⟨c, t, rfl, hc, hr, e⟩ := ascii_head l hne (by rw [← (List.cons.inj h2).1]; exact hf)
  rw [h] at e
  obtain ⟨e1, e2⟩ := List.cons.inj e
  rw [spell_one e2.symm hg, e1]; simp

theorem readF_cases {l : List Int} (h : (readF l).2.2 = true) :
    l = [43] ∨ l = [45] ∨ l = [42] ∨ l = [47] ∨ l = [37] ∨ l = [61, 61] ∨ l = [33, 61] ∨ l = [60] ∨ l = [60, 61] ∨ l = [62] ∨ l = [62, 61] := by
  match l, h with
  | [], h => simp [readF] at h
  | [f], h =>
    simp only [readF, reckB, cmpB] at h
    by_cases h1 : f = 61 ∨ f = 33
    · rw [if_pos h1] at h
      rcases h1 with rfl | rfl <;> simp at h
    · rw [if_neg h1] at h
      simp at h
      rcases h with ((((rfl | rfl) | rfl) | rfl) | rfl) | rfl | rfl <;> simp
  | [f, g], h =>
    by_cases hg : g = 61
    · subst hg
      simp only [readF, if_true, reckB, cmpB] at h
      by_cases h1 : f = 61 ∨ f = 33
      · rcases h1 with rfl | rfl <;> simp
      · rw [if_neg h1] at h
        simp at h
        rcases h with rfl | rfl <;> simp
    · simp [readF, hg] at h
  | f :: g :: k :: t, h => simp [readF] at h

/-- The eleven signs, as texts. -/
def signs : List ByteArray := [⟨#[43]⟩, ⟨#[45]⟩, ⟨#[42]⟩, ⟨#[47]⟩, ⟨#[37]⟩, ⟨#[61, 61]⟩, ⟨#[33, 61]⟩, ⟨#[60]⟩, ⟨#[60, 61]⟩, ⟨#[62]⟩, ⟨#[62, 61]⟩]
theorem sign_of_read {s : ByteArray} (h : (readF (spell s.data.toList)).2.2 = true) : s ∈ signs := by
  have one : ∀ f : Int, f < 128 → spell s.data.toList = [f] → s = ⟨#[f.toNat.toUInt8]⟩ := fun f hf e => bytes_ext (spell_one e hf)
  have two : ∀ f g : Int, f < 128 → g < 128 → spell s.data.toList = [f, g] → s = ⟨#[f.toNat.toUInt8, g.toNat.toUInt8]⟩ := fun f g hf hg e => bytes_ext (spell_two e hf hg)
  unfold signs
  rcases readF_cases h with e | e | e | e | e | e | e | e | e | e | e
  · rw [one _ (by decide) e]; exact List.mem_of_getElem? (i := 0) rfl
  · rw [one _ (by decide) e]; exact List.mem_of_getElem? (i := 1) rfl
  · rw [one _ (by decide) e]; exact List.mem_of_getElem? (i := 2) rfl
  · rw [one _ (by decide) e]; exact List.mem_of_getElem? (i := 3) rfl
  · rw [one _ (by decide) e]; exact List.mem_of_getElem? (i := 4) rfl
  · rw [two _ _ (by decide) (by decide) e]; exact List.mem_of_getElem? (i := 5) rfl
  · rw [two _ _ (by decide) (by decide) e]; exact List.mem_of_getElem? (i := 6) rfl
  · rw [one _ (by decide) e]; exact List.mem_of_getElem? (i := 7) rfl
  · rw [two _ _ (by decide) (by decide) e]; exact List.mem_of_getElem? (i := 8) rfl
  · rw [one _ (by decide) e]; exact List.mem_of_getElem? (i := 9) rfl
  · rw [two _ _ (by decide) (by decide) e]; exact List.mem_of_getElem? (i := 10) rfl
theorem signOf_none {s : ByteArray} (h : s ∉ signs) : signOf s = none := by
  unfold signOf
  rw [if_neg (fun h2 => h (sign_of_read h2))]
theorem sign_add : signOf ⟨#[43]⟩ = some (43, false) := by decide +kernel
theorem sign_sub : signOf ⟨#[45]⟩ = some (45, false) := by decide +kernel
theorem sign_mul : signOf ⟨#[42]⟩ = some (42, false) := by decide +kernel
theorem sign_div : signOf ⟨#[47]⟩ = some (47, false) := by decide +kernel
theorem sign_mod : signOf ⟨#[37]⟩ = some (37, false) := by decide +kernel
theorem sign_eq : signOf ⟨#[61, 61]⟩ = some (61, true) := by decide +kernel
theorem sign_ne : signOf ⟨#[33, 61]⟩ = some (33, true) := by decide +kernel
theorem sign_lt : signOf ⟨#[60]⟩ = some (60, false) := by decide +kernel
theorem sign_le : signOf ⟨#[60, 61]⟩ = some (60, true) := by decide +kernel
theorem sign_gt : signOf ⟨#[62]⟩ = some (62, false) := by decide +kernel
theorem sign_ge : signOf ⟨#[62, 61]⟩ = some (62, true) := by decide +kernel
end Go.Proofs.Ytkipdfeoebibgaa.Fix
end

section
/- Walks: whether a number may be; signs. -/



namespace Go.Proofs.Ytkipdfeoebibgaa.Fix
open Go.RowKit

set_option maxHeartbeats 400000 in
theorem right_any (v : Int) (w : World) : Calls Try.prog 20 #[.int .i64 v] w fun e w' => e = .returned (.bool (rgtB v)) ∧ w = w' := by
  by_cases h1 : -1000000000000 ≤ v
  · by_cases h2 : v ≤ 1000000000000
    · have H := Lib.hid (show true = rgtB v by unfold rgtB rgt; simp [h1, h2])
      have t1 : decide (-1000000000000 ≤ v) = true := by simpa using h1
      have t2 : decide (v ≤ 1000000000000) = true := by simpa using h2
      go_enter Try.func20, Try.ntmps20
      go_wp2
      go_ret
      exact ⟨ret_bool H.out, rfl⟩
    · have H := Lib.hid (show false = rgtB v by unfold rgtB rgt; simp [h2])
      have t1 : decide (-1000000000000 ≤ v) = true := by simpa using h1
      have t2 : decide (v ≤ 1000000000000) = false := by simpa using h2
      clear h2
      go_enter Try.func20, Try.ntmps20
      go_wp2
      go_ret
      exact ⟨ret_bool H.out, rfl⟩
  · have H := Lib.hid (show false = rgtB v by unfold rgtB rgt; simp [h1])
    have t1 : decide (-1000000000000 ≤ v) = false := by simpa using h1
    clear h1
    go_enter Try.func20, Try.ntmps20
    go_wp2
    go_ret
    exact ⟨ret_bool H.out, rfl⟩

set_option maxHeartbeats 400000 in
theorem right_yes (v : Int) (w : World) (h : rgt v) : Calls Try.prog 20 #[.int .i64 v] w fun e w' => e = .returned (.bool true) ∧ w = w' := by
  have e : rgtB v = true := by simpa [rgtB] using h
  rw [← e]; exact right_any v w
theorem right_no (v : Int) (w : World) (h : ¬ rgt v) : Calls Try.prog 20 #[.int .i64 v] w fun e w' => e = .returned (.bool false) ∧ w = w' := by
  have e : rgtB v = false := by simpa [rgtB] using h
  rw [← e]; exact right_any v w
end Go.Proofs.Ytkipdfeoebibgaa.Fix
end

section
/- Walks: times, and which points are right. -/



namespace Go.Proofs.Ytkipdfeoebibgaa.Win
open Go.RowKit Go.Lib Fix

end Go.Proofs.Ytkipdfeoebibgaa.Win
end

section
/- The store: series told anew; whether labels may be; a series against labels. -/





namespace Go.Proofs.Ytkipdfeoebibgaa.Sto
open Go.RowKit

/-- Labels that are few and short. -/
structure Small (l : Labs) : Prop where
  len : l.length ≤ 1000
  sizes : ∀ y ∈ l, y.1.size ≤ 1000 ∧ y.2.size ≤ 1000
theorem Small.big {l : Labs} (h : Small l) : ∀ y ∈ l, y.1.size ≤ 281474976710656 ∧ y.2.size ≤ 281474976710656 := fun y hy => by have := h.sizes y hy; omega
/-- A store's series. -/
structure Fine (xs : List Srs) : Prop where
  few : xs.length ≤ 40
  each : ∀ x ∈ xs, Small x.1 ∧ 0 < x.2.length ∧ x.2.length ≤ 25
  rises : Rises (K := Labs) xs

def metricT : ByteArray := ⟨#[109, 101, 116, 114, 105, 99]⟩
/-- May labels be a series'? -/
def mayB (l : Labs) : Bool := rightB l && !(getL metricT l).toList.isEmpty

set_option maxHeartbeats 2000000 in
set_option maxRecDepth 100000 in
theorem may_any (o : Option Addr) (cap : Nat) (l : Labs) (w : World) (hl : Small l) (hS : SeesO w o l) :
    Calls Try.prog 18 #[.slice o l.length cap] w fun e w' => e = .returned (.bool (mayB l)) ∧ Below w.heap.size w w' := by
  have hm : l.length ≤ maxLen := by have := hl.len; unfold maxLen; omega
  have HR := Lib.hid (fun W (hb : Below w.heap.size w W) => right_any o cap l W hm (hS.below hb))
  have HG := Lib.hid (fun W (hb : Below w.heap.size w W) => get_any o cap l metricT W hm (hS.below hb) (fun x hx => (hl.big x hx).2))
  obtain ⟨n, hn⟩ : ∃ n, l.length = n := ⟨_, rfl⟩
  obtain ⟨m, hm0⟩ : ∃ m, mayB l = m := ⟨_, rfl⟩
  rw [hm0]
  unfold mayB at hm0
  rw [hn] at HR HG ⊢
  clear hl hS hm hn
  cases hr : rightB l with
  | false =>
    rw [hr] at HR hm0
    have HM := Lib.hid (show false = m by rw [← hm0]; rfl)
    clear hm0 hr HG
    go_enter Try.func18, Try.ntmps18
    go_wp2_with (go_at_call 34; refine (HR.out _ (Below.refl _ _)).mono ?_; rintro e w1 ⟨rfl, b1⟩)
    go_ret
    exact ⟨ret_bool HM.out, b1⟩
  | true =>
    rw [hr] at HR hm0
    obtain ⟨g, hg⟩ : ∃ g, getL metricT l = g := ⟨_, rfl⟩
    rw [hg] at HG hm0
    have HM := Lib.hid (show (!g.toList.isEmpty) = m by rw [← hm0]; rfl)
    clear hm0 hr hg
    unfold metricT at HG
    go_enter Try.func18, Try.ntmps18
    go_wp2_with fail
    refine (HR.out _ (Below.refl _ _)).mono ?_
    rintro e w1 ⟨rfl, b1⟩
    have HB1 := Lib.hid b1
    clear b1
    go_wp2_with fail
    refine (HG.out _ HB1.out).mono ?_
    rintro e w2 ⟨rfl, b2⟩
    have HB2 := Lib.hid (HB1.out.trans (b2.mono HB1.out.size))
    clear b2
    go_wp2
    go_ret
    exact ⟨ret_bool (by rw [← HM.out]), HB2.out⟩
theorem inTime_any (t : Int) (w : World) : Calls Try.prog 19 #[.int .i64 t] w fun e w' => e = .returned (.bool (decide (0 ≤ t ∧ t ≤ 1000000000))) ∧ w' = w := by
  by_cases h1 : 0 ≤ t
  · by_cases h2 : t ≤ 1000000000
    · have h3 : decide (0 ≤ t ∧ t ≤ 1000000000) = true := by simp [h1, h2]
      rw [h3]
      clear h3
      go_enter Try.func19, Try.ntmps19
      go_wp2
      go_ret
      exact ⟨rfl, rfl⟩
    · have h3 : decide (0 ≤ t ∧ t ≤ 1000000000) = false := by simp [h2]
      rw [h3]
      clear h3
      go_enter Try.func19, Try.ntmps19
      go_wp2
      go_ret
      exact ⟨rfl, rfl⟩
  · have h3 : decide (0 ≤ t ∧ t ≤ 1000000000) = false := by simp [h1]
    rw [h3]
    clear h3
    go_enter Try.func19, Try.ntmps19
    go_wp2
    go_ret
    exact ⟨rfl, rfl⟩

set_option maxHeartbeats 2000000 in
set_option maxRecDepth 100000 in
/-- A series against labels. -/
theorem compare_one (o1 o2 : Option Addr) (n1 c1 n2 c2 : Nat) (v : Value) (a b : Labs) (w : World) (h1 : a.length = n1) (h2 : b.length = n2) (hm : n1 ≤ maxLen) (hm2 : n2 ≤ maxLen) (hS1 : SeesO w o1 a) (hS2 : SeesO w o2 b) :
    Calls Try.prog 22 #[.agg #[.slice o1 n1 c1, v], .slice o2 n2 c2] w fun e w' => e = .returned (.int .i64 (cmpL a b)) ∧ Below w.heap.size w w' := by
  subst h1 h2
  have HC := Lib.hid (fun W (hb : Below w.heap.size w W) => compare_any o1 o2 c1 c2 a b W hm hm2 (hS1.below hb) (hS2.below hb))
  generalize a.length = n1 at HC ⊢
  generalize b.length = n2 at HC ⊢
  generalize cmpL a b = r at HC ⊢
  clear hm hm2 hS1 hS2
  go_enter Try.func22, Try.ntmps22
  go_wp2_with fail
  refine (HC.out _ ((Below.refl _ _).alloc (Nat.le_refl _) _)).mono ?_
  rintro e w1 ⟨rfl, b1⟩
  go_wp2
  go_ret
  exact ⟨rfl, ((Below.refl _ _).alloc (Nat.le_refl _) _).trans (b1.mono (by simp))⟩

set_option maxHeartbeats 2000000 in
set_option maxRecDepth 100000 in
/-- Points told anew. -/
theorem clonePts_any (b off cap : Nat) (xs : List Pt) (w : World) (h0 : 0 < xs.length) (hx : xs.length ≤ 1000000) (hS : Pnt.Sees w b off xs) :
    Calls Try.prog 41 #[.slice (some ⟨b, off, none⟩) xs.length cap] w fun e w' => (∃ v, e = .returned v ∧ w'.ownsRow w.heap.size 58 2 v xs.length (Pnt.flatL xs)) ∧ Below w.heap.size w w' := by
  obtain ⟨i0, hi, hz0, hz1, hz2⟩ := info_parts Pnt.info38
  obtain ⟨n, hn⟩ : ∃ n, xs.length = n := ⟨_, rfl⟩
  have hl := Pnt.flatL_len xs
  have hall := Pnt.sees_all hS
  have hlow := hS.low
  have hone := Pnt.flatL_cells xs
  rw [hn] at h0 hx hl ⊢
  generalize Pnt.flatL xs = L at hl hall hone ⊢
  clear hS hn
  have hown : (w.alloc (.cells #[] 58)).ownsRow w.heap.size 58 2 (.slice (some ⟨w.heap.size, 0, none⟩) 0 0) 0 [] := World.ownsRow_made w #[] 0 (Nat.le_refl _) (Nat.zero_le _) (by simp)
  have hnews : ∀ j u, L[j]? = some u → (w.alloc (.cells #[] 58)).cell? ((⟨b, off, none⟩ : Addr).add j) = some u := fun j u hj => by
    have := hall j u hj
    rw [← this]
    refine ((Below.refl w.heap.size w).alloc (Nat.le_refl _) _).cell ?_
    unfold Addr.add; split <;> exact hlow
  have q := Lib.run_eql_slice_nil (P := Try.prog) w 54 58 (some ⟨b, off, none⟩) n cap 0 0 Try.underlying54
  go_enter Try.func41, Try.ntmps41
  go_wp2_with (at_builtin; go_must (refine wpList_append_own _ rfl _ _ 54 rfl w.heap.size 58 i0 (.agg #[.int .i64 0, .int .i64 0]) 2 16 Try.underlying54 hi hz0 hz1 hz2 rfl (by decide) _ _ _ rfl hown ⟨b, off, none⟩ n cap L rfl hl hnews hone (by unfold maxLen; omega) (by omega) (by simp) ?_); intro v' w3 hown' hgrow3 hnil3)
  trace_state
  go_ret
  refine ⟨⟨v', rfl, ?_⟩, ?_⟩
  · rw [Nat.zero_add, List.nil_append] at hown'; exact hown'
  · exact Below.grown ((Below.refl _ _).alloc (Nat.le_refl _) _) hgrow3 (by simp) (fun j hj => (hown.lt _ hj).1)

/-- What a series told anew is: two rows of its own. -/
def Told (B : Nat) (w : World) (x : Srs) (u v : Value) : Prop := w.ownsRow B 53 2 u x.1.length (flatL x.1) ∧ w.ownsRow B 58 2 v x.2.length (Pnt.flatL x.2)
theorem Told.below {B : Nat} {w w' : World} {x : Srs} {u v : Value} (h : Told B w x u v) (hb : Below w.heap.size w w') : Told B w' x u v := ⟨own_grown h.1 hb, own_grown h.2 hb⟩
theorem Told.mono {B C : Nat} {w : World} {x : Srs} {u v : Value} (h : Told B w x u v) (hB : C ≤ B) : Told C w x u v := ⟨own_mono h.1 hB, own_mono h.2 hB⟩

/-- Two blocks of a series each: what was handed in; what is made. -/
def Two2 (k : Nat) (a b : Value) (w W : World) : Prop := W.heap[k]? = some (.cells #[a, b] 56 (0, 0)) ∧ W.heap[k + 1]? = some (.cells #[.slice none 0 0, .slice none 0 0] 56 (0, 0)) ∧ Below k w W
theorem Two2.below {k : Nat} {a b : Value} {w W W' : World} (h : Two2 k a b w W) (hb : Below W.heap.size W W') : Two2 k a b w W' := by
  have h1 := (Array.getElem?_eq_some_iff.1 h.1).1
  exact ⟨(hb.block _ h1).trans h.1, (hb.block _ (Array.getElem?_eq_some_iff.1 h.2.1).1).trans h.2.1, h.2.2.trans (hb.mono (by omega))⟩
theorem Two2.reads {k : Nat} {a b : Value} {w W : World} (h : Two2 k a b w W) : W.cell? ⟨k, 0, none⟩ = some a ∧ W.cell? ⟨k, 1, none⟩ = some b ∧ W.cell? ⟨k + 1, 0, none⟩ = some (.slice none 0 0) ∧ W.cell? ⟨k + 1, 1, none⟩ = some (.slice none 0 0) ∧ W.frozen? ⟨k + 1, 0, none⟩ = false ∧ W.frozen? ⟨k + 1, 1, none⟩ = false := by
  obtain ⟨h1, h2, _⟩ := h
  refine ⟨?_, ?_, ?_, ?_, ?_, ?_⟩ <;> simp [World.cell?, World.frozen?, h1, h2]
theorem Two2.made (a b : Value) (w : World) : Two2 w.heap.size a b w ((w.alloc (Obj.cells #[a, b] 56)).alloc (Obj.cells #[.slice none 0 0, .slice none 0 0] 56)) := by
  refine ⟨?_, ?_, ((Below.refl _ _).alloc (Nat.le_refl _) _).alloc (by simp) _⟩
  · rw [Below.heap_alloc _ _ _ (by rw [World.size_alloc]; omega)]; exact Array.getElem?_push_size
  · have e : (w.alloc (Obj.cells #[a, b] 56)).heap.size = w.heap.size + 1 := World.size_alloc _ _
    rw [← e]; exact Array.getElem?_push_size
theorem own_set_other {w : World} {B e size n k i : Nat} {v u : Value} {xs : List Value} {cs : Array Value} {t : TypeId} (h : w.ownsRow B e size v n xs) (hk : w.heap[k]? = some (.cells cs t (0, 0))) (hne : e ≠ t) : (w.setCell ⟨k, i, none⟩ u).ownsRow B e size v n xs :=
  own_same h fun g hg => Below.heap_setCell _ _ _ _ (by
    obtain ⟨cs2, m2, h2⟩ := own_typ h hg
    rintro rfl
    rw [hk] at h2
    cases h2
    exact hne rfl)

set_option maxHeartbeats 4000000 in
set_option maxRecDepth 100000 in
theorem clone_ser (oL : Option Addr) (nL cL b off nP cP : Nat) (x : Srs) (w : World) (h1 : x.1.length = nL) (h2 : x.2.length = nP) (hs : Small x.1) (h0 : 0 < nP) (hx : nP ≤ 1000000) (hL : SeesO w oL x.1) (hP : Pnt.Sees w b off x.2) :
    Calls Try.prog 27 #[.agg #[.slice oL nL cL, .slice (some ⟨b, off, none⟩) nP cP]] w fun e w' => (∃ u v, e = .returned (.agg #[u, v]) ∧ Told w.heap.size w' x u v) ∧ Below w.heap.size w w' := by
  have HL := Lib.hid (fun W (hb : Below w.heap.size w W) => (show Calls Try.prog 40 #[.slice oL nL cL, .slice none 0 0] W fun e w' => (∃ u, e = .returned u ∧ w'.ownsRow w.heap.size 53 2 u x.1.length (flatL x.1)) ∧ Below W.heap.size W w' by
    rw [← h1]
    exact (without_none oL cL x.1 W (by have := hs.len; omega) (hL.below hb) hs.big).mono fun e w' q => ⟨by obtain ⟨u, e1, e2⟩ := q.1; exact ⟨u, e1, own_mono e2 hb.size⟩, q.2⟩))
  have HP := Lib.hid (fun W (hb : Below w.heap.size w W) => (show Calls Try.prog 41 #[.slice (some ⟨b, off, none⟩) nP cP] W fun e w' => (∃ v, e = .returned v ∧ w'.ownsRow w.heap.size 58 2 v x.2.length (Pnt.flatL x.2)) ∧ Below W.heap.size W w' by
    rw [← h2]
    exact (clonePts_any b off cP x.2 W (by omega) (by omega) (hP.below hb)).mono fun e w' q => ⟨by obtain ⟨u, e1, e2⟩ := q.1; exact ⟨u, e1, own_mono e2 hb.size⟩, q.2⟩))
  clear hs h0 hx hL hP h1 h2
  unfold Told
  generalize flatL x.1 = A at HL ⊢
  generalize Pnt.flatL x.2 = B at HP ⊢
  generalize x.1.length = mA at HL ⊢
  generalize x.2.length = mB at HP ⊢
  have HB0 := Lib.hid (fun W (h : Hid (Two2 w.heap.size (.slice oL nL cL) (.slice (some ⟨b, off, none⟩) nP cP) w W)) => h.out.2.2)
  have HL2 := Lib.hid (fun W (h : Hid (Two2 w.heap.size (.slice oL nL cL) (.slice (some ⟨b, off, none⟩) nP cP) w W)) => (HL.out W (HB0.out W h)).mono (fun e w' q => show (∃ o c, e = .returned (.slice o mA c) ∧ w'.cell? ⟨w.heap.size, 0, none⟩ = some (.slice oL nL cL) ∧ w'.cell? ⟨w.heap.size, 1, none⟩ = some (.slice (some ⟨b, off, none⟩) nP cP) ∧ w'.cell? ⟨w.heap.size + 1, 0, none⟩ = some (.slice none 0 0) ∧ w'.cell? ⟨w.heap.size + 1, 1, none⟩ = some (.slice none 0 0) ∧ w'.frozen? ⟨w.heap.size + 1, 0, none⟩ = false ∧ w'.frozen? ⟨w.heap.size + 1, 1, none⟩ = false ∧ Hid (Two2 w.heap.size (.slice oL nL cL) (.slice (some ⟨b, off, none⟩) nP cP) w w') ∧ Hid (w'.ownsRow w.heap.size 53 2 (.slice o mA c) mA A)) from by
    obtain ⟨⟨u, e1, e2⟩, hb⟩ := q
    obtain ⟨o, c, rfl, _⟩ := own_shape e2
    have h2 := h.out.below hb
    obtain ⟨g1, g2, g3, g4, g5, g6⟩ := h2.reads
    exact ⟨o, c, e1, g1, g2, g3, g4, g5, g6, h2, e2⟩))
  have HP2 := Lib.hid (fun W u (h : Hid (Two2 w.heap.size (.slice oL nL cL) (.slice (some ⟨b, off, none⟩) nP cP) w W)) (hu : Hid (W.ownsRow w.heap.size 53 2 u mA A)) => (HP.out W (HB0.out W h)).mono (fun e w' q => show (∃ o c, e = .returned (.slice o mB c) ∧ w'.cell? ⟨w.heap.size, 0, none⟩ = some (.slice oL nL cL) ∧ w'.cell? ⟨w.heap.size, 1, none⟩ = some (.slice (some ⟨b, off, none⟩) nP cP) ∧ w'.cell? ⟨w.heap.size + 1, 0, none⟩ = some (.slice none 0 0) ∧ w'.cell? ⟨w.heap.size + 1, 1, none⟩ = some (.slice none 0 0) ∧ w'.frozen? ⟨w.heap.size + 1, 0, none⟩ = false ∧ w'.frozen? ⟨w.heap.size + 1, 1, none⟩ = false ∧ Hid (Two2 w.heap.size (.slice oL nL cL) (.slice (some ⟨b, off, none⟩) nP cP) w w') ∧ Hid (w'.ownsRow w.heap.size 53 2 u mA A) ∧ Hid (w'.ownsRow w.heap.size 58 2 (.slice o mB c) mB B)) from by
    obtain ⟨⟨u1, e1, e2⟩, hb⟩ := q
    obtain ⟨o, c, rfl, _⟩ := own_shape e2
    have h2 := h.out.below hb
    obtain ⟨g1, g2, g3, g4, g5, g6⟩ := h2.reads
    exact ⟨o, c, e1, g1, g2, g3, g4, g5, g6, h2, own_grown hu.out hb, e2⟩))
  clear HL HP HB0
  go_enter Try.func27, Try.ntmps27
  go_wp2_with fail
  obtain ⟨W, hW⟩ : ∃ W, (w.alloc (Obj.cells #[.slice oL nL cL, .slice (some ⟨b, off, none⟩) nP cP] 56)).alloc (Obj.cells #[.slice none 0 0, .slice none 0 0] 56) = W := ⟨_, rfl⟩
  have h2 : Two2 w.heap.size (.slice oL nL cL) (.slice (some ⟨b, off, none⟩) nP cP) w W := by
    subst hW
    exact Two2.made _ _ _
  rw [hW]
  obtain ⟨r1, r2, r3, r4, r5, r6⟩ := h2.reads
  have H2 := Lib.hid (show Two2 w.heap.size (.slice oL nL cL) (.slice (some ⟨b, off, none⟩) nP cP) w W.drew from ⟨h2.1, h2.2.1, h2.2.2.drew⟩)
  clear h2 hW
  go_region_with (first | (go_at_call 40; refine (HL2.out _ H2).mono ?_; rintro e wq ⟨oA, cA, rfl, s1, s2, s3, s4, s5, s6, s7, s8⟩) | (go_at_call 41; refine (HP2.out _ _ s7 s8).mono ?_; rintro e wq ⟨oB, cB, rfl, s1, s2, s3, s4, s5, s6, s7, s8, s9⟩))
  all_goals
    go_wp2
    refine bodyPost_ret (v := .agg #[.slice oA mA cA, .slice oB mB cB]) (by simp [results, Try.results27, go_sem, s3, s4]) rfl ?_
    have hT := s7.out.2.1
    obtain ⟨W1, hW1⟩ : ∃ W1, wq.setCell ⟨w.heap.size + 1, 0, none⟩ (.slice oA mA cA) = W1 := ⟨_, rfl⟩
    have hT1 := heap_setCell_same wq (w.heap.size + 1) 0 _ 56 (.slice oA mA cA) hT
    refine ⟨⟨_, _, rfl, own_set_other (own_set_other s8.out hT (by decide)) hT1 (by decide), own_set_other (own_set_other s9.out hT (by decide)) hT1 (by decide)⟩, (s7.out.2.2.setCell (by simp) _).setCell (by simp) _⟩
end Go.Proofs.Ytkipdfeoebibgaa.Sto
end
