/- Plain: the first least head, found from the left; what is left of the lists. -/
import Derived.Test.YtlnlbahggbbaeaaGreatHb
namespace Go.Proofs.YtlnlbahggbbaeaaGreat.Mrg
open Go.RowKit Go.Lib Go.Sort Go.Proofs.YtlnlbahggbbaeaaGreat.Stb
variable {α : Type} {lt : α → α → Bool}

def snocP (lt : α → α → Bool) (q : Option (Nat × α)) (n : Nat) (l : List α) : Option (Nat × α) :=
  match l with
  | [] => q
  | y :: _ => match q with
    | none => some (n, y)
    | some p => if lt y p.2 then some (n, y) else some p
theorem pick_snoc (hS : SWO lt) : ∀ (ls : List (List α)) (l : List α), pick lt (ls ++ [l]) = snocP lt (pick lt ls) ls.length l
  | [], [] => rfl
  | [], y :: t => rfl
  | [] :: r, l => by
    rw [List.cons_append, pick, pick_snoc hS r l, pick]
    cases l with
    | nil => rfl
    | cons y t =>
      cases pick lt r with
      | none => rfl
      | some p =>
        simp only [snocP, Option.map]
        by_cases h : lt y p.2 = true
        · simp [h]
        · simp [h]
  | (z :: u) :: r, l => by
    rw [List.cons_append, pick, pick_snoc hS r l, pick]
    cases l with
    | nil => rfl
    | cons y t =>
      cases hp : pick lt r with
      | none => simp only [snocP]; rfl
      | some p =>
        simp only [snocP]
        by_cases h1 : lt y p.2 = true
        · by_cases h2 : lt p.2 z = true
          · have h3 := hS.trans _ _ _ h1 h2
            simp [h1, h2, h3]
          · simp [h1, h2]
        · by_cases h2 : lt p.2 z = true
          · simp [h1, h2]
          · have h3 : lt y z = false := by
              have := leS_trans hS z p.2 y (by unfold leS; simpa using h2) (by unfold leS; simpa using h1)
              unfold leS at this
              simpa using this
            simp [h1, h2, h3]
theorem merge_step (hS : SWO lt) {R : List (List α)} {all : List (Nat × α)} (h : mergeN lt R.flatten.length R = all) :
    (pick lt R = none → all = []) ∧ ∀ p, pick lt R = some p → ∃ t, R[p.1]? = some (p.2 :: t) ∧ all = p :: mergeN lt (R.set p.1 t).flatten.length (R.set p.1 t) := by
  refine ⟨fun hp => ?_, fun p hp => ?_⟩
  · rw [pick_none R hp] at h; exact h.symm
  · obtain ⟨A, t, B, hP⟩ := pick_some hS R p.1 p.2 hp
    have h1 := pick_set hP
    have h2 : (R.getD p.1 []).tail = t := by rw [hP.is, ← hP.at_, getD_mid]; rfl
    rw [h2] at h1
    refine ⟨t, by rw [hP.is, ← hP.at_]; simp, ?_⟩
    have h3 : R.flatten.length = (R.set p.1 t).flatten.length + 1 := by
      rw [h1, hP.is, flat_mid]; simp; omega
    rw [h3, mergeN, hp] at h
    simp only [h2] at h
    exact h.symm
/-- What is left of each list. -/
def rem (ls : List (List α)) (at_ : Nat → Nat) : List (List α) := ls.mapIdx fun i l => l.drop (at_ i)
theorem rem_at {ls : List (List α)} {at_ : Nat → Nat} {i : Nat} {l : List α} (h : ls[i]? = some l) : (rem ls at_)[i]? = some (l.drop (at_ i)) := by
  unfold rem; rw [List.getElem?_mapIdx, h]; rfl
theorem rem_len (ls : List (List α)) (at_ : Nat → Nat) : (rem ls at_).length = ls.length := by unfold rem; simp
theorem rem_zero (ls : List (List α)) : rem ls (fun _ => 0) = ls := by
  apply List.ext_getElem?
  intro i
  unfold rem
  rw [List.getElem?_mapIdx]
  cases ls[i]? <;> rfl
theorem rem_step {ls : List (List α)} {at_ : Nat → Nat} {k : Nat} {x : α} {t : List α} (h : (rem ls at_)[k]? = some (x :: t)) : (rem ls at_).set k t = rem ls (fun i => if i = k then at_ k + 1 else at_ i) := by
  apply List.ext_getElem?
  intro i
  have hk : k < (rem ls at_).length := (List.getElem?_eq_some_iff.1 h).1
  by_cases e : i = k
  · subst e
    rw [List.getElem?_set_self hk]
    unfold rem at h ⊢
    rw [List.getElem?_mapIdx] at h ⊢
    cases hl : ls[i]? with
    | none => rw [hl] at h; cases h
    | some l =>
      rw [hl] at h
      simp only [Option.map_some, Option.some.injEq] at h
      simp only [Option.map_some, if_true, Option.some.injEq]
      rw [← List.drop_drop, h]; rfl
  · rw [List.getElem?_set_ne (fun h => e h.symm)]
    unfold rem
    rw [List.getElem?_mapIdx, List.getElem?_mapIdx]
    simp only [if_neg e]
theorem rem_head {ls : List (List α)} {at_ : Nat → Nat} {i : Nat} {l : List α} (h : ls[i]? = some l) : (at_ i < l.length → ∃ y t, l[at_ i]? = some y ∧ (rem ls at_)[i]? = some (y :: t)) ∧ (l.length ≤ at_ i → (rem ls at_)[i]? = some []) := by
  have h1 := rem_at (at_ := at_) h
  refine ⟨fun h2 => ?_, fun h2 => by rw [h1, List.drop_eq_nil_of_le h2]⟩
  obtain ⟨y, hy⟩ : ∃ y, l[at_ i]? = some y := ⟨_, List.getElem?_eq_getElem h2⟩
  refine ⟨y, l.drop (at_ i + 1), hy, ?_⟩
  rw [h1, List.drop_eq_getElem_cons h2]
  rw [List.getElem?_eq_getElem h2] at hy
  cases hy; rfl
theorem rem_get {ls : List (List α)} {at_ : Nat → Nat} {i : Nat} {x : α} {t : List α} (h : (rem ls at_)[i]? = some (x :: t)) : ∃ l, ls[i]? = some l ∧ l[at_ i]? = some x := by
  unfold rem at h
  rw [List.getElem?_mapIdx] at h
  cases hl : ls[i]? with
  | none => rw [hl] at h; cases h
  | some l =>
    rw [hl] at h
    simp only [Option.map_some, Option.some.injEq] at h
    refine ⟨l, rfl, ?_⟩
    have h2 : (l.drop (at_ i))[0]? = some x := by rw [h]; rfl
    rw [List.getElem?_drop] at h2
    exact h2
theorem pick_get (hS : SWO lt) {R : List (List α)} {p : Nat × α} (h : pick lt R = some p) : p.1 < R.length ∧ ∃ t, R[p.1]? = some (p.2 :: t) := by
  obtain ⟨A, t, B, hP⟩ := pick_some hS R p.1 p.2 h
  exact ⟨by rw [hP.is, ← hP.at_]; simp, t, by rw [hP.is, ← hP.at_]; simp⟩
def kI (q : Option (Nat × α)) : Int := match q with | none => -1 | some p => (p.1 : Nat)
end Go.Proofs.YtlnlbahggbbaeaaGreat.Mrg
