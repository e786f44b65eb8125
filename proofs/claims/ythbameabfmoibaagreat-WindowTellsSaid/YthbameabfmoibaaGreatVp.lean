/- Points of a while, plain: points looked at one by one; the names of the functions. No program in it. -/
import Derived.Test.YthbameabfmoibaaGreatPnr
namespace Go.Proofs.YthbameabfmoibaaGreat.Win

def prevO (l : List Pt) (k : Nat) : Option Int := if k = 0 then none else (l[k-1]?).map fun x => x.1
theorem drop_get {l : List Pt} {k : Nat} {x : Pt} (h : l[k]? = some x) : l.drop k = x :: l.drop (k + 1) := by
  obtain ⟨hk, e⟩ := List.getElem?_eq_some_iff.1 h
  rw [List.drop_eq_getElem_cons hk, e]
theorem rises_bad_time {l : List Pt} {k : Nat} {x : Pt} (h : l[k]? = some x) (ht : ¬ timeP x.1) : risesP (prevO l k) (l.drop k) = false := by
  rw [drop_get h]
  cases prevO l k <;> simp [risesP, ht]
theorem rises_bad_val {l : List Pt} {k : Nat} {x : Pt} (h : l[k]? = some x) (ht : ¬ valP x.2) : risesP (prevO l k) (l.drop k) = false := by
  rw [drop_get h]
  cases prevO l k <;> simp [risesP, ht]
theorem prevO_succ {l : List Pt} {k : Nat} {x : Pt} (h : l[k]? = some x) : prevO l (k + 1) = some x.1 := by
  unfold prevO
  rw [if_neg (by omega), Nat.add_sub_cancel, h]; rfl
theorem rises_bad_step {l : List Pt} {k : Nat} {x y : Pt} (h : l[k + 1]? = some x) (hy : l[k]? = some y) (hs : ¬ y.1 < x.1) : risesP (prevO l (k + 1)) (l.drop (k + 1)) = false := by
  rw [drop_get h, prevO_succ hy]
  simp [risesP, hs]
theorem rises_first {l : List Pt} {x : Pt} (h : l[0]? = some x) (ht : timeP x.1) (hv : valP x.2) : risesP (prevO l (0 + 1)) (l.drop (0 + 1)) = risesP (prevO l 0) (l.drop 0) := by
  rw [drop_get h, prevO_succ h]
  simp [prevO, risesP, ht, hv]
theorem rises_next {l : List Pt} {k : Nat} {x y : Pt} (h : l[k + 1]? = some x) (hy : l[k]? = some y) (ht : timeP x.1) (hv : valP x.2) (hs : y.1 < x.1) : risesP (prevO l (k + 1 + 1)) (l.drop (k + 1 + 1)) = risesP (prevO l (k + 1)) (l.drop (k + 1)) := by
  rw [drop_get h, prevO_succ h, prevO_succ hy]
  simp [risesP, ht, hv, hs]
theorem rises_zero (l : List Pt) : risesP (prevO l 0) (l.drop 0) = risesP none l := rfl
theorem rises_end {l : List Pt} {k : Nat} (h : l.length ≤ k) : risesP (prevO l k) (l.drop k) = true := by
  rw [List.drop_eq_nil_of_le h]; cases prevO l k <;> rfl
theorem points_long {l : List Pt} (h : 25 < l.length) : pointsB l = false := by
  unfold pointsB; rw [decide_eq_false (by omega), Bool.false_and]
theorem points_short {l : List Pt} (h : l.length ≤ 25) : pointsB l = risesP none l := by
  unfold pointsB; rw [decide_eq_true h, Bool.true_and]

/-- The names of the functions, in chapter 5's row. -/
def nmOf : Nat → ByteArray
  | 0 => ⟨#[115, 117, 109, 95, 111, 118, 101, 114]⟩
  | 1 => ⟨#[109, 105, 110, 95, 111, 118, 101, 114]⟩
  | 2 => ⟨#[109, 97, 120, 95, 111, 118, 101, 114]⟩
  | 3 => ⟨#[99, 111, 117, 110, 116, 95, 111, 118, 101, 114]⟩
  | 4 => ⟨#[97, 118, 103, 95, 111, 118, 101, 114]⟩
  | 5 => ⟨#[108, 97, 115, 116, 95, 111, 118, 101, 114]⟩
  | 6 => ⟨#[105, 110, 99, 114, 101, 97, 115, 101]⟩
  | _ => ⟨#[114, 97, 116, 101]⟩
/-- Which function a name is of: its place, or 8. -/
def fnF (s : ByteArray) : Nat :=
  if s = nmOf 0 then 0 else if s = nmOf 1 then 1 else if s = nmOf 2 then 2 else if s = nmOf 3 then 3 else if s = nmOf 4 then 4 else if s = nmOf 5 then 5 else if s = nmOf 6 then 6 else if s = nmOf 7 then 7 else 8
theorem fn_nm : ∀ k, k < 8 → fnF (nmOf k) = k := by decide +kernel
theorem fn_le (s : ByteArray) : fnF s ≤ 8 := by unfold fnF; (repeat' split) <;> omega
/-- A text that is no name. -/
structure NoFn (s : ByteArray) : Prop where
  n0 : ¬ s.toList = [115, 117, 109, 95, 111, 118, 101, 114]
  n1 : ¬ s.toList = [109, 105, 110, 95, 111, 118, 101, 114]
  n2 : ¬ s.toList = [109, 97, 120, 95, 111, 118, 101, 114]
  n3 : ¬ s.toList = [99, 111, 117, 110, 116, 95, 111, 118, 101, 114]
  n4 : ¬ s.toList = [97, 118, 103, 95, 111, 118, 101, 114]
  n5 : ¬ s.toList = [108, 97, 115, 116, 95, 111, 118, 101, 114]
  n6 : ¬ s.toList = [105, 110, 99, 114, 101, 97, 115, 101]
  n7 : ¬ s.toList = [114, 97, 116, 101]
theorem fn_cases (s : ByteArray) : (∃ k, k < 8 ∧ s = nmOf k) ∨ (fnF s = 8 ∧ NoFn s) := by
  by_cases h0 : s = nmOf 0; · exact .inl ⟨0, by omega, h0⟩
  by_cases h1 : s = nmOf 1; · exact .inl ⟨1, by omega, h1⟩
  by_cases h2 : s = nmOf 2; · exact .inl ⟨2, by omega, h2⟩
  by_cases h3 : s = nmOf 3; · exact .inl ⟨3, by omega, h3⟩
  by_cases h4 : s = nmOf 4; · exact .inl ⟨4, by omega, h4⟩
  by_cases h5 : s = nmOf 5; · exact .inl ⟨5, by omega, h5⟩
  by_cases h6 : s = nmOf 6; · exact .inl ⟨6, by omega, h6⟩
  by_cases h7 : s = nmOf 7; · exact .inl ⟨7, by omega, h7⟩
  have key : ∀ (l : List UInt8), ¬ s = ⟨l.toArray⟩ → ¬ s.toList = l := fun l hl e => hl (by
    have e2 : s.data.toList = l := by rw [← e]; exact (ByteArray.toList_eq s).symm
    cases s; congr 1; exact Array.ext' (by simpa using e2))
  exact .inr ⟨by unfold fnF; rw [if_neg h0, if_neg h1, if_neg h2, if_neg h3, if_neg h4, if_neg h5, if_neg h6, if_neg h7], key _ h0, key _ h1, key _ h2, key _ h3, key _ h4, key _ h5, key _ h6, key _ h7⟩
theorem eight_cases {p : Nat → Prop} (h0 : p 0) (h1 : p 1) (h2 : p 2) (h3 : p 3) (h4 : p 4) (h5 : p 5) (h6 : p 6) (h7 : p 7) : ∀ k, k < 8 → p k := by
  intro k hk
  match k, hk with
  | 0, _ => exact h0
  | 1, _ => exact h1
  | 2, _ => exact h2
  | 3, _ => exact h3
  | 4, _ => exact h4
  | 5, _ => exact h5
  | 6, _ => exact h6
  | 7, _ => exact h7
end Go.Proofs.YthbameabfmoibaaGreat.Win
