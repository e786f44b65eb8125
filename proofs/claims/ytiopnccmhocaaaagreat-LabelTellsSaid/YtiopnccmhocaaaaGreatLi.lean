/- Labels: brought into order, plain. -/
import Derived.Test.YtiopnccmhocaaaaGreatLh
namespace Go.Proofs.YtiopnccmhocaaaaGreat
open Go.RowKit Go.Lib Go.Sort

abbrev nm (x : Lab) : List UInt8 := x.1.data.toList
def leN (a b : Lab) : Bool := !decide (nm b < nm a)
def sortL (xs : List Lab) : List Lab := xs.mergeSort leN
def tidyB (xs : List Lab) : Bool := rightB (sortL xs)
theorem leN_trans (a b c : Lab) (h1 : leN a b = true) (h2 : leN b c = true) : leN a c = true := by
  simp only [leN, Bool.not_eq_true', decide_eq_false_iff_not] at *
  intro h
  by_cases e : nm c = nm b
  · rw [e] at h; exact h1 h
  · exact h1 (lt_trans' (lt_of_not h2 e) h)
theorem leN_total (a b : Lab) : (leN a b || leN b a) = true := by
  simp only [leN, Bool.or_eq_true, Bool.not_eq_true', decide_eq_false_iff_not]
  by_cases h : nm b < nm a
  · exact .inr (lt_asymm' h)
  · exact .inl h
theorem sortL_perm (xs : List Lab) : (sortL xs).Perm xs := List.mergeSort_perm _ _
theorem sortL_sorted (xs : List Lab) : (sortL xs).Pairwise (fun a b => leN a b = true) := List.pairwise_mergeSort leN_trans leN_total xs
theorem bytes_ext {a b : ByteArray} (h : a.data.toList = b.data.toList) : a = b := by
  cases a; cases b; congr 1; exact Array.ext' h
theorem rises_some : ∀ (xs : List Lab) (n : ByteArray), risesB (some n) xs = true → (∀ x ∈ xs, n.data.toList < nm x) ∧ xs.Pairwise (fun a b => nm a < nm b) ∧ ∀ x ∈ xs, fitsB x.1 x.2 = true
  | [], n, _ => by simp
  | x :: xs, n, h => by
    simp only [risesB, Bool.and_eq_true, bytesLess_eq, decide_eq_true_eq, ByteArray.toList_eq] at h
    obtain ⟨⟨h1, h2⟩, h3⟩ := h
    obtain ⟨a1, a2, a3⟩ := rises_some xs x.1 h3
    refine ⟨?_, List.pairwise_cons.2 ⟨a1, a2⟩, ?_⟩
    · intro y hy
      rcases List.mem_cons.1 hy with rfl | hy
      · exact h2
      · exact lt_trans' h2 (a1 y hy)
    · intro y hy
      rcases List.mem_cons.1 hy with rfl | hy
      · exact h1
      · exact a3 y hy
theorem rises_none : ∀ (xs : List Lab), risesB none xs = true → xs.Pairwise (fun a b => nm a < nm b) ∧ ∀ x ∈ xs, fitsB x.1 x.2 = true
  | [], _ => by simp
  | x :: xs, h => by
    simp only [risesB, Bool.and_eq_true] at h
    obtain ⟨a1, a2, a3⟩ := rises_some xs x.1 h.2
    refine ⟨List.pairwise_cons.2 ⟨a1, a2⟩, ?_⟩
    intro y hy
    rcases List.mem_cons.1 hy with rfl | hy
    · exact h.1
    · exact a3 y hy
theorem rises_mk : ∀ (xs : List Lab) (n : Option ByteArray), (∀ m, n = some m → ∀ x ∈ xs, m.data.toList < nm x) → xs.Pairwise (fun a b => nm a < nm b) → (∀ x ∈ xs, fitsB x.1 x.2 = true) → risesB n xs = true
  | [], n, _, _, _ => by cases n <;> rfl
  | x :: xs, n, h1, h2, h3 => by
    have h2' := List.pairwise_cons.1 h2
    have ih := rises_mk xs (some x.1) (fun m e y hy => by cases e; exact h2'.1 y hy) h2'.2 (fun y hy => h3 y (List.mem_cons_of_mem _ hy))
    have hf := h3 x List.mem_cons_self
    cases n with
    | none => simp only [risesB, hf, ih, Bool.and_true]
    | some m =>
      have := h1 m rfl x List.mem_cons_self
      simp only [risesB, hf, ih, Bool.and_true, Bool.true_and, bytesLess_eq, decide_eq_true_eq, ByteArray.toList_eq]
      exact this
/-- Just the tidy lists are right. -/
theorem right_iff (xs : List Lab) : rightB xs = true ↔ xs.length ≤ 8 ∧ xs.Pairwise (fun a b => nm a < nm b) ∧ ∀ x ∈ xs, fitsB x.1 x.2 = true := by
  unfold rightB
  rw [Bool.and_eq_true, decide_eq_true_eq]
  exact ⟨fun ⟨h1, h2⟩ => ⟨h1, rises_none xs h2⟩, fun ⟨h1, h2, h3⟩ => ⟨h1, rises_mk xs none (fun m e => by cases e) h2 h3⟩⟩
theorem same_name {xs : List Lab} (h : xs.Pairwise (fun a b => nm a ≠ nm b)) : ∀ a ∈ xs, ∀ b ∈ xs, nm a = nm b → a = b := by
  induction xs with
  | nil => intro a ha; simp at ha
  | cons x xs ih =>
    obtain ⟨h1, h2⟩ := List.pairwise_cons.1 h
    intro a ha b hb e
    rcases List.mem_cons.1 ha with e1 | ha2 <;> rcases List.mem_cons.1 hb with e2 | hb2
    · rw [e1, e2]
    · exact absurd (by rw [← e1]; exact e) (h1 b hb2)
    · exact absurd (by rw [← e2]; exact e.symm) (h1 a ha2)
    · exact ih h2 a ha2 b hb2 e
/-- Lists in order, of the same labels, one of which is right, are the same. -/
theorem sorted_same {s t : List Lab} (hp : s.Perm t) (h1 : s.Pairwise (fun a b => leN a b = true)) (h2 : t.Pairwise (fun a b => leN a b = true)) (hr : rightB s = true) : s = t := by
  obtain ⟨_, hs, _⟩ := (right_iff s).1 hr
  have hd : s.Pairwise (fun a b => nm a ≠ nm b) := hs.imp fun {a b} h e => by rw [e] at h; exact lt_asymm' h h
  refine List.Perm.eq_of_pairwise (le := fun a b => leN a b = true) (fun a b ha hb hab hba => ?_) h1 h2 hp
  refine same_name hd a ha b (hp.mem_iff.2 hb) ?_
  simp only [leN, Bool.not_eq_true', decide_eq_false_iff_not] at hab hba
  exact Classical.byContradiction fun e => hba (lt_of_not hab (fun h => e h.symm))
theorem right_sorted {s : List Lab} (hr : rightB s = true) : s.Pairwise (fun a b => leN a b = true) :=
  ((right_iff s).1 hr).2.1.imp fun {a b} h => by simp only [leN, Bool.not_eq_true', decide_eq_false_iff_not]; exact lt_asymm' h
theorem sorted_right {s xs : List Lab} (hp : s.Perm xs) (h1 : s.Pairwise (fun a b => leN a b = true)) : (rightB s = true → s = sortL xs) ∧ rightB s = tidyB xs := by
  have hps : s.Perm (sortL xs) := hp.trans (sortL_perm xs).symm
  have e1 : rightB s = true → s = sortL xs := sorted_same hps h1 (sortL_sorted xs)
  refine ⟨e1, ?_⟩
  unfold tidyB
  cases hs : rightB s with
  | true => rw [← e1 hs, hs]
  | false =>
    cases ht : rightB (sortL xs) with
    | false => rfl
    | true => have := sorted_same hps.symm (sortL_sorted xs) h1 ht; rw [this, hs] at ht; cases ht
theorem tidy_len {xs : List Lab} (h : 8 < xs.length) : tidyB xs = false := by
  cases ht : tidyB xs with
  | false => rfl
  | true =>
    have h2 := ((right_iff _).1 ht).1
    have h3 := (sortL_perm xs).length_eq
    omega
theorem sorted_of_sortedIn {s : List Lab} (h : SortedIn (ltOf cmpN) 0 s.length s.toArray) : s.Pairwise (fun a b => leN a b = true) := by
  rw [List.pairwise_iff_getElem]
  intro i j hi hj hij
  have := h i j (Nat.zero_le _) hij hj
  rw [getElem!_pos s.toArray i (by simpa using hi), getElem!_pos s.toArray j (by simpa using hj)] at this
  simp only [ltOf, decide_eq_false_iff_not, List.getElem_toArray] at this
  unfold cmpN at this
  rw [(cmpB_spec _ _).1] at this
  simp only [leN, Bool.not_eq_true', decide_eq_false_iff_not]
  exact this
end Go.Proofs.YtiopnccmhocaaaaGreat
