/- Rows as bytes: plain. -/
import Derived.Test.YtldlfmeppcdbbaaGe
import Derived.Test.YtldlfmeppcdbbaaCa
namespace Go.Proofs.Ytldlfmeppcdbbaa.Row
open Go.RowKit Go.Proofs.Ytldlfmeppcdbbaa.Crc

/-- A text behind the byte that says how long it is. -/
def putT (x : List UInt8) : List UInt8 := numB 1 x.length ++ x
def putL : List Lab → List UInt8
  | [] => []
  | x :: xs => putT x.1.data.toList ++ (putT x.2.data.toList ++ putL xs)
def putR (xs : List Lab) (v : Int) : List UInt8 := numB 1 xs.length ++ (putL xs ++ numB 6 (v + 1000000000000).toNat)

/-- One text read. -/
def textP : List UInt8 → Option (List UInt8 × List UInt8)
  | [] => none
  | c :: r => if r.length < c.toNat then none else some (r.take c.toNat, r.drop c.toNat)
def textsP : Nat → List UInt8 → Option (List (List UInt8) × List UInt8)
  | 0, l => some ([], l)
  | n + 1, l => match textP l with
    | none => none
    | some p => match textsP n p.2 with
      | none => none
      | some q => some (p.1 :: q.1, q.2)
/-- Texts in turn names and values. -/
def pairUp : List (List UInt8) → List Lab
  | [] => []
  | [a] => [(⟨a.toArray⟩, ⟨#[]⟩)]
  | a :: b :: r => (⟨a.toArray⟩, ⟨b.toArray⟩) :: pairUp r
/-- The row of bytes, and what stands behind it. -/
def getR (b : List UInt8) : Option (List Lab × Int × List UInt8) :=
  match b with
  | [] => none
  | c :: r => match textsP (2 * c.toNat) r with
    | none => none
    | some p => if p.2.length < 6 then none else
      if rightB (pairUp p.1) && Fix.rgtB ((valA 0 (p.2.take 6) : Nat) - 1000000000000) then some (pairUp p.1, (valA 0 (p.2.take 6) : Nat) - 1000000000000, p.2.drop 6) else none

theorem textsP_snoc : ∀ (n : Nat) (l : List UInt8), textsP (n + 1) l = match textsP n l with
    | none => none
    | some q => match textP q.2 with
      | none => none
      | some p => some (q.1 ++ [p.1], p.2)
  | 0, l => by
    simp only [textsP]
    cases textP l <;> rfl
  | n + 1, l => by
    rw [show textsP (n + 1 + 1) l = (match textP l with
      | none => none
      | some p => match textsP (n + 1) p.2 with
        | none => none
        | some q => some (p.1 :: q.1, q.2)) from rfl, show textsP (n + 1) l = (match textP l with
      | none => none
      | some p => match textsP n p.2 with
        | none => none
        | some q => some (p.1 :: q.1, q.2)) from rfl]
    cases h : textP l with
    | none => rfl
    | some p =>
      simp only []
      rw [textsP_snoc n p.2]
      cases h2 : textsP n p.2 with
      | none => rfl
      | some q =>
        simp only []
        cases h3 : textP q.2 with
        | none => rfl
        | some u => rfl
theorem textsP_len : ∀ (n : Nat) (l : List UInt8) (p : List (List UInt8) × List UInt8), textsP n l = some p → p.1.length = n
  | 0, l, p, h => by cases h; rfl
  | n + 1, l, p, h => by
    rw [textsP] at h
    cases h1 : textP l with
    | none => rw [h1] at h; cases h
    | some u =>
      rw [h1] at h
      cases h2 : textsP n u.2 with
      | none => simp only [h2] at h; cases h
      | some q =>
        simp only [h2] at h
        cases h
        rw [List.length_cons, textsP_len n _ _ h2]
theorem textsP_mono {n : Nat} {l : List UInt8} (h : textsP n l = none) : ∀ k, textsP (n + k) l = none
  | 0 => h
  | k + 1 => by
    rw [show n + (k + 1) = (n + k) + 1 from rfl, textsP_snoc, textsP_mono h k]
theorem pairUp_snoc : ∀ (ts : List (List UInt8)) (k : Nat) (a b : List UInt8), ts.length = 2 * k → pairUp (ts ++ [a, b]) = pairUp ts ++ [(⟨a.toArray⟩, ⟨b.toArray⟩)]
  | [], _, a, b, _ => rfl
  | [x], k, a, b, h => by simp at h; omega
  | x :: y :: r, k, a, b, h => by
    rw [show (x :: y :: r) ++ [a, b] = x :: y :: (r ++ [a, b]) from rfl, pairUp, pairUp_snoc r (k - 1) a b (by simp at h; omega), pairUp]
    rfl
theorem pairUp_half : ∀ (ts : List (List UInt8)) (k : Nat) (a : List UInt8), ts.length = 2 * k → pairUp (ts ++ [a]) = pairUp ts ++ [(⟨a.toArray⟩, ⟨#[]⟩)]
  | [], _, a, _ => rfl
  | [x], k, a, h => by simp at h; omega
  | x :: y :: r, k, a, h => by
    rw [show (x :: y :: r) ++ [a] = x :: y :: (r ++ [a]) from rfl, pairUp, pairUp_half r (k - 1) a (by simp at h; omega), pairUp]
    rfl
theorem pairUp_len : ∀ (ts : List (List UInt8)) (k : Nat), ts.length = 2 * k → (pairUp ts).length = k
  | [], k, h => by simp at h; simp [pairUp]; omega
  | [x], k, h => by simp at h; omega
  | x :: y :: r, k, h => by
    rw [pairUp, List.length_cons, pairUp_len r (k - 1) (by simp at h; omega)]
    simp at h; omega

/-- What the code's reader does: the bytes that are left, and whether there were too few once. -/
def takeP (n : Nat) (s : List UInt8 × Bool) : List UInt8 × (List UInt8 × Bool) :=
  if s.1.length < n then ([], (s.1, true)) else (s.1.take n, (s.1.drop n, s.2))
def numP (n : Nat) (s : List UInt8 × Bool) : Nat × (List UInt8 × Bool) := (valA 0 (takeP n s).1, (takeP n s).2)
def txtP (s : List UInt8 × Bool) : List UInt8 × (List UInt8 × Bool) := takeP (numP 1 s).1 (numP 1 s).2
def labsP : Nat → List UInt8 × Bool → List Lab × (List UInt8 × Bool)
  | 0, s => ([], s)
  | n + 1, s => ((labsP n s).1 ++ [(⟨(txtP (labsP n s).2).1.toArray⟩, ⟨(txtP (txtP (labsP n s).2).2).1.toArray⟩)], (txtP (txtP (labsP n s).2).2).2)
theorem takeP_short {n : Nat} {s : List UInt8 × Bool} (h : s.2 = true) : (takeP n s).2.2 = true := by
  unfold takeP; split <;> simp [h]
theorem txtP_short {s : List UInt8 × Bool} (h : s.2 = true) : (txtP s).2.2 = true := takeP_short (takeP_short h)
theorem labsP_short : ∀ (n : Nat) {s : List UInt8 × Bool}, s.2 = true → (labsP n s).2.2 = true
  | 0, _, h => h
  | n + 1, _, h => txtP_short (txtP_short (labsP_short n h))
theorem txtP_is (l : List UInt8) : (match textP l with
    | none => (txtP (l, false)).2.2 = true
    | some p => txtP (l, false) = (p.1, (p.2, false))) := by
  cases l with
  | nil => rfl
  | cons c r =>
    have h1 : numP 1 (c :: r, false) = (c.toNat, (r, false)) := by
      simp [numP, takeP, valA]
    unfold txtP textP
    rw [h1]
    unfold takeP
    by_cases hc : r.length < c.toNat
    · simp only [if_pos hc]
    · simp only [if_neg hc]
theorem labsP_is : ∀ (n : Nat) (l : List UInt8), match textsP (2 * n) l with
    | none => (labsP n (l, false)).2.2 = true
    | some p => labsP n (l, false) = (pairUp p.1, (p.2, false))
  | 0, l => rfl
  | n + 1, l => by
    have ih := labsP_is n l
    rw [show 2 * (n + 1) = (2 * n + 1) + 1 by omega, textsP_snoc, textsP_snoc]
    cases h : textsP (2 * n) l with
    | none =>
      rw [h] at ih
      exact txtP_short (txtP_short ih)
    | some q =>
      rw [h] at ih
      have h1 := txtP_is q.2
      simp only [labsP, ih]
      cases h2 : textP q.2 with
      | none =>
        rw [h2] at h1
        exact txtP_short h1
      | some p =>
        rw [h2] at h1
        simp only [h1]
        have h3 := txtP_is p.2
        cases h4 : textP p.2 with
        | none =>
          rw [h4] at h3
          exact h3
        | some u =>
          rw [h4] at h3
          simp only [h3]
          rw [List.append_assoc, List.cons_append, List.nil_append, pairUp_snoc _ n _ _ (textsP_len _ _ _ h)]
/-- What the code reads is the row, or too few bytes, or no right one. -/
theorem code_get (b : List UInt8) : getR b = (let s1 := numP 1 (b, false); let s2 := labsP s1.1 s1.2; let s3 := numP 6 s2.2
    if s3.2.2 = false ∧ rightB s2.1 = true ∧ Fix.rgtB ((s3.1 : Int) - 1000000000000) = true then some (s2.1, (s3.1 : Int) - 1000000000000, s3.2.1) else none) := by
  cases b with
  | nil =>
    have h1 : numP 1 ([], false) = (0, ([], true)) := rfl
    simp only [h1, labsP, getR]
    rw [if_neg]
    intro h
    have := takeP_short (n := 6) (s := ([], true)) rfl
    simp only [numP] at h
    rw [this] at h; cases h.1
  | cons c r =>
    have h1 : numP 1 (c :: r, false) = (c.toNat, (r, false)) := by simp [numP, takeP, valA]
    simp only [h1, getR]
    have h2 := labsP_is c.toNat r
    cases h : textsP (2 * c.toNat) r with
    | none =>
      rw [h] at h2
      simp only []
      rw [if_neg]
      intro h3
      have := takeP_short (n := 6) h2
      simp only [numP] at h3
      rw [this] at h3; cases h3.1
    | some p =>
      rw [h] at h2
      simp only [h2, numP, takeP]
      by_cases h6 : p.2.length < 6
      · rw [if_pos h6, if_pos h6]
        rw [if_neg (by rintro ⟨h, _⟩; cases h)]
      · rw [if_neg h6, if_neg h6]
        by_cases hr : (rightB (pairUp p.1) && Fix.rgtB ((valA 0 (p.2.take 6) : Nat) - 1000000000000)) = true
        · rw [if_pos hr]
          rw [Bool.and_eq_true] at hr
          rw [if_pos ⟨rfl, hr.1, hr.2⟩]
        · rw [if_neg hr]
          rw [Bool.and_eq_true] at hr
          rw [if_neg (fun h => hr ⟨h.2.1, h.2.2⟩)]

/-- A text put is read. -/
theorem text_put (x r : List UInt8) (h : x.length < 256) : textP (putT x ++ r) = some (x, r) := by
  have h1 : numB 1 x.length = [UInt8.ofNat x.length] := by simp [numB]
  have h2 : (UInt8.ofNat x.length).toNat = x.length := by rw [u8]; omega
  unfold putT
  rw [h1]
  show (if (x ++ r).length < (UInt8.ofNat x.length).toNat then none else some ((x ++ r).take (UInt8.ofNat x.length).toNat, (x ++ r).drop (UInt8.ofNat x.length).toNat)) = _
  rw [h2, if_neg (by rw [List.length_append]; omega), List.take_left', List.drop_left'] <;> rfl
def SmallL (xs : List Lab) : Prop := ∀ x ∈ xs, x.1.data.toList.length < 256 ∧ x.2.data.toList.length < 256
theorem str_of (s : ByteArray) : (⟨s.data.toList.toArray⟩ : ByteArray) = s := by cases s; simp
theorem texts_put : ∀ (xs : List Lab) (r : List UInt8), SmallL xs → ∃ ts, textsP (2 * xs.length) (putL xs ++ r) = some (ts, r) ∧ pairUp ts = xs
  | [], r, _ => ⟨[], rfl, rfl⟩
  | x :: xs, r, h => by
    obtain ⟨ts, h1, h2⟩ := texts_put xs r (fun y hy => h y (List.mem_cons_of_mem _ hy))
    obtain ⟨l1, l2⟩ := h x (List.mem_cons_self ..)
    refine ⟨x.1.data.toList :: x.2.data.toList :: ts, ?_, ?_⟩
    · rw [List.length_cons, show 2 * (xs.length + 1) = (2 * xs.length + 1) + 1 by omega, textsP, putL, List.append_assoc, text_put _ _ l1]
      simp only []
      rw [textsP, List.append_assoc, text_put _ _ l2]
      simp only [h1]
    · rw [pairUp, h2, str_of, str_of]
theorem get_put (xs : List Lab) (v : Int) (r : List UInt8) (hs : SmallL xs) (h : rightB xs = true) (hv : Fix.rgtB v = true) : getR (putR xs v ++ r) = some (xs, v, r) := by
  have hl : xs.length ≤ 8 := ((right_iff xs).1 h).1
  have h1 : numB 1 xs.length = [UInt8.ofNat xs.length] := by simp [numB]
  have h2 : (UInt8.ofNat xs.length).toNat = xs.length := by rw [u8]; omega
  have hv2 : -1000000000000 ≤ v ∧ v ≤ 1000000000000 := by unfold Fix.rgtB at hv; exact of_decide_eq_true hv
  obtain ⟨ts, h3, h4⟩ := texts_put xs (numB 6 (v + 1000000000000).toNat ++ r) hs
  unfold putR
  rw [h1, List.append_assoc, List.append_assoc]
  show getR (UInt8.ofNat xs.length :: (putL xs ++ (numB 6 (v + 1000000000000).toNat ++ r))) = _
  unfold getR
  simp only [h2, h3]
  have hn : (numB 6 (v + 1000000000000).toNat ++ r).length = 6 + r.length := by rw [List.length_append, numB_len]
  have ht : (numB 6 (v + 1000000000000).toNat ++ r).take 6 = numB 6 (v + 1000000000000).toNat := List.take_left' (numB_len _ _)
  have hd : (numB 6 (v + 1000000000000).toNat ++ r).drop 6 = r := List.drop_left' (numB_len _ _)
  have hx : ((valA 0 (numB 6 (v + 1000000000000).toNat) : Nat) : Int) - 1000000000000 = v := by
    rw [val_num _ _ (by omega)]; omega
  rw [if_neg (by omega), ht, hd, hx, h4, h, hv]
  rfl
theorem nameGo_len : ∀ (l : List Int) (n : Nat), nameGo n l = true → n ≤ 30 → l.length ≤ 30 - n
  | [], _, _, _ => by simp
  | r :: rs, n, h, hn => by
    unfold nameGo at h
    split at h
    · cases h
    · next h2 =>
      have h30 : n ≠ 30 := fun e => h2 (.inl e)
      have := nameGo_len rs (n + 1) h (by omega)
      rw [List.length_cons]; omega
theorem decode_four (s : ByteArray) (i : Nat) : (Utf8.decode s i).2 ≤ 4 := by
  unfold Utf8.decode
  dsimp only
  repeat' split
  all_goals simp
theorem spell_size (s : ByteArray) : ∀ (n pos : Nat), s.size - pos ≤ n → s.size - pos ≤ 4 * (spell (s.data.toList.drop pos)).length
  | 0, pos, h => by omega
  | n + 1, pos, h => by
    by_cases hp : pos < s.size
    · have h1 := width1 s pos
      have h4 := decode_four s pos
      have ih := spell_size s n (pos + (Utf8.decode s pos).2) (by omega)
      rw [spell_at hp, List.length_cons]
      omega
    · omega
theorem name_size {s : ByteArray} (h : nameB s.data.toList = true) : s.size ≤ 120 := by
  have h1 := nameGo_len _ 0 h (by decide)
  have h2 := spell_size s s.size 0 (by omega)
  rw [List.drop_zero] at h2
  omega
theorem right_small {xs : List Lab} (h : rightB xs = true) : SmallL xs := by
  intro x hx
  have hf := ((right_iff xs).1 h).2.2 x hx
  unfold fitsB at hf
  simp only [Bool.and_eq_true, decide_eq_true_eq] at hf
  have h1 := name_size hf.1
  rw [← Lib.size_eq, ← Lib.size_eq]
  omega
theorem right_len {xs : List Lab} (h : rightB xs = true) : xs.length ≤ 8 := ((right_iff xs).1 h).1
/-- Rows that may be have the same bytes just if they are the same, and none begins another. -/
theorem put_app {xs ys : List Lab} {v u : Int} {r : List UInt8} (hx : rightB xs = true) (hy : rightB ys = true) (hv : Fix.rgtB v = true) (hu : Fix.rgtB u = true) (h : putR xs v ++ r = putR ys u) : xs = ys ∧ v = u ∧ r = [] := by
  have h1 := get_put xs v r (right_small hx) hx hv
  have h2 := get_put ys u [] (right_small hy) hy hu
  rw [List.append_nil, ← h, h1] at h2
  injection h2 with h2
  injection h2 with h3 h4
  injection h4 with h5 h6
  exact ⟨h3, h5, h6⟩
theorem putL_len : ∀ (xs : List Lab), SmallL xs → (putL xs).length ≤ 512 * xs.length
  | [], _ => by simp [putL]
  | x :: xs, h => by
    have ih := putL_len xs (fun y hy => h y (List.mem_cons_of_mem _ hy))
    obtain ⟨l1, l2⟩ := h x (List.mem_cons_self ..)
    simp only [putL, putT, List.length_append, numB_len, List.length_cons]
    omega
theorem putR_len {xs : List Lab} {v : Int} (h : rightB xs = true) : (putR xs v).length ≤ 4103 := by
  have h1 := putL_len xs (right_small h)
  have h2 := right_len h
  simp only [putR, List.length_append, numB_len]
  omega
end Go.Proofs.Ytldlfmeppcdbbaa.Row
