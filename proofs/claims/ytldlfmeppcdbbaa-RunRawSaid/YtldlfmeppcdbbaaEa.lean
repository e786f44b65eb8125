/- Files of rows: plain. -/
import Derived.Test.YtldlfmeppcdbbaaYa
import Derived.Test.YtldlfmeppcdbbaaCb
namespace Go.Proofs.Ytldlfmeppcdbbaa.Run
open Go.RowKit Go.Proofs.Ytldlfmeppcdbbaa.Crc Go.Proofs.Ytldlfmeppcdbbaa.Row

abbrev Rw := List Lab × Int
def okX (x : Rw) : Bool := rightB x.1 && Fix.rgtB x.2
def catR (xs : List Rw) : List UInt8 := xs.flatMap fun x => putR x.1 x.2
theorem catR_app (xs ys : List Rw) : catR (xs ++ ys) = catR xs ++ catR ys := by unfold catR; rw [List.flatMap_append]
theorem okX_right {x : Rw} (h : okX x = true) : rightB x.1 = true ∧ Fix.rgtB x.2 = true := by
  unfold okX at h; rwa [Bool.and_eq_true] at h
theorem lab_small {xs : List Lab} (h : rightB xs = true) : ∀ x ∈ xs, x.1.data.toList.length ≤ 120 ∧ x.2.data.toList.length ≤ 60 := by
  intro x hx
  have hf := ((right_iff xs).1 h).2.2 x hx
  unfold fitsB at hf
  simp only [Bool.and_eq_true, decide_eq_true_eq] at hf
  have h1 := name_size hf.1
  rw [← Lib.size_eq, ← Lib.size_eq]
  omega
theorem putL_le : ∀ (xs : List Lab), (∀ x ∈ xs, x.1.data.toList.length ≤ 120 ∧ x.2.data.toList.length ≤ 60) → (putL xs).length ≤ 182 * xs.length
  | [], _ => by simp [putL]
  | x :: xs, h => by
    have ih := putL_le xs (fun y hy => h y (List.mem_cons_of_mem _ hy))
    obtain ⟨l1, l2⟩ := h x (List.mem_cons_self ..)
    simp only [putL, putT, List.length_append, numB_len, List.length_cons]
    omega
/-- A row has at most so many bytes. -/
theorem put_le {x : Rw} (h : okX x = true) : (putR x.1 x.2).length ≤ 1463 := by
  have h1 := putL_le x.1 (lab_small (okX_right h).1)
  have h2 := right_len (okX_right h).1
  simp only [putR, List.length_append, numB_len]
  omega
theorem catR_le : ∀ (xs : List Rw), (∀ x ∈ xs, okX x = true) → (catR xs).length ≤ 1463 * xs.length
  | [], _ => Nat.le_refl _
  | x :: xs, h => by
    have ih := catR_le xs (fun y hy => h y (List.mem_cons_of_mem _ hy))
    have hp := put_le (h x (List.mem_cons_self ..))
    rw [show catR (x :: xs) = putR x.1 x.2 ++ catR xs from rfl, List.length_append, List.length_cons]
    omega
/-- Eight by eight. -/
def chunks {α : Type} : Nat → List α → List (List α)
  | 0, _ => []
  | _ + 1, [] => []
  | n + 1, x :: r => (x :: r).take 8 :: chunks n ((x :: r).drop 8)
theorem chunks_enough {α : Type} : ∀ (n m : Nat) (xs : List α), xs.length ≤ n → xs.length ≤ m → chunks n xs = chunks m xs
  | 0, 0, _, _, _ => rfl
  | 0, m + 1, xs, h, _ => by
    have : xs = [] := List.eq_nil_of_length_eq_zero (by omega)
    subst this; rfl
  | n + 1, 0, xs, _, h => by
    have : xs = [] := List.eq_nil_of_length_eq_zero (by omega)
    subst this; rfl
  | n + 1, m + 1, [], _, _ => rfl
  | n + 1, m + 1, x :: r, h1, h2 => by
    rw [chunks, chunks, chunks_enough n m _ (by rw [List.length_drop]; simp at h1 ⊢; omega) (by rw [List.length_drop]; simp at h2 ⊢; omega)]
def blocks (xs : List Rw) : List (List Rw) := chunks xs.length xs
theorem blocks_nil : blocks [] = [] := rfl
theorem blocks_cons {xs : List Rw} (h : xs ≠ []) : blocks xs = xs.take 8 :: blocks (xs.drop 8) := by
  cases xs with
  | nil => exact absurd rfl h
  | cons x r =>
    unfold blocks
    rw [List.length_cons, chunks, chunks_enough r.length ((x :: r).drop 8).length _ (by rw [List.length_drop]; simp) (Nat.le_refl _)]
def lep : List UInt8 := [76, 69, 80]
def fin : List UInt8 := [69, 78, 68]
/-- A file's frames. -/
def framesOf (xs : List Rw) : List (List UInt8) := (lep ++ numB 2 xs.length) :: ((blocks xs).map catR ++ [fin])
def runF (xs : List Rw) : List UInt8 := catF (framesOf xs)
theorem catF_app (A B : List (List UInt8)) : catF (A ++ B) = catF A ++ catF B := by unfold catF; rw [List.flatMap_append]
theorem blocks_ok : ∀ (n : Nat) (xs : List Rw), xs.length ≤ n → (∀ x ∈ xs, okX x = true) → ∀ b ∈ blocks xs, (catR b).length ≤ 12000
  | 0, xs, h, _, b, hb => by
    have : xs = [] := List.eq_nil_of_length_eq_zero (by omega)
    subst this; cases hb
  | n + 1, xs, h, hok, b, hb => by
    by_cases hne : xs = []
    · subst hne; cases hb
    · rw [blocks_cons hne] at hb
      rcases List.mem_cons.1 hb with rfl | hb
      · have h1 := catR_le (xs.take 8) (fun x hx => hok x (List.mem_of_mem_take hx))
        have h2 : (xs.take 8).length ≤ 8 := by rw [List.length_take]; omega
        omega
      · have hl : 0 < xs.length := List.length_pos_iff.2 hne
        exact blocks_ok n (xs.drop 8) (by rw [List.length_drop]; omega) (fun x hx => hok x (List.mem_of_mem_drop hx)) b hb
theorem frames_small (xs : List Rw) (hok : ∀ x ∈ xs, okX x = true) : ∀ s ∈ framesOf xs, s.length ≤ 12000 := by
  intro s hs
  unfold framesOf at hs
  rcases List.mem_cons.1 hs with rfl | hs
  · rw [List.length_append, numB_len]; decide
  · rcases List.mem_append.1 hs with hs | hs
    · obtain ⟨b, hb, rfl⟩ := List.mem_map.1 hs
      exact blocks_ok _ xs (Nat.le_refl _) hok b hb
    · rw [List.mem_singleton.1 hs]; decide
/-- So many rows, one behind the other. -/
def getN : Nat → List UInt8 → Option (List Rw × List UInt8)
  | 0, b => some ([], b)
  | n + 1, b => match getR b with
    | none => none
    | some p => match getN n p.2.2 with
      | none => none
      | some q => some ((p.1, p.2.1) :: q.1, q.2)
theorem getN_cat : ∀ (xs : List Rw) (r : List UInt8), (∀ x ∈ xs, okX x = true) → getN xs.length (catR xs ++ r) = some (xs, r)
  | [], r, _ => rfl
  | x :: xs, r, h => by
    obtain ⟨h1, h2⟩ := okX_right (h x (List.mem_cons_self ..))
    rw [List.length_cons, show catR (x :: xs) = putR x.1 x.2 ++ catR xs from rfl, List.append_assoc, getN, get_put _ _ _ (right_small h1) h1 h2]
    simp only [getN_cat xs r (fun y hy => h y (List.mem_cons_of_mem _ hy))]
/-- How many rows, and what stands behind the first frame. -/
def countF (b : List UInt8) : Option (Nat × List UInt8) :=
  if (takeF b).1 = 0 ∧ (takeF b).2.1.length = 5 ∧ (takeF b).2.1.take 3 = lep ∧ valA 0 ((takeF b).2.1.drop 3) ≤ 2000 then some (valA 0 ((takeF b).2.1.drop 3), (takeF b).2.2) else none
/-- The rows of the blocks from row i on, those from a to z alone. -/
def pageL (rows a z : Nat) : Nat → Nat → List UInt8 → Option (List Rw)
  | 0, _, _ => some []
  | n + 1, i, rest =>
    if i < z ∧ a < z then
      if (takeF rest).1 ≠ 0 then none else
      if i + 8 ≤ a then pageL rows a z n (i + 8) (takeF rest).2.2 else
      match getN (min 8 (rows - i)) (takeF rest).2.1 with
      | none => none
      | some p => if p.2 ≠ [] then none else
        match pageL rows a z n (i + 8) (takeF rest).2.2 with
        | none => none
        | some q => some (((p.1.take (z - i)).drop (a - i)) ++ q)
    else some []
def pageF (b : List UInt8) (a n : Int) : Nat × List Rw :=
  match countF b with
  | none => (10, [])
  | some p => if a < 0 ∨ (p.1 : Int) < a ∨ n < 0 then (1, []) else
    match pageL p.1 a.toNat (if n < p.1 - a then (a + n).toNat else p.1) (p.1 + 1) 0 p.2 with
    | none => (10, [])
    | some l => (0, l)
theorem count_run (xs : List Rw) (r : List UInt8) (h : xs.length ≤ 2000) : countF (frameL (lep ++ numB 2 xs.length) ++ r) = some (xs.length, r) := by
  have hl : (lep ++ numB 2 xs.length).length ≤ 12000 := by rw [List.length_append, numB_len]; decide
  unfold countF
  rw [take_frame _ _ hl]
  have h3 : (lep ++ numB 2 xs.length).take 3 = lep := List.take_left' rfl
  have hd : (lep ++ numB 2 xs.length).drop 3 = numB 2 xs.length := List.drop_left' rfl
  have hv : valA 0 (numB 2 xs.length) = xs.length := val_num _ _ (by omega)
  simp only [h3, hd, hv]
  rw [if_pos ⟨trivial, by rw [List.length_append, numB_len]; rfl, trivial, h⟩]
/-- Pages of a file are its rows. -/
theorem page_run (a z : Nat) : ∀ (n i : Nat) (xs : List Rw) (r : List UInt8), xs.length < n → (∀ x ∈ xs, okX x = true) → z ≤ i + xs.length →
    pageL (i + xs.length) a z n i (catF ((blocks xs).map catR) ++ r) = some ((xs.take (z - i)).drop (a - i))
  | n + 1, i, xs, r, hn, hok, hz => by
    rw [pageL]
    by_cases hc : i < z ∧ a < z
    · have hne : xs ≠ [] := fun e => by subst e; simp at hz; omega
      have hl : 0 < xs.length := List.length_pos_iff.2 hne
      have hb := blocks_ok _ xs (Nat.le_refl _) hok (xs.take 8) (by rw [blocks_cons hne]; exact List.mem_cons_self ..)
      have hok8 : ∀ x ∈ xs.take 8, okX x = true := fun x hx => hok x (List.mem_of_mem_take hx)
      have hokd : ∀ x ∈ xs.drop 8, okX x = true := fun x hx => hok x (List.mem_of_mem_drop hx)
      have e : catF ((blocks xs).map catR) ++ r = frameL (catR (xs.take 8)) ++ (catF ((blocks (xs.drop 8)).map catR) ++ r) := by
        rw [blocks_cons hne, List.map_cons, catF_cons, List.append_assoc]
      rw [if_pos hc, e, take_frame _ _ hb]
      simp only [ne_eq, not_true_eq_false, if_false]
      have hdl : (xs.drop 8).length = xs.length - 8 := List.length_drop
      have htl : (xs.take 8).length = min 8 xs.length := List.length_take
      have hg : getN (min 8 (i + xs.length - i)) (catR (xs.take 8)) = some (xs.take 8, []) := by
        have := getN_cat (xs.take 8) [] hok8
        rw [htl, List.append_nil] at this
        rw [Nat.add_sub_cancel_left]; exact this
      by_cases h8 : xs.length ≤ 8
      · have hd0 : xs.drop 8 = [] := List.drop_eq_nil_of_le h8
        have ht8 : xs.take 8 = xs := List.take_of_length_le h8
        have hrest : ∀ rr, pageL (i + xs.length) a z n (i + 8) rr = some [] := fun rr => by
          cases n with
          | zero => rfl
          | succ n => rw [pageL, if_neg (by omega)]
        by_cases ha : i + 8 ≤ a
        · exact absurd hc.2 (by omega)
        · rw [if_neg ha, hg]
          simp only [not_true_eq_false, if_false, hrest, ht8, List.append_nil]
      · have ih := page_run a z n (i + 8) (xs.drop 8) r (by rw [hdl]; omega) hokd (by rw [hdl]; omega)
        rw [hdl, show i + 8 + (xs.length - 8) = i + xs.length by omega] at ih
        have hsp : (xs.take (z - i)).drop (a - i) = (((xs.take 8).take (z - i)).drop (a - i)) ++ (((xs.drop 8).take (z - (i + 8))).drop (a - (i + 8))) := by
          have h1 : xs.take (z - i) = (xs.take 8).take (z - i) ++ (xs.drop 8).take (z - (i + 8)) := by
            conv => lhs; rw [← List.take_append_drop 8 xs]
            rw [List.take_append, htl, show z - i - min 8 xs.length = z - (i + 8) by omega]
          rw [h1, List.drop_append, List.length_take, htl]
          by_cases hz8 : z ≤ i + 8
          · rw [show z - (i + 8) = 0 by omega, List.take_zero, List.drop_nil, List.drop_nil]
          · rw [show a - i - min (z - i) (min 8 xs.length) = a - (i + 8) by omega]
        by_cases ha : i + 8 ≤ a
        · rw [if_pos ha, ih, hsp]
          have : ((xs.take 8).take (z - i)).drop (a - i) = [] := List.drop_eq_nil_of_le (by rw [List.length_take, htl]; omega)
          rw [this, List.nil_append]
        · rw [if_neg ha, hg]
          simp only [not_true_eq_false, if_false, ih, hsp]
    · rw [if_neg hc]
      congr 1
      symm
      apply List.drop_eq_nil_of_le
      rw [List.length_take]; omega
end Go.Proofs.Ytldlfmeppcdbbaa.Run
