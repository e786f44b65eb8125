/- Files of rows as the code reads them: plain. -/
import Derived.Test.YtldlfmeppcdbbaaEb
import Derived.Test.YtldlfmeppcdbbaaCf
namespace Go.Proofs.Ytldlfmeppcdbbaa.Run
open Go.RowKit Go.Proofs.Ytldlfmeppcdbbaa.Crc Go.Proofs.Ytldlfmeppcdbbaa.Row

theorem num_back {n : Nat} {l : List UInt8} (h : l.length = n) : numB n (valA 0 l) = l := numB_val n l h
theorem take_inv {b s r : List UInt8} (h : takeF b = (0, s, r)) : b = frameL s ++ r ∧ s.length ≤ 12000 := by
  unfold takeF at h
  split at h
  · cases h
  · split at h
    · cases h
    · split at h
      · cases h
      · split at h
        · cases h
        · next h6 hc h10 hg =>
          cases h
          have hlt := valA_lt0 (b.take 2)
          rw [List.length_take, Nat.min_eq_left (by omega)] at hlt
          obtain ⟨n, hn⟩ : ∃ n, valA 0 (b.take 2) = n := ⟨_, rfl⟩
          rw [hn] at h10 hg hlt ⊢
          have hsl : ((b.drop 6).take n).length = n := by rw [List.length_take, List.length_drop]; omega
          have e2 : numB 2 n = b.take 2 := by rw [← hn]; exact num_back (by rw [List.length_take]; omega)
          have e4 : numB 4 (crcN (b.take 2)) = (b.drop 2).take 4 := by
            rw [← Decidable.byContradiction hc]; exact num_back (by rw [List.length_take, List.length_drop]; omega)
          have hc2 : valA 0 ((b.drop (6 + n)).take 4) = crcN ((b.drop 6).take n) := Decidable.byContradiction fun e => hg (.inr e)
          have e5 : numB 4 (crcN ((b.drop 6).take n)) = (b.drop (6 + n)).take 4 := by
            rw [← hc2]; exact num_back (by rw [List.length_take, List.length_drop]; omega)
          refine ⟨?_, by rw [hsl]; omega⟩
          unfold frameL
          rw [hsl, e2, e4, e5]
          simp only [List.append_assoc]
          conv => lhs; rw [← List.take_append_drop 2 b]
          congr 1
          conv => lhs; rw [← List.take_append_drop 4 (b.drop 2), List.drop_drop]
          congr 1
          conv => lhs; rw [← List.take_append_drop n (b.drop (2 + 4)), List.drop_drop]
          congr 1
          conv => lhs; rw [← List.take_append_drop 4 (b.drop (2 + 4 + n)), List.drop_drop]
          rw [show 2 + 4 + n = 6 + n by omega, show 6 + n + 4 = 10 + n by omega]
theorem text_inv {l a r : List UInt8} (h : textP l = some (a, r)) : l = putT a ++ r ∧ a.length < 256 := by
  cases l with
  | nil => cases h
  | cons c u =>
    rw [textP] at h
    split at h
    · cases h
    · next hg =>
      cases h
      have hl : (u.take c.toNat).length = c.toNat := by rw [List.length_take]; omega
      have hc := c.toNat_lt
      refine ⟨?_, by rw [hl]; exact hc⟩
      unfold putT
      rw [hl, show numB 1 c.toNat = [c] by simp [numB], List.append_assoc, List.take_append_drop]; rfl
theorem texts_inv : ∀ (n : Nat) {l r : List UInt8} {ts : List (List UInt8)}, textsP (2 * n) l = some (ts, r) → l = putL (pairUp ts) ++ r ∧ (pairUp ts).length = n
  | 0, l, r, ts, h => by cases h; exact ⟨rfl, rfl⟩
  | n + 1, l, r, ts, h => by
    rw [show 2 * (n + 1) = (2 * n + 1) + 1 by omega, textsP] at h
    split at h
    · cases h
    · next p hp =>
      split at h
      · cases h
      · next q hq =>
        rw [textsP] at hq
        split at hq
        · cases hq
        · next p2 hp2 =>
          split at hq
          · cases hq
          · next q2 hq2 =>
            cases hq
            cases h
            obtain ⟨a, r1⟩ := p
            obtain ⟨b, r2⟩ := p2
            obtain ⟨ts2, r3⟩ := q2
            have i1 := (text_inv hp).1
            have i2 := (text_inv hp2).1
            have ih := texts_inv n hq2
            dsimp only at i1 i2 ih ⊢
            refine ⟨?_, by rw [pairUp, List.length_cons, ih.2]⟩
            rw [i1, i2, ih.1, pairUp, putL]
            simp only [List.append_assoc]
theorem get_inv {b r : List UInt8} {xs : List Lab} {v : Int} (h : getR b = some (xs, v, r)) : b = putR xs v ++ r ∧ rightB xs = true ∧ Fix.rgtB v = true := by
  unfold getR at h
  split at h
  · cases h
  · next c u =>
    split at h
    · cases h
    · next p hp =>
      split at h
      · cases h
      · next h6 =>
        split at h
        · next hr =>
          cases h
          rw [Bool.and_eq_true] at hr
          obtain ⟨ts, t⟩ := p
          obtain ⟨i1, i2⟩ := texts_inv c.toNat hp
          dsimp only at h6 hr ⊢
          refine ⟨?_, hr.1, hr.2⟩
          unfold putR
          rw [i2, show numB 1 c.toNat = [c] by simp [numB], show (((valA 0 (t.take 6) : Nat) : Int) - 1000000000000 + 1000000000000).toNat = valA 0 (t.take 6) by omega, num_back (by rw [List.length_take]; omega), i1]
          simp only [List.append_assoc]
          rw [List.take_append_drop]; rfl
        · cases h

/-! ## A frame, looked at no farther than one may reach -/
theorem take_three {l : List UInt8} (h : (takeF l).1 = 0) : takeF l = (0, (takeF l).2.1, (takeF l).2.2) := Prod.ext h rfl
theorem reach_on {l t r : List UInt8} (h : takeF l = (0, t, r)) : takeF (l.take 12010) = (0, t, r.take (12010 - (t.length + 10))) := by
  obtain ⟨e, ht⟩ := take_inv h
  rw [e, List.take_append, List.take_of_length_le (by rw [frameL_len]; omega), frameL_len]
  exact take_frame _ _ ht
theorem reach_back {l : List UInt8} (h : (takeF (l.take 12010)).1 = 0) : (takeF l).1 = 0 := by
  obtain ⟨e, ht⟩ := take_inv (take_three h)
  have e2 : l = frameL (takeF (l.take 12010)).2.1 ++ ((takeF (l.take 12010)).2.2 ++ l.drop 12010) := by
    rw [← List.append_assoc, ← e, List.take_append_drop]
  rw [e2, take_frame _ _ ht]
theorem reach_not {l : List UInt8} (h : (takeF l).1 ≠ 0) : (takeF (l.take 12010)).1 ≠ 0 := fun e => h (reach_back e)
/-- What is left behind the first frame, reckoned as the code does. -/
theorem reach_rest {l : List UInt8} (h : (takeF l).1 = 0) : (takeF (l.take 12010)).1 = 0 ∧ (takeF (l.take 12010)).2.1 = (takeF l).2.1 ∧ (takeF l).2.2 = l.drop ((l.take 12010).length - (takeF (l.take 12010)).2.2.length) ∧ (takeF (l.take 12010)).2.2.length ≤ (l.take 12010).length := by
  have h1 := reach_on (take_three h)
  obtain ⟨e, ht⟩ := take_inv (take_three h)
  obtain ⟨t, et⟩ : ∃ t, (takeF l).2.1 = t := ⟨_, rfl⟩
  obtain ⟨r, er⟩ : ∃ r, (takeF l).2.2 = r := ⟨_, rfl⟩
  rw [et, er] at e h1
  rw [et] at ht
  have hl : l.length = t.length + 10 + r.length := by rw [e, List.length_append, frameL_len]
  have h2 : (r.take (12010 - (t.length + 10))).length = min (12010 - (t.length + 10)) r.length := List.length_take
  have h3 : (l.take 12010).length = min 12010 l.length := List.length_take
  rw [h1, et, er]
  refine ⟨rfl, rfl, ?_, ?_⟩
  · simp only []
    rw [h2, h3, show min 12010 l.length - min (12010 - (t.length + 10)) r.length = t.length + 10 by omega, e, List.drop_left' (frameL_len t)]
  · simp only []
    rw [h2, h3]; omega

/-! ## Rows that fill a text -/
def rowsG : Nat → List UInt8 → Option (List Rw)
  | 0, b => if b = [] then some [] else none
  | k + 1, b => if b = [] then some [] else
    match getR b with
    | none => none
    | some p => (rowsG k p.2.2).map fun l => (p.1, p.2.1) :: l
theorem putR_ne (xs : List Lab) (v : Int) (r : List UInt8) : putR xs v ++ r ≠ [] := by
  intro e
  have := congrArg List.length e
  unfold putR at this
  simp only [List.length_append, numB_len, List.length_nil] at this
  omega
theorem catR_cons (x : Rw) (xs : List Rw) : catR (x :: xs) = putR x.1 x.2 ++ catR xs := rfl
theorem catR_none {l : List Rw} (h : catR l = []) : l = [] := by
  cases l with
  | nil => rfl
  | cons x l => rw [catR_cons] at h; exact absurd h (putR_ne _ _ _)
theorem rowsG_iff : ∀ (k : Nat) (b : List UInt8) (l : List Rw), rowsG k b = some l ↔ b = catR l ∧ (∀ x ∈ l, okX x = true) ∧ l.length ≤ k
  | 0, b, l => by
    rw [rowsG]
    constructor
    · intro h
      split at h
      · next e => cases h; exact ⟨e, by simp, Nat.le_refl _⟩
      · cases h
    · rintro ⟨h1, _, h3⟩
      have : l = [] := List.eq_nil_of_length_eq_zero (by omega)
      subst this
      rw [if_pos (show b = [] from h1)]
  | k + 1, b, l => by
    rw [rowsG]
    by_cases hb : b = []
    · rw [if_pos hb]
      constructor
      · intro h; cases h; exact ⟨hb, by simp, Nat.zero_le _⟩
      · rintro ⟨h1, _, _⟩
        rw [catR_none (h1.symm.trans hb)]
    · rw [if_neg hb]
      constructor
      · intro h
        split at h
        · cases h
        · next p hp =>
          obtain ⟨xs, v, r⟩ := p
          cases hq : rowsG k r with
          | none => simp only [hq] at h; cases h
          | some l' =>
            simp only [hq, Option.map_some] at h
            cases h
            obtain ⟨i1, i2, i3⟩ := get_inv hp
            obtain ⟨j1, j2, j3⟩ := (rowsG_iff k r l').1 hq
            refine ⟨by rw [catR_cons, i1, j1], fun x hx => ?_, by rw [List.length_cons]; omega⟩
            rcases List.mem_cons.1 hx with rfl | hx
            · unfold okX; rw [i2, i3]; rfl
            · exact j2 x hx
      · rintro ⟨h1, h2, h3⟩
        cases l with
        | nil => exact absurd h1 hb
        | cons x l =>
          obtain ⟨o1, o2⟩ := okX_right (h2 x (List.mem_cons_self ..))
          rw [h1, catR_cons, get_put _ _ _ (right_small o1) o1 o2]
          simp only [(rowsG_iff k (catR l) l).2 ⟨rfl, fun y hy => h2 y (List.mem_cons_of_mem _ hy), by rw [List.length_cons] at h3; omega⟩, Option.map_some]
theorem getN_inv : ∀ (n : Nat) (b : List UInt8) (l : List Rw) (r : List UInt8), getN n b = some (l, r) → b = catR l ++ r ∧ l.length = n ∧ ∀ x ∈ l, okX x = true
  | 0, b, l, r, h => by cases h; exact ⟨rfl, rfl, by simp⟩
  | n + 1, b, l, r, h => by
    rw [getN] at h
    split at h
    · cases h
    · next p hp =>
      split at h
      · cases h
      · next q hq =>
        cases h
        obtain ⟨xs, v, r1⟩ := p
        obtain ⟨l', r2⟩ := q
        obtain ⟨i1, i2, i3⟩ := get_inv hp
        obtain ⟨j1, j2, j3⟩ := getN_inv n r1 l' r2 hq
        refine ⟨by rw [catR_cons, i1, j1, List.append_assoc], by rw [List.length_cons, j2], fun x hx => ?_⟩
        rcases List.mem_cons.1 hx with rfl | hx
        · unfold okX; rw [i2, i3]; rfl
        · exact j3 x hx

/-! ## Blocks -/
inductive Blk
  | bBad
  | bEnd
  | bHead (n : Nat)
  | bRows (l : List Rw)
def blockP (t : List UInt8) : Blk :=
  if t = fin then .bEnd
  else if t.take 3 = lep ∧ t.length = 5 then .bHead (valA 0 (t.drop 3))
  else match rowsG 8 t with
    | some l => .bRows l
    | none => .bBad
def blockQ (l : List UInt8) : Blk × List UInt8 := if (takeF l).1 = 0 then (blockP (takeF l).2.1, (takeF l).2.2) else (.bBad, l)
theorem put_head {x : Rw} (h : okX x = true) (r : List UInt8) : ∃ c u, putR x.1 x.2 ++ r = c :: u ∧ c.toNat ≤ 8 := by
  have h8 := right_len (okX_right h).1
  refine ⟨UInt8.ofNat x.1.length, putL x.1 ++ numB 6 (x.2 + 1000000000000).toNat ++ r, ?_, by rw [u8]; omega⟩
  unfold putR
  rw [show numB 1 x.1.length = [UInt8.ofNat x.1.length] by simp [numB]]
  simp
theorem cat_head {l : List Rw} (h : ∀ x ∈ l, okX x = true) (hl : 1 ≤ l.length) : ∃ c u, catR l = c :: u ∧ c.toNat ≤ 8 := by
  cases l with
  | nil => simp at hl
  | cons x l => rw [catR_cons]; exact put_head (h x (List.mem_cons_self ..)) _
theorem block_rows {l : List Rw} (h : ∀ x ∈ l, okX x = true) (h1 : 1 ≤ l.length) (h8 : l.length ≤ 8) : blockP (catR l) = .bRows l := by
  obtain ⟨c, u, e, hc⟩ := cat_head h h1
  have n1 : catR l ≠ fin := fun e2 => by
    rw [e, fin] at e2
    rw [(List.cons.inj e2).1] at hc
    exact absurd hc (by decide)
  have n2 : ¬ ((catR l).take 3 = lep ∧ (catR l).length = 5) := fun e2 => by
    have e3 := e2.1
    rw [e, lep, List.take_succ_cons] at e3
    rw [(List.cons.inj e3).1] at hc
    exact absurd hc (by decide)
  unfold blockP
  rw [if_neg n1, if_neg n2, (rowsG_iff 8 _ l).2 ⟨rfl, h, h8⟩]
theorem block_rows_inv {t : List UInt8} {l : List Rw} (h : blockP t = .bRows l) : t = catR l ∧ (∀ x ∈ l, okX x = true) ∧ l.length ≤ 8 := by
  unfold blockP at h
  split at h
  · cases h
  · split at h
    · cases h
    · split at h
      · next q hq => cases h; exact (rowsG_iff 8 t l).1 hq
      · cases h
theorem block_head_inv {t : List UInt8} {n : Nat} (h : blockP t = .bHead n) : t.take 3 = lep ∧ t.length = 5 ∧ valA 0 (t.drop 3) = n := by
  unfold blockP at h
  split at h
  · cases h
  · split at h
    · next hc => cases h; exact ⟨hc.1, hc.2, rfl⟩
    · split at h <;> cases h
theorem block_end_inv {t : List UInt8} (h : blockP t = .bEnd) : t = fin := by
  unfold blockP at h
  split at h
  · assumption
  · split at h
    · cases h
    · split at h <;> cases h
theorem block_head {t : List UInt8} (h : t.take 3 = lep) (h2 : t.length = 5) : blockP t = .bHead (valA 0 (t.drop 3)) := by
  unfold blockP
  rw [if_neg (fun e => by rw [e] at h2; exact absurd h2 (by decide)), if_pos ⟨h, h2⟩]
/-- The rows of a text, as many as are asked for: just these. -/
theorem block_getN {t : List UInt8} {k : Nat} {l : List Rw} (h1 : 1 ≤ k) (h8 : k ≤ 8) : getN k t = some (l, []) ↔ blockP t = .bRows l ∧ l.length = k := by
  constructor
  · intro h
    obtain ⟨i1, i2, i3⟩ := getN_inv k t l [] h
    rw [List.append_nil] at i1
    subst i1
    exact ⟨block_rows i3 (by omega) (by omega), i2⟩
  · rintro ⟨h, hl⟩
    obtain ⟨i1, i2, i3⟩ := block_rows_inv h
    have := getN_cat l [] i2
    rw [List.append_nil, ← i1, hl] at this
    exact this

/-! ## The reader -/
def headQ (l : List UInt8) : Option Nat × List UInt8 :=
  match blockQ l with
  | (.bHead n, r) => (if n ≤ 2000 then some n else none, r)
  | (_, r) => (none, r)
def skipM : Nat → List UInt8 → Option (List UInt8)
  | 0, l => some l
  | k + 1, l => if (takeF l).1 = 0 then skipM k (takeF l).2.2 else none
def rowsM : Nat → Nat → List UInt8 → Option (List Rw) × List UInt8
  | 0, _, l => (none, l)
  | f + 1, n, l => if n = 0 then (some [], l) else
    match blockQ l with
    | (.bRows b, r) => if b.length = min 8 n then ((rowsM f (n - b.length) r).1.map fun q => b ++ q, (rowsM f (n - b.length) r).2) else (none, r)
    | (_, r) => (none, r)
def endQ (l : List UInt8) : Bool :=
  match blockQ l with
  | (.bEnd, r) => decide (r = [])
  | _ => false
def readQ (l : List UInt8) : Option (List Rw) :=
  match headQ l with
  | (some n, r) => if 60000 < l.length then none else
    match rowsM (n + 1) n r with
    | (some xs, r2) => if endQ r2 then some xs else none
    | (none, _) => none
  | (none, _) => none
def pageQ (l : List UInt8) (a n : Int) : Nat × List Rw :=
  match headQ l with
  | (some all, r) => if a < 0 ∨ (all : Int) < a ∨ n < 0 then (1, []) else
    if min n (all - a) = 0 then (0, []) else
    match skipM (a.toNat / 8) r with
    | none => (10, [])
    | some r2 =>
      match (rowsM (min all (((a + min n (all - a) - 1).toNat / 8 + 1) * 8) - a.toNat / 8 * 8 + 1) (min all (((a + min n (all - a) - 1).toNat / 8 + 1) * 8) - a.toNat / 8 * 8) r2).1 with
      | none => (10, [])
      | some L => (0, (L.take (a.toNat - a.toNat / 8 * 8 + (min n (all - a)).toNat)).drop (a.toNat - a.toNat / 8 * 8))
  | (none, _) => (10, [])
theorem head_count (l : List UInt8) : countF l = (headQ l).1.map fun n => (n, (headQ l).2) := by
  unfold countF headQ blockQ
  by_cases h : (takeF l).1 = 0
  · rw [if_pos h]
    simp only [h, true_and]
    obtain ⟨t, et⟩ : ∃ t, (takeF l).2.1 = t := ⟨_, rfl⟩
    rw [et]
    by_cases h2 : t.take 3 = lep ∧ t.length = 5
    · rw [block_head h2.1 h2.2]
      simp only [h2.1, h2.2, true_and]
      by_cases h3 : valA 0 (t.drop 3) ≤ 2000
      · rw [if_pos h3, if_pos h3]; rfl
      · rw [if_neg h3, if_neg h3]; rfl
    · rw [if_neg (fun e => h2 ⟨e.2.1, e.1⟩)]
      cases hb : blockP t with
      | bHead n => exact absurd ⟨(block_head_inv hb).1, (block_head_inv hb).2.1⟩ h2
      | _ => rfl
  · rw [if_neg h, if_neg (fun e => h e.1)]; rfl
theorem rowsM_len : ∀ (f n : Nat) (l : List UInt8) (xs : List Rw) (r : List UInt8), rowsM f n l = (some xs, r) → xs.length = n
  | 0, n, l, xs, r, h => by cases h
  | f + 1, n, l, xs, r, h => by
    rw [rowsM] at h
    split at h
    · next e => cases h; exact e.symm
    · split at h
      · next b r1 hb =>
        split at h
        · next hl =>
          have h1 := (Prod.ext_iff.1 h).1
          simp only [] at h1
          cases hq : (rowsM f (n - b.length) r1).1 with
          | none => rw [hq] at h1; cases h1
          | some q =>
            rw [hq] at h1
            cases h1
            rw [List.length_append, rowsM_len f (n - b.length) r1 q _ (Prod.ext hq rfl)]
            omega
        · cases h
      · cases h
theorem blockQ_frame (t r : List UInt8) (h : t.length ≤ 12000) : blockQ (frameL t ++ r) = (blockP t, r) := by
  unfold blockQ
  rw [take_frame t r h]; rfl
theorem blockQ_inv {l r : List UInt8} {b : Blk} (h : blockQ l = (b, r)) (hb : b ≠ .bBad) : ∃ t, l = frameL t ++ r ∧ t.length ≤ 12000 ∧ blockP t = b := by
  unfold blockQ at h
  split at h
  · next h0 =>
    obtain ⟨e, ht⟩ := take_inv (take_three h0)
    cases h
    exact ⟨_, e, ht, rfl⟩
  · exact absurd (Prod.ext_iff.1 h).1.symm hb
/-- Rows that are read are those of the blocks. -/
theorem rowsM_run : ∀ (f : Nat) (xs : List Rw) (r : List UInt8), xs.length < f → (∀ x ∈ xs, okX x = true) → rowsM f xs.length (catF ((blocks xs).map catR) ++ r) = (some xs, r)
  | f + 1, xs, r, hf, hok => by
    rw [rowsM]
    by_cases hne : xs = []
    · subst hne; rfl
    · have hl : 0 < xs.length := List.length_pos_iff.2 hne
      have hb := blocks_ok _ xs (Nat.le_refl _) hok (xs.take 8) (by rw [blocks_cons hne]; exact List.mem_cons_self ..)
      have hok8 : ∀ x ∈ xs.take 8, okX x = true := fun x hx => hok x (List.mem_of_mem_take hx)
      have hokd : ∀ x ∈ xs.drop 8, okX x = true := fun x hx => hok x (List.mem_of_mem_drop hx)
      have htl : (xs.take 8).length = min 8 xs.length := List.length_take
      have hdl : (xs.drop 8).length = xs.length - 8 := List.length_drop
      have e : catF ((blocks xs).map catR) ++ r = frameL (catR (xs.take 8)) ++ (catF ((blocks (xs.drop 8)).map catR) ++ r) := by
        rw [blocks_cons hne, List.map_cons, catF_cons, List.append_assoc]
      rw [if_neg (by omega), e, blockQ_frame _ _ hb, block_rows hok8 (by omega) (by omega)]
      have ih := rowsM_run f (xs.drop 8) r (by rw [hdl]; omega) hokd
      simp only [htl, if_pos]
      rw [show xs.length - min 8 xs.length = (xs.drop 8).length by rw [hdl]; omega, ih]
      simp only [Option.map_some, List.take_append_drop]
theorem rowsM_inv : ∀ (f n : Nat) (l : List UInt8) (xs : List Rw) (r : List UInt8), rowsM f n l = (some xs, r) → l = catF ((blocks xs).map catR) ++ r ∧ ∀ x ∈ xs, okX x = true
  | 0, n, l, xs, r, h => by cases h
  | f + 1, n, l, xs, r, h => by
    have hlen := rowsM_len _ _ _ _ _ h
    rw [rowsM] at h
    split at h
    · next e => cases h; exact ⟨rfl, by simp⟩
    · next hn =>
      split at h
      · next b r1 hb =>
        split at h
        · next hl =>
          obtain ⟨h1, h2⟩ := Prod.ext_iff.1 h
          simp only [] at h1 h2
          cases hq : (rowsM f (n - b.length) r1).1 with
          | none => rw [hq] at h1; cases h1
          | some q =>
            rw [hq] at h1
            cases h1
            dsimp only at hlen ⊢
            obtain ⟨t, e, ht, hbt⟩ := blockQ_inv hb (fun e => by cases e)
            obtain ⟨i1, i2, i3⟩ := block_rows_inv hbt
            obtain ⟨j1, j2⟩ := rowsM_inv f (n - b.length) r1 q r (Prod.ext hq h2)
            have hne : b ++ q ≠ [] := fun e => by rw [e] at hlen; simp at hlen; omega
            have hql := rowsM_len f (n - b.length) r1 q _ (Prod.ext hq h2)
            have htd : (b ++ q).take 8 = b ∧ (b ++ q).drop 8 = q := by
              by_cases h8 : 8 ≤ n
              · have hb8 : b.length = 8 := by omega
                exact ⟨List.take_left' hb8, List.drop_left' hb8⟩
              · have hq0 : q = [] := List.eq_nil_of_length_eq_zero (by omega)
                subst hq0
                rw [List.append_nil]
                exact ⟨List.take_of_length_le i3, List.drop_eq_nil_of_le i3⟩
            refine ⟨?_, fun x hx => ?_⟩
            · rw [blocks_cons hne, htd.1, htd.2, List.map_cons, catF_cons, List.append_assoc, ← j1, ← i1]; exact e
            · rcases List.mem_append.1 hx with hx | hx
              · exact i2 x hx
              · exact j2 x hx
        · cases h
      · cases h
theorem head_run (xs : List Rw) (r : List UInt8) (h : xs.length ≤ 2000) : headQ (frameL (lep ++ numB 2 xs.length) ++ r) = (some xs.length, r) := by
  have hl : (lep ++ numB 2 xs.length).length = 5 := by rw [List.length_append, numB_len]; rfl
  unfold headQ
  rw [blockQ_frame _ _ (by rw [hl]; decide), block_head (List.take_left' rfl) hl]
  have hd : (lep ++ numB 2 xs.length).drop 3 = numB 2 xs.length := List.drop_left' rfl
  simp only [hd, val_num 2 xs.length (by omega), if_pos h]
theorem head_inv {l r : List UInt8} {n : Nat} (h : headQ l = (some n, r)) : l = frameL (lep ++ numB 2 n) ++ r ∧ n ≤ 2000 := by
  unfold headQ at h
  split at h
  · next m r1 hb =>
    obtain ⟨h1, h2⟩ := Prod.ext_iff.1 h
    simp only [] at h1 h2
    split at h1
    · next hm =>
      cases h1
      obtain ⟨t, e, ht, hbt⟩ := blockQ_inv hb (fun e => by cases e)
      obtain ⟨i1, i2, i3⟩ := block_head_inv hbt
      refine ⟨?_, hm⟩
      rw [← i3, num_back (by rw [List.length_drop, i2]), ← i1, List.take_append_drop, ← h2]; exact e
    · cases h1
  · cases h
theorem end_run : endQ (frameL fin) = true := by
  have h := blockQ_frame fin [] (by decide)
  rw [List.append_nil] at h
  unfold endQ
  rw [h]; rfl
theorem end_inv {l : List UInt8} (h : endQ l = true) : l = frameL fin := by
  unfold endQ at h
  split at h
  · next r hb =>
    obtain ⟨t, e, ht, hbt⟩ := blockQ_inv hb (fun e => by cases e)
    rw [e, block_end_inv hbt, of_decide_eq_true h, List.append_nil]
  · cases h
/-- What is read is just what is made of rows. -/
theorem read_iff (l : List UInt8) (xs : List Rw) : readQ l = some xs ↔ l = runF xs ∧ (∀ x ∈ xs, okX x = true) ∧ xs.length ≤ 2000 ∧ l.length ≤ 60000 := by
  constructor
  · intro h
    unfold readQ at h
    split at h
    · next n r hh =>
      obtain ⟨e1, hn⟩ := head_inv hh
      split at h
      · cases h
      · next h60 =>
        split at h
        · next ys r2 hr =>
          split at h
          · next he =>
            cases h
            obtain ⟨e2, hok⟩ := rowsM_inv _ _ _ _ _ hr
            have hl := rowsM_len _ _ _ _ _ hr
            refine ⟨?_, hok, by omega, by omega⟩
            rw [run_parts, hl, ← end_inv he, ← e2]; exact e1
          · cases h
        · cases h
    · cases h
  · rintro ⟨h1, h2, h3, h4⟩
    unfold readQ
    have hd := head_run xs (catF ((blocks xs).map catR) ++ frameL fin) h3
    rw [← run_parts, ← h1] at hd
    rw [hd]
    simp only []
    rw [if_neg (by omega), rowsM_run _ xs _ (by omega) h2]
    simp only [end_run, if_pos]

/-! ## Pages -/
theorem page_skip (all a z : Nat) (hz : a < z) : ∀ (k f i : Nat) (l : List UInt8), i + 8 * k ≤ a → pageL all a z (k + f) i l = match skipM k l with
    | none => none
    | some r => pageL all a z f (i + 8 * k) r
  | 0, f, i, l, _ => by rw [Nat.zero_add]; rfl
  | k + 1, f, i, l, h => by
    rw [show k + 1 + f = (k + f) + 1 by omega, pageL, if_pos ⟨by omega, hz⟩, skipM]
    by_cases h0 : (takeF l).1 = 0
    · rw [if_neg (fun e => e h0), if_pos (by omega), if_pos h0, page_skip all a z hz k f (i + 8) _ (by omega), show i + 8 + 8 * k = i + 8 * (k + 1) by omega]
    · rw [if_pos h0, if_neg h0]
theorem page_rows (all a z B : Nat) (hz : a < z) (hza : z ≤ all) (hB : B = min all (((z - 1) / 8 + 1) * 8)) : ∀ (f g i : Nat) (l : List UInt8), a < i + 8 → i % 8 = 0 → B - i < f → B - i < g →
    pageL all a z f i l = (rowsM g (B - i) l).1.map fun L => (L.take (z - i)).drop (a - i)
  | 0, g, i, l, _, _, hf, _ => by omega
  | f + 1, 0, i, l, _, _, _, hg => by omega
  | f + 1, g + 1, i, l, ha, hi, hf, hg => by
    rw [pageL, rowsM]
    by_cases hc : i < z
    · have hk : min 8 (all - i) = min 8 (B - i) := by omega
      rw [if_pos ⟨hc, hz⟩, if_neg (show ¬ (B - i = 0) by omega)]
      unfold blockQ
      by_cases h0 : (takeF l).1 = 0
      · rw [if_neg (fun e => e h0), if_neg (show ¬ (i + 8 ≤ a) by omega), if_pos h0]
        obtain ⟨t, et⟩ : ∃ t, (takeF l).2.1 = t := ⟨_, rfl⟩
        obtain ⟨r, er⟩ : ∃ r, (takeF l).2.2 = r := ⟨_, rfl⟩
        rw [et, er, hk]
        have k1 : 1 ≤ min 8 (B - i) := by omega
        have k8 : min 8 (B - i) ≤ 8 := by omega
        by_cases hex : ∃ b, getN (min 8 (B - i)) t = some (b, [])
        · obtain ⟨b, hb⟩ := hex
          obtain ⟨hbt, hbl⟩ := (block_getN k1 k8).1 hb
          rw [hb, hbt]
          simp only [ne_eq, not_true_eq_false, if_false, hbl, if_pos]
          rw [page_rows all a z B hz hza hB f g (i + 8) r (by omega) (by omega) (by omega) (by omega), show B - i - min 8 (B - i) = B - (i + 8) by omega]
          cases (rowsM g (B - (i + 8)) r).1 with
          | none => rfl
          | some q =>
            simp only [Option.map_some]
            rw [List.take_append, List.drop_append, List.length_take, hbl, show z - i - min 8 (B - i) = z - (i + 8) by omega, show a - i - min (z - i) (min 8 (B - i)) = 0 by omega, show a - (i + 8) = 0 by omega]
        · have hno : ∀ b, ¬ (blockP t = .bRows b ∧ b.length = min 8 (B - i)) := fun b hb => hex ⟨b, (block_getN k1 k8).2 hb⟩
          have hR : (match (blockP t, r) with
              | (.bRows b, r) => if b.length = min 8 (B - i) then ((rowsM g (B - i - b.length) r).1.map fun q => b ++ q, (rowsM g (B - i - b.length) r).2) else (none, r)
              | (_, r) => (none, r)).1 = none := by
            cases hb : blockP t with
            | bRows b =>
              simp only []
              rw [if_neg (fun e => hno b ⟨hb, e⟩)]
            | _ => rfl
          rw [hR]
          cases hg2 : getN (min 8 (B - i)) t with
          | none => rfl
          | some p =>
            have hp2 : p.2 ≠ [] := fun e => hex ⟨p.1, by rw [hg2, ← e]⟩
            simp only []
            rw [if_pos hp2]; rfl
      · rw [if_pos h0, if_neg h0]; rfl
    · rw [if_neg (fun e => hc e.1), if_pos (by omega)]
      simp
theorem page_is (l : List UInt8) (a n : Int) : pageQ l a n = pageF l a n := by
  unfold pageQ pageF
  rw [head_count]
  obtain ⟨h, r, e⟩ : ∃ h r, headQ l = (h, r) := ⟨_, _, rfl⟩
  rw [e]
  cases h with
  | none => rfl
  | some all =>
    simp only [Option.map_some]
    by_cases hc : a < 0 ∨ (all : Int) < a ∨ n < 0
    · rw [if_pos hc, if_pos hc]
    · rw [if_neg hc, if_neg hc]
      obtain ⟨z, hz⟩ : ∃ z, (if n < (all : Int) - a then (a + n).toNat else all) = z := ⟨_, rfl⟩
      have hz2 : (z : Int) = a + min n (all - a) := by rw [← hz]; split <;> omega
      rw [hz]
      by_cases hm : min n ((all : Int) - a) = 0
      · rw [if_pos hm]
        have : pageL all a.toNat z (all + 1) 0 r = some [] := by rw [pageL, if_neg (by omega)]
        rw [this]
      · rw [if_neg hm]
        obtain ⟨A, rfl⟩ : ∃ A : Nat, a = A := ⟨a.toNat, by omega⟩
        rw [Int.toNat_natCast, show ((A : Int) + min n (all - A) - 1).toNat = z - 1 by omega, show (min n ((all : Int) - A)).toNat = z - A by omega]
        obtain ⟨B, hB⟩ : ∃ B, min all (((z - 1) / 8 + 1) * 8) = B := ⟨_, rfl⟩
        rw [hB]
        have hs := page_skip all A z (by omega) (A / 8) (all + 1 - A / 8) 0 r (by omega)
        rw [show A / 8 + (all + 1 - A / 8) = all + 1 by omega, Nat.zero_add] at hs
        rw [hs]
        cases skipM (A / 8) r with
        | none => rfl
        | some r2 =>
          simp only []
          rw [page_rows all A z B (by omega) (by omega) hB.symm (all + 1 - A / 8) (B - A / 8 * 8 + 1) (8 * (A / 8)) r2 (by omega) (by omega) (by omega) (by omega), show 8 * (A / 8) = A / 8 * 8 by omega]
          cases (rowsM (B - A / 8 * 8 + 1) (B - A / 8 * 8) r2).1 with
          | none => rfl
          | some L =>
            simp only [Option.map_some]
            rw [show A - A / 8 * 8 + (z - A) = z - A / 8 * 8 by omega]

/-! ## Rows that are made a file, block by block -/
theorem blocks_snoc : ∀ (k : Nat) (xs : List Rw), 8 * k < xs.length → blocks (xs.take (8 * (k + 1))) = blocks (xs.take (8 * k)) ++ [(xs.drop (8 * k)).take 8]
  | 0, xs, h => by
    have hne : xs.take 8 ≠ [] := fun e => by
      have := congrArg List.length e
      rw [List.length_take, List.length_nil] at this; omega
    rw [show 8 * (0 + 1) = 8 from rfl, Nat.mul_zero, List.take_zero, List.drop_zero, blocks_cons hne, List.take_take, Nat.min_self, List.drop_eq_nil_of_le (by rw [List.length_take]; omega), blocks_nil]
    rfl
  | k + 1, xs, h => by
    have ih := blocks_snoc k (xs.drop 8) (by rw [List.length_drop]; omega)
    have ne : ∀ j, xs.take (8 * (j + 1)) ≠ [] := fun j e => by
      have := congrArg List.length e
      rw [List.length_take, List.length_nil] at this; omega
    have st : ∀ j, blocks (xs.take (8 * (j + 1))) = xs.take 8 :: blocks ((xs.drop 8).take (8 * j)) := fun j => by
      rw [blocks_cons (ne j), List.take_take, Nat.min_eq_left (by omega), List.drop_take, show 8 * (j + 1) - 8 = 8 * j by omega]
    rw [st (k + 1), st k, ih, List.drop_drop, show 8 + 8 * k = 8 * (k + 1) by omega]
    rfl
theorem catF_len : ∀ (n : Nat) (xs : List Rw), xs.length ≤ n → (∀ x ∈ xs, okX x = true) → (catF ((blocks xs).map catR)).length ≤ 1473 * xs.length
  | n, xs, hn, hok => by
    by_cases hne : xs = []
    · subst hne; exact Nat.zero_le _
    · have hl : 0 < xs.length := List.length_pos_iff.2 hne
      have htl : (xs.take 8).length = min 8 xs.length := List.length_take
      have hdl : (xs.drop 8).length = xs.length - 8 := List.length_drop
      have hc := catR_le (xs.take 8) (fun x hx => hok x (List.mem_of_mem_take hx))
      cases n with
      | zero => omega
      | succ n =>
        have ih := catF_len n (xs.drop 8) (by rw [hdl]; omega) (fun x hx => hok x (List.mem_of_mem_drop hx))
        rw [blocks_cons hne, List.map_cons, catF_cons, List.length_append, frameL_len]
        omega
theorem run_len (xs : List Rw) (hok : ∀ x ∈ xs, okX x = true) : (runF xs).length ≤ 28 + 1473 * xs.length := by
  have h := catF_len _ xs (Nat.le_refl _) hok
  rw [run_parts, List.length_append, List.length_append, frameL_len, frameL_len, List.length_append, numB_len]
  have h1 : lep.length = 3 := rfl
  have h2 : fin.length = 3 := rfl
  omega
end Go.Proofs.Ytldlfmeppcdbbaa.Run
