/- Files of rows of which a bit is turned; two files: plain. -/
import Derived.Test.YtldlfmeppcdbbaaEa
namespace Go.Proofs.Ytldlfmeppcdbbaa.Run
open Go.RowKit Go.Proofs.Ytldlfmeppcdbbaa.Crc Go.Proofs.Ytldlfmeppcdbbaa.Row

theorem run_parts (xs : List Rw) : runF xs = frameL (lep ++ numB 2 xs.length) ++ (catF ((blocks xs).map catR) ++ frameL fin) := by
  unfold runF framesOf
  rw [catF_cons, catF_app]
  congr 1
/-- Each page of a file. -/
theorem page_all (xs : List Rw) (hok : ∀ x ∈ xs, okX x = true) (hl : xs.length ≤ 2000) (a n : Int) (ha : 0 ≤ a) (hal : a ≤ xs.length) (hn : 0 ≤ n) : pageF (runF xs) a n = (0, (xs.drop a.toNat).take n.toNat) := by
  unfold pageF
  rw [run_parts, count_run xs _ hl]
  simp only []
  rw [if_neg (by omega)]
  obtain ⟨z, hz⟩ : ∃ z, (if n < (xs.length : Int) - a then (a + n).toNat else xs.length) = z := ⟨_, rfl⟩
  have hzl : z ≤ xs.length := by rw [← hz]; split <;> omega
  have h := page_run a.toNat z (xs.length + 1) 0 xs (frameL fin) (by omega) hok (by omega)
  rw [Nat.zero_add] at h
  rw [hz, h]
  simp only [Nat.sub_zero]
  have : (xs.take z).drop a.toNat = (xs.drop a.toNat).take n.toNat := by
    rw [List.drop_take]
    by_cases h2 : n < (xs.length : Int) - a
    · rw [if_pos h2] at hz
      rw [show z - a.toNat = n.toNat by omega]
    · rw [if_neg h2] at hz
      rw [List.take_of_length_le (by rw [List.length_drop]; omega), List.take_of_length_le (by rw [List.length_drop]; omega)]
  rw [this]
/-- Two files have the same bytes just if they have the same rows. -/
theorem run_inj {xs ys : List Rw} (hx : ∀ x ∈ xs, okX x = true) (hy : ∀ x ∈ ys, okX x = true) (hxl : xs.length ≤ 2000) (hyl : ys.length ≤ 2000) (h : runF xs = runF ys) : xs = ys := by
  have h1 := page_all xs hx hxl 0 2000 (by omega) (by omega) (by omega)
  have h2 := page_all ys hy hyl 0 2000 (by omega) (by omega) (by omega)
  rw [h, h2] at h1
  have h3 := (Prod.ext_iff.1 h1).2
  simp only [Int.toNat_zero, List.drop_zero] at h3
  rw [List.take_of_length_le (by simpa using hyl), List.take_of_length_le (by simpa using hxl)] at h3
  exact h3.symm
theorem catF_nil_len {A : List (List UInt8)} {s : List UInt8} : 0 < (catF (s :: A)).length := by
  rw [catF_cons, List.length_append, frameL_len]; omega
/-- One bit turned in a frame. -/
theorem turn_frame (s r : List UInt8) (p q : Nat) (c : UInt8) (hs : s.length ≤ 12000) (hq : q < 8) (hc : (frameL s)[p]? = some c) : (takeF ((frameL s).set p (flipB c q) ++ r)).1 ≠ 0 := by
  have hp : p < (frameL s).length := (List.getElem?_eq_some_iff.1 hc).1
  have hfl := frameL_len s
  have hbl := bitsB_len (frameL s)
  refine take_burst s _ r ((List.replicate (8 * (s.length + 10)) false).set (8 * p + q) true) (8 * p + q) hs (by rw [List.length_set, hfl]) (by rw [List.length_set, List.length_replicate]) ?_ (fun j hj h => ?_) ?_
  · rw [bits_flip _ p q c hc hq]
    have hz := xorL_zeros (bitsB (frameL s))
    rw [hbl, hfl] at hz
    conv => lhs; rw [← hz]
    exact xorL_set _ _ _ (by rw [hbl, hfl, List.length_replicate]) (by rw [List.getElem?_replicate, if_pos (by omega)])
  · rw [List.getElem_set] at h
    by_cases hjk : 8 * p + q = j
    · omega
    · rw [if_neg hjk, List.getElem_replicate] at h; cases h
  · refine List.mem_iff_getElem.2 ⟨8 * p + q, by rw [List.length_set, List.length_replicate]; omega, ?_⟩
    rw [List.getElem_set_self]
/-- Frames of which one bit is turned are no frames of other bytes. -/
theorem flip_not : ∀ (A B : List (List UInt8)) (p q : Nat) (c : UInt8), (∀ s ∈ A, s.length ≤ 12000) → (∀ s ∈ B, s.length ≤ 12000) → q < 8 → (catF A)[p]? = some c → (catF A).set p (flipB c q) ≠ catF B
  | [], B, p, q, c, _, _, _, hc => by
    rw [show catF [] = [] from rfl] at hc; simp at hc
  | s :: A, [], p, q, c, _, _, _, _ => fun h => by
    have := congrArg List.length h
    rw [List.length_set] at this
    have h2 := catF_nil_len (A := A) (s := s)
    rw [this] at h2; exact absurd h2 (by decide)
  | s :: A, t :: B, p, q, c, hA, hB, hq, hc => fun h => by
    have hs := hA s (List.mem_cons_self ..)
    have ht := hB t (List.mem_cons_self ..)
    have hT : takeF (catF (t :: B)) = (0, t, catF B) := by rw [catF_cons]; exact take_frame t _ ht
    rw [catF_cons] at hc h
    by_cases hp : p < (frameL s).length
    · rw [List.getElem?_append_left hp] at hc
      rw [List.set_append_left _ _ hp] at h
      have h1 := turn_frame s (catF A) p q c hs hq hc
      rw [h, hT] at h1
      exact h1 rfl
    · rw [List.getElem?_append_right (by omega)] at hc
      rw [List.set_append_right _ _ (by omega)] at h
      have h1 := take_frame s ((catF A).set (p - (frameL s).length) (flipB c q)) hs
      rw [h, hT] at h1
      have h2 := (Prod.ext_iff.1 (Prod.ext_iff.1 h1).2).2
      exact flip_not A B (p - (frameL s).length) q c (fun s hs => hA s (List.mem_cons_of_mem _ hs)) (fun s hs => hB s (List.mem_cons_of_mem _ hs)) hq hc h2.symm
/-- A file of which one bit is turned is no file. -/
theorem turn_none (xs ys : List Rw) (p q : Nat) (c : UInt8) (hx : ∀ x ∈ xs, okX x = true) (hy : ∀ x ∈ ys, okX x = true) (hq : q < 8) (hc : (runF xs)[p]? = some c) : (runF xs).set p (flipB c q) ≠ runF ys :=
  flip_not _ _ p q c (frames_small xs hx) (frames_small ys hy) hq hc
/-- How many bytes of the blocks are looked at for rows up to z. -/
def aheadL (z : Nat) : Nat → Nat → List Rw → Nat
  | 0, _, _ => 0
  | n + 1, i, xs => if i < z then (frameL (catR (xs.take 8))).length + aheadL z n (i + 8) (xs.drop 8) else 0
theorem ahead_none (z : Nat) : ∀ (n i : Nat) (xs : List Rw), z ≤ i → aheadL z n i xs = 0
  | 0, _, _, _ => rfl
  | n + 1, i, xs, h => by rw [aheadL, if_neg (by omega)]
/-- Pages of blocks of which one bit is turned: corrupt, or as they were, where the bit stands behind what is looked at. -/
theorem page_turn (a z : Nat) (haz : a < z) : ∀ (n i : Nat) (xs : List Rw) (r : List UInt8) (p q : Nat) (c : UInt8), xs.length < n → (∀ x ∈ xs, okX x = true) → z ≤ i + xs.length → q < 8 → (catF ((blocks xs).map catR) ++ r)[p]? = some c →
    pageL (i + xs.length) a z n i ((catF ((blocks xs).map catR) ++ r).set p (flipB c q)) = if p < aheadL z n i xs then none else some ((xs.take (z - i)).drop (a - i))
  | n + 1, i, xs, r, p, q, c, hn, hok, hz, hq, hc => by
    rw [pageL, aheadL]
    by_cases hi : i < z
    · have hne : xs ≠ [] := fun e => by subst e; simp at hz; omega
      have hl : 0 < xs.length := List.length_pos_iff.2 hne
      have hb := blocks_ok _ xs (Nat.le_refl _) hok (xs.take 8) (by rw [blocks_cons hne]; exact List.mem_cons_self ..)
      have hok8 : ∀ x ∈ xs.take 8, okX x = true := fun x hx => hok x (List.mem_of_mem_take hx)
      have hokd : ∀ x ∈ xs.drop 8, okX x = true := fun x hx => hok x (List.mem_of_mem_drop hx)
      have e : catF ((blocks xs).map catR) ++ r = frameL (catR (xs.take 8)) ++ (catF ((blocks (xs.drop 8)).map catR) ++ r) := by
        rw [blocks_cons hne, List.map_cons, catF_cons, List.append_assoc]
      rw [if_pos ⟨hi, haz⟩, if_pos hi]
      rw [e] at hc ⊢
      have hdl : (xs.drop 8).length = xs.length - 8 := List.length_drop
      have htl : (xs.take 8).length = min 8 xs.length := List.length_take
      by_cases hp : p < (frameL (catR (xs.take 8))).length
      · rw [List.getElem?_append_left hp] at hc
        rw [List.set_append_left _ _ hp, if_pos (turn_frame _ _ p q c hb hq hc), if_pos (by omega)]
      · rw [List.getElem?_append_right (by omega)] at hc
        rw [List.set_append_right _ _ (by omega), take_frame _ _ hb]
        simp only [ne_eq, not_true_eq_false, if_false]
        have hg : getN (min 8 (i + xs.length - i)) (catR (xs.take 8)) = some (xs.take 8, []) := by
          have := getN_cat (xs.take 8) [] hok8
          rw [htl, List.append_nil] at this
          rw [Nat.add_sub_cancel_left]; exact this
        by_cases h8 : xs.length ≤ 8
        · have hd0 : xs.drop 8 = [] := List.drop_eq_nil_of_le h8
          have ht8 : xs.take 8 = xs := List.take_of_length_le h8
          have hrest : ∀ rr, pageL (i + xs.length) a z n (i + 8) rr = some [] := fun rr => by
            cases n with
            | zero => rfl
            | succ n => rw [pageL, if_neg (by omega)]
          rw [if_neg (by omega), hg, ahead_none z n (i + 8) _ (by omega), Nat.add_zero, if_neg (by omega)]
          simp only [not_true_eq_false, if_false, hrest, ht8, List.append_nil]
        · have ih := page_turn a z haz n (i + 8) (xs.drop 8) r (p - (frameL (catR (xs.take 8))).length) q c (by rw [hdl]; omega) hokd (by rw [hdl]; omega) hq hc
          rw [hdl, show i + 8 + (xs.length - 8) = i + xs.length by omega] at ih
          have hsp : (xs.take (z - i)).drop (a - i) = (((xs.take 8).take (z - i)).drop (a - i)) ++ (((xs.drop 8).take (z - (i + 8))).drop (a - (i + 8))) := by
            have h1 : xs.take (z - i) = (xs.take 8).take (z - i) ++ (xs.drop 8).take (z - (i + 8)) := by
              conv => lhs; rw [← List.take_append_drop 8 xs]
              rw [List.take_append, htl, show z - i - min 8 xs.length = z - (i + 8) by omega]
            rw [h1, List.drop_append, List.length_take, htl]
            by_cases hz8 : z ≤ i + 8
            · rw [show z - (i + 8) = 0 by omega, List.take_zero, List.drop_nil, List.drop_nil]
            · rw [show a - i - min (z - i) (min 8 xs.length) = a - (i + 8) by omega]
          by_cases ha : i + 8 ≤ a
          · have : ((xs.take 8).take (z - i)).drop (a - i) = [] := List.drop_eq_nil_of_le (by rw [List.length_take, htl]; omega)
            rw [if_pos ha, ih, hsp, this, List.nil_append]
            by_cases hpa : p - (frameL (catR (xs.take 8))).length < aheadL z n (i + 8) (xs.drop 8)
            · rw [if_pos hpa, if_pos (by omega)]
            · rw [if_neg hpa, if_neg (by omega)]
          · rw [if_neg ha, hg]
            simp only [not_true_eq_false, if_false, ih, hsp]
            by_cases hpa : p - (frameL (catR (xs.take 8))).length < aheadL z n (i + 8) (xs.drop 8)
            · rw [if_pos hpa, if_pos (by omega)]
            · rw [if_neg hpa, if_neg (by omega)]
    · rw [if_neg (by omega), if_neg hi, if_neg (by omega)]
      congr 1
      symm
      apply List.drop_eq_nil_of_le
      rw [List.length_take]; omega
/-- A page of a file of which one bit is turned. -/
theorem turn_page (xs : List Rw) (hok : ∀ x ∈ xs, okX x = true) (hl : xs.length ≤ 2000) (a n : Int) (ha : 0 ≤ a) (hal : a ≤ xs.length) (hn : 0 ≤ n) (p q : Nat) (c : UInt8) (hq : q < 8) (hc : (runF xs)[p]? = some c) :
    pageF ((runF xs).set p (flipB c q)) a n = (10, []) ∨ pageF ((runF xs).set p (flipB c q)) a n = (0, (xs.drop a.toNat).take n.toNat) := by
  have hhl : (lep ++ numB 2 xs.length).length ≤ 12000 := by rw [List.length_append, numB_len]; decide
  have hall := page_all xs hok hl a n ha hal hn
  rw [run_parts] at hc hall ⊢
  by_cases hp : p < (frameL (lep ++ numB 2 xs.length)).length
  · left
    rw [List.getElem?_append_left hp] at hc
    rw [List.set_append_left _ _ hp]
    have h1 := turn_frame _ (catF ((blocks xs).map catR) ++ frameL fin) p q c hhl hq hc
    unfold pageF countF
    rw [if_neg (by intro h; exact h1 h.1)]
  · rw [List.getElem?_append_right (by omega)] at hc
    rw [List.set_append_right _ _ (by omega)]
    unfold pageF at hall ⊢
    rw [count_run xs _ hl] at hall ⊢
    simp only [] at hall ⊢
    rw [if_neg (by omega)] at hall ⊢
    obtain ⟨z, hz⟩ : ∃ z, (if n < (xs.length : Int) - a then (a + n).toNat else xs.length) = z := ⟨_, rfl⟩
    have hzl : z ≤ xs.length := by rw [← hz]; split <;> omega
    rw [hz] at hall ⊢
    by_cases haz : a.toNat < z
    · have h := page_turn a.toNat z haz (xs.length + 1) 0 xs (frameL fin) _ q c (by omega) hok (by omega) hq hc
      have h0 := page_run a.toNat z (xs.length + 1) 0 xs (frameL fin) (by omega) hok (by omega)
      rw [Nat.zero_add] at h h0
      rw [h0] at hall
      rw [h]
      split
      · left
        rename_i heq
        split at heq
        · rfl
        · cases heq
      · right
        rename_i heq
        split at heq
        · cases heq
        · cases heq; exact hall
    · right
      have hno : ∀ rr, pageL xs.length a.toNat z (xs.length + 1) 0 rr = some [] := fun rr => by rw [pageL, if_neg (by omega)]
      rw [hno] at hall ⊢
      exact hall
/-- Where the bit stands behind what is looked at, the page is as it was. -/
theorem turn_behind (xs : List Rw) (hok : ∀ x ∈ xs, okX x = true) (hl : xs.length ≤ 2000) (a n : Int) (ha : 0 ≤ a) (hal : a ≤ xs.length) (hn : 0 ≤ n) (p q : Nat) (c : UInt8) (hq : q < 8) (hc : (runF xs)[p]? = some c)
    (hp : 15 + (if a.toNat < (if n < (xs.length : Int) - a then (a + n).toNat else xs.length) then aheadL (if n < (xs.length : Int) - a then (a + n).toNat else xs.length) (xs.length + 1) 0 xs else 0) ≤ p) :
    pageF ((runF xs).set p (flipB c q)) a n = (0, (xs.drop a.toNat).take n.toNat) := by
  have hfl : (frameL (lep ++ numB 2 xs.length)).length = 15 := by rw [frameL_len, List.length_append, numB_len]; rfl
  have hall := page_all xs hok hl a n ha hal hn
  rw [run_parts] at hc hall ⊢
  rw [List.getElem?_append_right (by omega)] at hc
  rw [List.set_append_right _ _ (by omega)]
  unfold pageF at hall ⊢
  rw [count_run xs _ hl] at hall ⊢
  simp only [] at hall ⊢
  rw [if_neg (by omega)] at hall ⊢
  obtain ⟨z, hz⟩ : ∃ z, (if n < (xs.length : Int) - a then (a + n).toNat else xs.length) = z := ⟨_, rfl⟩
  have hzl : z ≤ xs.length := by rw [← hz]; split <;> omega
  rw [hz] at hall hp ⊢
  by_cases haz : a.toNat < z
  · rw [if_pos haz] at hp
    have h := page_turn a.toNat z haz (xs.length + 1) 0 xs (frameL fin) _ q c (by omega) hok (by omega) hq hc
    have h0 := page_run a.toNat z (xs.length + 1) 0 xs (frameL fin) (by omega) hok (by omega)
    rw [Nat.zero_add] at h h0
    rw [h0] at hall
    rw [h, if_neg (by rw [hfl]; omega)]
    exact hall
  · have hno : ∀ rr, pageL xs.length a.toNat z (xs.length + 1) 0 rr = some [] := fun rr => by rw [pageL, if_neg (by omega)]
    rw [hno] at hall ⊢
    exact hall
end Go.Proofs.Ytldlfmeppcdbbaa.Run
