/- Frames of which bits are turned, frames that are cut: plain. -/
import Derived.Test.YtldlfmeppcdbbaaCa
namespace Go.Proofs.Ytldlfmeppcdbbaa.Crc
theorem bitsB_take (l : List UInt8) (m : Nat) (h : m ≤ l.length) : bitsB (l.take m) = (bitsB l).take (8 * m) := by
  conv => rhs; rw [← List.take_append_drop m l, bitsB_app]
  rw [List.take_left' (by rw [bitsB_len, List.length_take, Nat.min_eq_left h])]
theorem bitsB_drop (l : List UInt8) (m : Nat) (h : m ≤ l.length) : bitsB (l.drop m) = (bitsB l).drop (8 * m) := by
  conv => rhs; rw [← List.take_append_drop m l, bitsB_app]
  rw [List.drop_left' (by rw [bitsB_len, List.length_take, Nat.min_eq_left h])]
theorem xorL_take : ∀ (l e : List Bool) (n : Nat), (xorL l e).take n = xorL (l.take n) (e.take n)
  | [], e, n => by cases n <;> simp [xorL]
  | a :: l, [], n => by cases n <;> simp [xorL]
  | a :: l, b :: e, 0 => by simp [xorL]
  | a :: l, b :: e, n + 1 => by rw [xorL, List.take_succ_cons, List.take_succ_cons, List.take_succ_cons, xorL, xorL_take l e n]
theorem xorL_drop : ∀ (l e : List Bool) (n : Nat), l.length = e.length → (xorL l e).drop n = xorL (l.drop n) (e.drop n)
  | [], [], n, _ => by cases n <;> rfl
  | a :: l, b :: e, 0, _ => rfl
  | a :: l, b :: e, n + 1, h => by rw [xorL, List.drop_succ_cons, List.drop_succ_cons, List.drop_succ_cons, xorL_drop l e n (by simpa using h)]
theorem nBits_bit (a : Nat) : ∀ (k i : Nat), i < k → (nBits a k)[k - 1 - i]? = some (a.testBit i)
  | k + 1, i, h => by
    rw [nBits]
    by_cases hi : i = k
    · subst hi; rw [show i + 1 - 1 - i = 0 by omega]; rfl
    · have := nBits_bit a k i (by omega)
      rw [show k + 1 - 1 - i = (k - 1 - i) + 1 by omega]
      exact this
theorem nBits_inj {a b k : Nat} (h : nBits a k = nBits b k) (ha : a < 2 ^ k) (hb : b < 2 ^ k) : a = b := by
  apply Nat.eq_of_testBit_eq
  intro i
  by_cases hi : i < k
  · have h1 := nBits_bit a k i hi
    rw [h, nBits_bit b k i hi] at h1
    exact (Option.some.inj h1).symm
  · have h2 : 2 ^ k ≤ 2 ^ i := Nat.pow_le_pow_right (by decide) (by omega)
    rw [Nat.testBit_lt_two_pow (by omega), Nat.testBit_lt_two_pow (by omega)]
theorem val_inj {l m : List UInt8} (hl : l.length = m.length) (h : bitsB l = bitsB m) : valA 0 l = valA 0 m := by
  have h1 := valA_lt0 l
  have h2 := valA_lt0 m
  rw [← bits_val, ← bits_val, ← hl] at h
  rw [show (256 : Nat) ^ l.length = 2 ^ (8 * l.length) by rw [Nat.pow_mul]] at h1
  rw [← hl, show (256 : Nat) ^ l.length = 2 ^ (8 * l.length) by rw [Nat.pow_mul]] at h2
  exact nBits_inj h h1 h2
/-- A frame of which bits are turned among 32 is not taken. -/
theorem take_burst (s b r : List UInt8) (e : List Bool) (k : Nat) (hs : s.length ≤ 12000) (hl : b.length = s.length + 10) (hel : e.length = 8 * (s.length + 10)) (he : bitsB b = xorL (bitsB (frameL s)) e) (hk : ∀ j (hj : j < e.length), e[j] = true → k ≤ j ∧ j < k + 32) (ht : true ∈ e) : (takeF (b ++ r)).1 ≠ 0 := by
  have hfl := frameL_len s
  have h6 : bitsB (b.take 6) = xorL (bitsB ((frameL s).take 6)) (e.take 48) := by
    rw [bitsB_take b 6 (by omega), he, xorL_take, bitsB_take _ 6 (by omega)]
  have h7 : bitsB (b.drop 6) = xorL (bitsB ((frameL s).drop 6)) (e.drop 48) := by
    rw [bitsB_drop b 6 (by omega), he, xorL_drop _ _ _ (by rw [bitsB_len, hfl, hel]), bitsB_drop _ 6 (by omega)]
  have hf2 : (frameL s).take 2 = numB 2 s.length := by unfold frameL; rw [List.take_left' (numB_len _ _)]
  have hf4 : ((frameL s).drop 2).take 4 = numB 4 (crcN (numB 2 s.length)) := by unfold frameL; rw [List.drop_left' (numB_len _ _), List.take_left' (numB_len _ _)]
  have hf6 : (frameL s).take 6 = numB 2 s.length ++ numB 4 (crcN (numB 2 s.length)) := by
    rw [show 6 = 2 + 4 from rfl, List.take_add, hf2, hf4]
  have hf7 : (frameL s).drop 6 = s ++ numB 4 (crcN s) := by
    unfold frameL
    rw [show 6 = 2 + 4 from rfl, ← List.drop_drop, List.drop_left' (numB_len _ _), List.drop_left' (numB_len _ _)]
  have hz6 : run ones (bitsB ((frameL s).take 6)) = 0#32 := by rw [hf6, ← crc_ok _ _ (numB_len _ _), crc_num]
  have hz7 : run ones (bitsB ((frameL s).drop 6)) = 0#32 := by rw [hf7, ← crc_ok _ _ (numB_len _ _), crc_num]
  have hb2 : (b ++ r).take 2 = b.take 2 := by rw [List.take_append_of_le_length (by omega)]
  have hb4 : ((b ++ r).drop 2).take 4 = (b.drop 2).take 4 := by
    rw [List.drop_append_of_le_length (by omega), List.take_append_of_le_length (by rw [List.length_drop]; omega)]
  have hb6 : b.take 6 = b.take 2 ++ (b.drop 2).take 4 := by rw [show 6 = 2 + 4 from rfl, List.take_add]
  have hbl : (b ++ r).length = s.length + 10 + r.length := by rw [List.length_append, hl]
  have e1l : (e.take 48).length = 48 := by rw [List.length_take, hel]; omega
  unfold takeF
  rw [if_neg (by omega), hb2, hb4]
  by_cases h1 : true ∈ e.take 48
  · have hne : ¬ valA 0 ((b.drop 2).take 4) = crcN (b.take 2) := by
      rw [crc_ok _ _ (by rw [List.length_take, List.length_drop, hl]; omega), ← hb6, h6, run_turn _ _ (by rw [bitsB_len, List.length_take, hfl, e1l, Nat.min_eq_left (by omega)]), hz6, BitVec.zero_xor]
      exact run_near _ k (fun j hj h => by
        rw [List.getElem_take] at h
        exact hk j (by rw [e1l] at hj; omega) h) h1
    rw [if_pos hne]
    decide
  · have hv : valA 0 (b.take 2) = s.length := by
      have h8 : bitsB (b.take 6) = bitsB ((frameL s).take 6) := by
        rw [h6, all_false h1, e1l]
        have := xorL_zeros (bitsB ((frameL s).take 6))
        rwa [bitsB_len, List.length_take, hfl, Nat.min_eq_left (by omega)] at this
      have h9 : bitsB (b.take 2) = bitsB ((frameL s).take 2) := by
        have := congrArg (List.take 16) h8
        rw [bitsB_take _ 6 (by omega), bitsB_take _ 6 (by omega), List.take_take, List.take_take] at this
        rw [bitsB_take _ 2 (by omega), bitsB_take _ 2 (by omega)]
        exact this
      rw [val_inj (by rw [List.length_take, List.length_take, hl, hfl]) h9, hf2]
      exact val_num _ _ (by omega)
    have h2 : true ∈ e.drop 48 := by
      rw [← List.take_append_drop 48 e] at ht
      rcases List.mem_append.1 ht with h | h
      · exact absurd h h1
      · exact h
    split
    · decide
    · rw [hv, if_neg (by omega), if_pos]
      · decide
      · right
        have hd6 : ((b ++ r).drop 6).take s.length = (b.drop 6).take s.length := by
          rw [List.drop_append_of_le_length (by omega), List.take_append_of_le_length (by rw [List.length_drop]; omega)]
        have hd7 : ((b ++ r).drop (6 + s.length)).take 4 = (b.drop (6 + s.length)).take 4 := by
          rw [List.drop_append_of_le_length (by omega), List.take_append_of_le_length (by rw [List.length_drop]; omega)]
        have hj : (b.drop 6).take s.length ++ (b.drop (6 + s.length)).take 4 = b.drop 6 := by
          rw [← List.drop_drop, ← List.take_add, List.take_of_length_le (by rw [List.length_drop]; omega)]
        intro hc
        rw [hd6, hd7, crc_ok _ _ (by rw [List.length_take, List.length_drop]; omega), hj, h7, run_turn _ _ (by rw [bitsB_len, List.length_drop, List.length_drop, hfl, hel]; omega), hz7, BitVec.zero_xor] at hc
        exact run_near _ (k - 48) (fun j hj h => by
          rw [List.getElem_drop] at h
          rw [List.length_drop] at hj
          have := hk (48 + j) (by omega) h
          omega) h2 hc
/-- One bit turned: another sum. -/
theorem crc_turn (l m : List UInt8) (e : List Bool) (k : Nat) (hl : e.length = 8 * l.length) (he : bitsB m = xorL (bitsB l) e) (hk : ∀ j (hj : j < e.length), e[j] = true → k ≤ j ∧ j < k + 32) (ht : true ∈ e) : crcN m ≠ crcN l := by
  intro h
  have h1 : crc m = crc l := BitVec.eq_of_toNat_eq h
  unfold crc at h1
  rw [he, run_turn _ _ (by rw [bitsB_len, hl])] at h1
  have h2 := congrArg (run ones (bitsB l) ^^^ ·) h1
  simp only [← BitVec.xor_assoc, BitVec.xor_self, BitVec.zero_xor] at h2
  exact run_near e k hk ht h2
/-- A bit turned in a byte. -/
def flipB (c : UInt8) (q : Nat) : UInt8 := UInt8.ofNat (c.toNat ^^^ (128 >>> q))
theorem flip_bits : ∀ c : Fin 256, ∀ q : Fin 8, nBits ((c.val ^^^ (128 >>> q.val)) % 256) 8 = (nBits c.val 8).set q.val (!(nBits c.val 8).getD q.val false) := by decide +kernel
theorem byte_flip (c : UInt8) (q : Nat) (h : q < 8) : byteBits (flipB c q) = (byteBits c).set q (!(byteBits c).getD q false) := by
  have := flip_bits ⟨c.toNat, c.toNat_lt⟩ ⟨q, h⟩
  unfold byteBits flipB
  rw [u8]; exact this
theorem bits_flip : ∀ (l : List UInt8) (p q : Nat) (c : UInt8), l[p]? = some c → q < 8 → bitsB (l.set p (flipB c q)) = (bitsB l).set (8 * p + q) (!(bitsB l).getD (8 * p + q) false)
  | [], p, q, c, h, _ => by simp at h
  | x :: l, 0, q, c, h, hq => by
    obtain rfl : x = c := by simpa using h
    have hl : (byteBits x).length = 8 := nBits_len _ _
    rw [List.set_cons_zero, show bitsB (flipB x q :: l) = byteBits (flipB x q) ++ bitsB l from rfl, show bitsB (x :: l) = byteBits x ++ bitsB l from rfl, byte_flip x q hq, Nat.mul_zero, Nat.zero_add, List.set_append_left _ _ (by omega), List.getD, List.getD, List.getElem?_append_left (by omega)]
  | x :: l, p + 1, q, c, h, hq => by
    have ih := bits_flip l p q c (by simpa using h) hq
    have hl : (byteBits x).length = 8 := nBits_len _ _
    rw [List.set_cons_succ, show bitsB (x :: l.set p (flipB c q)) = byteBits x ++ bitsB (l.set p (flipB c q)) from rfl, show bitsB (x :: l) = byteBits x ++ bitsB l from rfl, ih, List.set_append_right _ _ (by omega), List.getD, List.getD, List.getElem?_append_right (by omega), show 8 * (p + 1) + q - (byteBits x).length = 8 * p + q by omega]
theorem xorL_set : ∀ (l e : List Bool) (j : Nat), l.length = e.length → e[j]? = some false → (xorL l e).set j (!(xorL l e).getD j false) = xorL l (e.set j true)
  | [], [], _, _, h => by simp at h
  | a :: l, b :: e, 0, _, h => by cases h; simp [xorL]
  | a :: l, b :: e, j + 1, hl, h => by
    have ih := xorL_set l e j (by simpa using hl) (by simpa using h)
    rw [xorL, List.set_cons_succ, List.set_cons_succ, xorL, ← ih]
    rfl
/-- All frames from the beginning on, and what is left. -/
def allF : Nat → List UInt8 → List (List UInt8) × List UInt8
  | 0, b => ([], b)
  | n + 1, b => if (takeF b).1 = 0 then ((takeF b).2.1 :: (allF n (takeF b).2.2).1, (allF n (takeF b).2.2).2) else ([], b)
theorem take_less {b : List UInt8} (h : (takeF b).1 = 0) : (takeF b).2.2.length + 10 ≤ b.length := by
  revert h
  unfold takeF
  repeat' split
  all_goals simp
  all_goals omega
theorem allF_enough : ∀ (n m : Nat) (b : List UInt8), b.length < n → b.length < m → allF n b = allF m b
  | n + 1, m + 1, b, h1, h2 => by
    rw [allF, allF]
    by_cases h : (takeF b).1 = 0
    · have := take_less h
      rw [if_pos h, if_pos h, allF_enough n m _ (by omega) (by omega)]
    · rw [if_neg h, if_neg h]
theorem allF_frame (s r : List UInt8) (h : s.length ≤ 12000) (n : Nat) : allF (n + 1) (frameL s ++ r) = (s :: (allF n r).1, (allF n r).2) := by
  rw [allF, take_frame s r h, if_pos rfl]
/-- How many frames are whole in so many bytes, and how many bytes they are. -/
def cutN : List (List UInt8) → Nat → Nat × Nat
  | [], _ => (0, 0)
  | s :: r, k => if s.length + 10 ≤ k then ((cutN r (k - (s.length + 10))).1 + 1, (cutN r (k - (s.length + 10))).2 + (s.length + 10)) else (0, 0)
def catF (L : List (List UInt8)) : List UInt8 := L.flatMap frameL
theorem catF_cons (s : List UInt8) (L : List (List UInt8)) : catF (s :: L) = frameL s ++ catF L := rfl
theorem allF_nil : ∀ n, allF n [] = ([], [])
  | 0 => rfl
  | n + 1 => by rw [allF, if_neg (by decide)]
/-- Frames one behind the other, cut anywhere: the first ones, and the rest is what is left. -/
theorem allF_cut : ∀ (L : List (List UInt8)) (k n : Nat), (∀ s ∈ L, s.length ≤ 12000) → ((catF L).take k).length < n → allF n ((catF L).take k) = (L.take (cutN L k).1, ((catF L).take k).drop (cutN L k).2)
  | [], k, n, _, _ => by
    rw [show catF [] = [] from rfl, List.take_nil, allF_nil]; simp [cutN]
  | s :: L, k, 0, _, h => by omega
  | s :: L, k, n + 1, hL, h => by
    have hs := hL s (List.mem_cons_self ..)
    have hl := frameL_len s
    rw [cutN]
    by_cases hk : s.length + 10 ≤ k
    · have e : (catF (s :: L)).take k = frameL s ++ (catF L).take (k - (s.length + 10)) := by
        rw [catF_cons, List.take_append, List.take_of_length_le (by omega), hl]
      rw [e] at h ⊢
      rw [if_pos hk, allF_frame s _ hs, allF_cut L _ n (fun t ht => hL t (List.mem_cons_of_mem _ ht)) (by rw [List.length_append] at h; omega)]
      simp only [List.take_succ_cons]
      rw [show (cutN L (k - (s.length + 10))).2 + (s.length + 10) = (frameL s).length + (cutN L (k - (s.length + 10))).2 by omega, ← List.drop_drop, List.drop_left' rfl]
    · have e : (catF (s :: L)).take k = (frameL s).take k := by
        rw [catF_cons, List.take_append_of_le_length (by omega)]
      rw [e, if_neg hk, allF, take_cut s hs k (by omega), if_neg (by decide)]
      rfl
theorem cutN_le : ∀ (L : List (List UInt8)) (k : Nat), (cutN L k).2 ≤ k
  | [], k => Nat.zero_le _
  | s :: L, k => by
    rw [cutN]
    split
    · have := cutN_le L (k - (s.length + 10))
      simp only []; omega
    · exact Nat.zero_le _
/-- Where each frame ends. -/
def endsF : Nat → List (List UInt8) → List Nat
  | _, [] => []
  | a, s :: L => (a + (s.length + 10)) :: endsF (a + (s.length + 10)) L
theorem endsF_len : ∀ (L : List (List UInt8)) (a : Nat), (endsF a L).length = L.length
  | [], _ => rfl
  | s :: L, a => by rw [endsF, List.length_cons, endsF_len L, List.length_cons]
theorem endsF_snoc : ∀ (L : List (List UInt8)) (a : Nat) (s : List UInt8), endsF a (L ++ [s]) = endsF a L ++ [a + (catF L).length + (s.length + 10)]
  | [], a, s => by simp [endsF, catF]
  | t :: L, a, s => by
    rw [List.cons_append, endsF, endsF_snoc L, endsF, catF_cons, List.length_append, frameL_len, List.cons_append]
    congr 4; omega
/-- The last end that is not too far, as a loop finds it. -/
def lastF (k : Nat) : Nat → List Nat → Nat × Nat → Nat × Nat
  | _, [], p => p
  | i, x :: r, p => lastF k (i + 1) r (if x ≤ k then (i + 1, x) else p)
theorem lastF_far (k : Nat) : ∀ (L : List (List UInt8)) (i a : Nat) (p : Nat × Nat), k < a → lastF k i (endsF a L) p = p
  | [], _, _, _, _ => rfl
  | s :: L, i, a, p, h => by rw [endsF, lastF, if_neg (by omega), lastF_far k L _ _ _ (by omega)]
theorem lastF_cut (k : Nat) : ∀ (L : List (List UInt8)) (i a : Nat), a ≤ k → lastF k i (endsF a L) (i, a) = (i + (cutN L (k - a)).1, a + (cutN L (k - a)).2)
  | [], i, a, _ => rfl
  | s :: L, i, a, h => by
    rw [endsF, lastF, cutN]
    by_cases hk : a + (s.length + 10) ≤ k
    · rw [if_pos hk, if_pos (by omega), lastF_cut k L (i + 1) _ hk, show k - (a + (s.length + 10)) = k - a - (s.length + 10) by omega]
      simp only []
      refine Prod.ext ?_ ?_ <;> simp only [] <;> omega
    · rw [if_neg hk, if_neg (by omega), lastF_far k L _ _ _ (by omega)]
      rfl
end Go.Proofs.Ytldlfmeppcdbbaa.Crc
