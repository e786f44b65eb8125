/- The sum of bytes bit by bit, and frames: plain. -/
import Derived.WalkKit
namespace Go.Proofs.Ytldlfmeppcdbbaa.Crc
abbrev poly : BitVec 32 := 0xF4ACFB13#32
def step (x : BitVec 32) (b : Bool) : BitVec 32 := if x.msb ^^ b then (x <<< 1) ^^^ poly else x <<< 1
def run : BitVec 32 → List Bool → BitVec 32
  | x, [] => x
  | x, b :: l => run (step x b) l
theorem run_app : ∀ (l m : List Bool) (x : BitVec 32), run x (l ++ m) = run (run x l) m
  | [], _, _ => rfl
  | b :: l, m, x => run_app l m (step x b)
theorem step_xor (x y : BitVec 32) (a b : Bool) : step (x ^^^ y) (a ^^ b) = step x a ^^^ step y b := by
  unfold step
  rw [BitVec.msb_xor, BitVec.shiftLeft_xor_distrib]
  cases x.msb <;> cases y.msb <;> cases a <;> cases b <;> simp
  all_goals (apply BitVec.eq_of_getLsbD_eq; intro i hi; simp only [BitVec.getLsbD_xor]; cases (x <<< 1).getLsbD i <;> cases (y <<< 1).getLsbD i <;> cases poly.getLsbD i <;> rfl)
def xorL : List Bool → List Bool → List Bool
  | a :: l, b :: m => (a ^^ b) :: xorL l m
  | _, _ => []
theorem run_xor : ∀ (l m : List Bool) (x y : BitVec 32), l.length = m.length → run (x ^^^ y) (xorL l m) = run x l ^^^ run y m
  | [], [], _, _, _ => rfl
  | a :: l, b :: m, x, y, h => by
    rw [xorL, run, step_xor, run_xor l m _ _ (by simpa using h), run, run]
theorem step_zero {x : BitVec 32} (h : x ≠ 0#32) : step x false ≠ 0#32 := by
  intro e
  unfold step at e
  rw [Bool.xor_false] at e
  split at e
  · have h0 := congrArg (fun v => v.getLsbD 0) e
    simp [poly] at h0
  · next hm =>
    apply h
    apply BitVec.eq_of_getLsbD_eq
    intro i hi
    rw [BitVec.getLsbD_zero]
    by_cases h31 : i = 31
    · subst h31
      have : x.msb = x.getLsbD 31 := BitVec.msb_eq_getLsbD_last x
      rw [← this]; simpa using hm
    · have h1 := congrArg (fun v => v.getLsbD (i + 1)) e
      simp only [BitVec.getLsbD_shiftLeft, BitVec.getLsbD_zero] at h1
      simpa [show i + 1 < 32 by omega] using h1
theorem zeros_not : ∀ (n : Nat) (x : BitVec 32), x ≠ 0#32 → run x (List.replicate n false) ≠ 0#32
  | 0, _, h => h
  | n + 1, _, h => zeros_not n _ (step_zero h)
theorem zeros_zero : ∀ n : Nat, run 0#32 (List.replicate n false) = 0#32
  | 0 => rfl
  | n + 1 => by
    rw [List.replicate_succ, run, show step 0#32 false = 0#32 by decide]
    exact zeros_zero n
def bitsOf (x : BitVec 32) : Nat → List Bool
  | 0 => []
  | n + 1 => x.getLsbD n :: bitsOf x n
theorem bitsOf_len (x : BitVec 32) : ∀ n, (bitsOf x n).length = n
  | 0 => rfl
  | n + 1 => by rw [bitsOf, List.length_cons, bitsOf_len x n]
theorem run_out : ∀ (n : Nat) (x : BitVec 32), n ≤ 32 → run (x <<< (32 - n)) (bitsOf x n) = 0#32
  | 0, x, _ => by
    rw [bitsOf, run]
    apply BitVec.eq_of_getLsbD_eq
    intro i hi
    rw [BitVec.getLsbD_shiftLeft]
    simp
  | n + 1, x, h => by
    rw [bitsOf, run]
    have hm : (x <<< (32 - (n + 1))).msb = x.getLsbD n := by
      rw [BitVec.msb_eq_getLsbD_last, BitVec.getLsbD_shiftLeft]
      rw [show 32 - 1 - (32 - (n + 1)) = n by omega]
      simp
    unfold step
    rw [hm, Bool.xor_self]
    simp only [Bool.false_eq_true, if_false]
    rw [← BitVec.shiftLeft_add, show 32 - (n + 1) + 1 = 32 - n by omega]
    exact run_out n x (by omega)
theorem run_self (x : BitVec 32) : run x (bitsOf x 32) = 0#32 := by
  have h := run_out 32 x (by omega)
  simpa using h
theorem xorL_zeros : ∀ l : List Bool, xorL l (List.replicate l.length false) = l
  | [] => rfl
  | a :: l => by rw [List.length_cons, List.replicate_succ, xorL, xorL_zeros l, Bool.xor_false]
theorem xorL_len : ∀ (l m : List Bool), l.length = m.length → (xorL l m).length = l.length
  | [], [], _ => rfl
  | a :: l, b :: m, h => by rw [xorL, List.length_cons, xorL_len l m (by simpa using h), List.length_cons]
theorem xorL_app : ∀ (l m a b : List Bool), l.length = a.length → xorL (l ++ m) (a ++ b) = xorL l a ++ xorL m b
  | [], _, [], _, _ => rfl
  | x :: l, m, y :: a, b, h => by
    rw [List.cons_append, List.cons_append, xorL, xorL_app l m a b (by simpa using h), xorL, List.cons_append]
/-- A number is its 32 bits: it alone leaves nothing. -/
theorem run_zero (x c : BitVec 32) : run x (bitsOf c 32) = 0#32 ↔ x = c := by
  have h := run_xor (List.replicate 32 false) (bitsOf c 32) (x ^^^ c) c (by simp [bitsOf_len])
  have h2 : xorL (List.replicate 32 false) (bitsOf c 32) = bitsOf c 32 := by
    simp [bitsOf, xorL, List.replicate]
  rw [h2, run_self, BitVec.xor_zero, BitVec.xor_assoc, BitVec.xor_self, BitVec.xor_zero] at h
  constructor
  · intro e
    rw [e] at h
    by_cases hx : x ^^^ c = 0#32
    · have := congrArg (· ^^^ c) hx
      simpa [BitVec.xor_assoc] using this
    · exact absurd h.symm (zeros_not 32 _ hx)
  · rintro rfl; exact run_self x
def natOf : List Bool → Nat
  | [] => 0
  | b :: l => 2 ^ l.length * b.toNat + natOf l
theorem natOf_lt : ∀ l : List Bool, natOf l < 2 ^ l.length
  | [] => by simp [natOf]
  | b :: l => by
    have h := natOf_lt l
    rw [natOf, List.length_cons, Nat.pow_succ]
    cases b <;> simp <;> omega
theorem natOf_bit : ∀ (l : List Bool) (i : Nat) (h : i < l.length), (natOf l).testBit (l.length - 1 - i) = l[i]
  | b :: l, 0, _ => by
    rw [natOf, Nat.testBit_two_pow_mul_add _ (natOf_lt l)]
    simp
    cases b <;> rfl
  | b :: l, i + 1, h => by
    rw [natOf, Nat.testBit_two_pow_mul_add _ (natOf_lt l)]
    have h' : i < l.length := by simpa using h
    rw [if_pos (by simp; omega), List.getElem_cons_succ, ← natOf_bit l i h']
    congr 1; simp; omega
theorem bitsOf_nat (l : List Bool) (hl : l.length = 32) : bitsOf (BitVec.ofNat 32 (natOf l)) 32 = l := by
  have key : ∀ (n : Nat), n ≤ 32 → bitsOf (BitVec.ofNat 32 (natOf l)) n = l.drop (32 - n) := by
    intro n
    induction n with
    | zero => intro _; rw [bitsOf, List.drop_eq_nil_of_le (by omega)]
    | succ n ih =>
      intro hn
      have hi : 32 - (n + 1) < l.length := by omega
      rw [bitsOf, ih (by omega), List.drop_eq_getElem_cons hi, show 32 - (n + 1) + 1 = 32 - n by omega]
      congr 1
      rw [BitVec.getLsbD_ofNat, ← natOf_bit l _ hi, show l.length - 1 - (32 - (n + 1)) = n by omega]
      simp; omega
  rw [key 32 (by omega)]; rfl
theorem natOf_zero : ∀ l : List Bool, natOf l = 0 → ∀ b ∈ l, b = false
  | [], _, _, hb => by cases hb
  | c :: l, h, b, hb => by
    rw [natOf] at h
    have h1 : natOf l = 0 := by omega
    have h2 : 2 ^ l.length * c.toNat = 0 := by omega
    rcases List.mem_cons.1 hb with rfl | hb
    · cases b
      · rfl
      · simp at h2
    · exact natOf_zero l h1 b hb
/-- At most 32 bits, one of them 1, leave something in an empty register. -/
theorem run_burst (u : List Bool) (hu : u.length ≤ 32) (h : true ∈ u) : run 0#32 u ≠ 0#32 := by
  intro e
  have hl : (u ++ List.replicate (32 - u.length) false).length = 32 := by simp; omega
  have h1 : run 0#32 (u ++ List.replicate (32 - u.length) false) = 0#32 := by rw [run_app, e, zeros_zero]
  rw [← bitsOf_nat _ hl, run_zero] at h1
  have h2 : natOf (u ++ List.replicate (32 - u.length) false) = 0 := by
    have h3 := congrArg BitVec.toNat h1
    have h4 := natOf_lt (u ++ List.replicate (32 - u.length) false)
    rw [hl] at h4
    simp only [BitVec.toNat_ofNat] at h3
    omega
  have := natOf_zero _ h2 true (List.mem_append_left _ h)
  cases this
theorem run_mid (a b : Nat) (u : List Bool) (hu : u.length ≤ 32) (h : true ∈ u) : run 0#32 (List.replicate a false ++ (u ++ List.replicate b false)) ≠ 0#32 := by
  rw [run_app, zeros_zero, run_app]
  exact zeros_not b _ (run_burst u hu h)
abbrev ErrForm : Nat := 2
abbrev ErrCorrupt : Nat := 10
theorem u8 (n : Nat) : (UInt8.ofNat n).toNat = n % 256 := UInt8.toNat_ofNat'
/-- A number in n bytes, the highest first. -/
def numB : Nat → Nat → List UInt8
  | 0, _ => []
  | n + 1, v => UInt8.ofNat (v / 256 ^ n) :: numB n v
theorem numB_len : ∀ (n v : Nat), (numB n v).length = n
  | 0, _ => rfl
  | n + 1, v => by rw [numB, List.length_cons, numB_len n v]
/-- A number of bytes, behind one that is read already. -/
def valA : Nat → List UInt8 → Nat
  | a, [] => a
  | a, c :: r => valA (a * 256 + c.toNat) r
theorem valA_snoc : ∀ (l : List UInt8) (a : Nat) (c : UInt8), valA a (l ++ [c]) = valA a l * 256 + c.toNat
  | [], a, c => rfl
  | x :: l, a, c => by rw [List.cons_append, valA, valA_snoc l, valA]
theorem valA_lt : ∀ (l : List UInt8) (a : Nat), valA a l < (a + 1) * 256 ^ l.length
  | [], a => by simp [valA]
  | c :: l, a => by
    have h := valA_lt l (a * 256 + c.toNat)
    have hc : c.toNat < 256 := c.toNat_lt
    rw [valA, List.length_cons, Nat.pow_succ]
    refine Nat.lt_of_lt_of_le h ?_
    rw [show (a + 1) * (256 ^ l.length * 256) = ((a + 1) * 256) * 256 ^ l.length by rw [Nat.mul_assoc, Nat.mul_comm 256]]
    exact Nat.mul_le_mul_right _ (by omega)
theorem valA_num : ∀ (n a v : Nat), valA a (numB n v) = a * 256 ^ n + v % 256 ^ n
  | 0, a, v => by simp [numB, valA, Nat.mod_one]
  | n + 1, a, v => by
    rw [numB, valA, valA_num n, Nat.mod_pow_succ (b := 256), Nat.pow_succ]
    rw [u8, Nat.add_mul, Nat.mul_assoc a, Nat.mul_comm 256 (256 ^ n), Nat.mul_comm (v / 256 ^ n % 256)]
    omega
theorem val_num (n v : Nat) (h : v < 256 ^ n) : valA 0 (numB n v) = v := by
  rw [valA_num, Nat.zero_mul, Nat.zero_add, Nat.mod_eq_of_lt h]

theorem valA_eq : ∀ (l : List UInt8) (a : Nat), valA a l = a * 256 ^ l.length + valA 0 l
  | [], a => by simp [valA]
  | c :: l, a => by
    rw [valA, valA_eq l, valA, valA_eq l (0 * 256 + c.toNat), List.length_cons, Nat.pow_succ, Nat.zero_mul, Nat.zero_add, Nat.add_mul, Nat.mul_assoc a, Nat.mul_comm 256]
    omega
theorem valA_lt0 (l : List UInt8) : valA 0 l < 256 ^ l.length := by
  have h := valA_lt l 0
  rwa [Nat.zero_add, Nat.one_mul] at h
/-- The bits of a number, the highest first. -/
def nBits (n : Nat) : Nat → List Bool
  | 0 => []
  | k + 1 => n.testBit k :: nBits n k
theorem nBits_len (n : Nat) : ∀ k, (nBits n k).length = k
  | 0 => rfl
  | k + 1 => by rw [nBits, List.length_cons, nBits_len n k]
theorem nBits_add (a b k : Nat) (hb : b < 2 ^ k) : ∀ j, nBits (2 ^ k * a + b) (k + j) = nBits a j ++ nBits b k
  | 0 => by
    rw [nBits, List.nil_append, Nat.add_zero]
    have : ∀ m, m ≤ k → nBits (2 ^ k * a + b) m = nBits b m := by
      intro m
      induction m with
      | zero => intro _; rfl
      | succ m ih =>
        intro hm
        rw [nBits, nBits, ih (by omega), Nat.testBit_two_pow_mul_add _ hb, if_pos (by omega)]
    exact this k (Nat.le_refl _)
  | j + 1 => by
    rw [show k + (j + 1) = (k + j) + 1 from rfl, nBits, nBits_add a b k hb j, Nat.testBit_two_pow_mul_add _ hb, if_neg (by omega), nBits, show k + j - k = j by omega]
    rfl
def byteBits (c : UInt8) : List Bool := nBits c.toNat 8
/-- The bits of bytes, one byte behind the other. -/
def bitsB (l : List UInt8) : List Bool := l.flatMap byteBits
theorem bitsB_app (l m : List UInt8) : bitsB (l ++ m) = bitsB l ++ bitsB m := by unfold bitsB; rw [List.flatMap_append]
theorem bitsB_len : ∀ l : List UInt8, (bitsB l).length = 8 * l.length
  | [] => rfl
  | c :: l => by
    rw [show bitsB (c :: l) = byteBits c ++ bitsB l from rfl, List.length_append, bitsB_len l, byteBits, nBits_len, List.length_cons]; omega
theorem bits_val : ∀ l : List UInt8, nBits (valA 0 l) (8 * l.length) = bitsB l
  | [] => rfl
  | c :: l => by
    have h := valA_lt0 l
    rw [valA, valA_eq, Nat.zero_mul, Nat.zero_add, List.length_cons, show 8 * (l.length + 1) = 8 * l.length + 8 by omega, show (256 : Nat) ^ l.length = 2 ^ (8 * l.length) by rw [Nat.pow_mul]] 
    rw [show (256 : Nat) ^ l.length = 2 ^ (8 * l.length) by rw [Nat.pow_mul]] at h
    rw [Nat.mul_comm c.toNat, nBits_add _ _ _ h, bits_val l]
    rfl
theorem bitsOf_nBits (n : Nat) : ∀ k, k ≤ 32 → bitsOf (BitVec.ofNat 32 n) k = nBits n k
  | 0, _ => rfl
  | k + 1, h => by
    rw [bitsOf, nBits, bitsOf_nBits n k (by omega), BitVec.getLsbD_ofNat]
    simp; omega
abbrev ones : BitVec 32 := 0xFFFFFFFF#32
/-- The sum of bytes. -/
def crc (l : List UInt8) : BitVec 32 := run ones (bitsB l)
def crcN (l : List UInt8) : Nat := (crc l).toNat
theorem crcN_lt (l : List UInt8) : crcN l < 4294967296 := (crc l).isLt
/-- Bytes and their sum behind them leave nothing, and they alone. -/
theorem crc_ok (d c : List UInt8) (hc : c.length = 4) : valA 0 c = crcN d ↔ run ones (bitsB (d ++ c)) = 0#32 := by
  have h4 := valA_lt0 c
  rw [hc] at h4
  rw [bitsB_app, run_app, ← bits_val c, hc, ← bitsOf_nBits _ _ (by omega), run_zero]
  unfold crcN crc
  constructor
  · intro h
    apply BitVec.eq_of_toNat_eq
    rw [BitVec.toNat_ofNat, h, Nat.mod_eq_of_lt (BitVec.isLt _)]
  · intro h
    rw [h, BitVec.toNat_ofNat, Nat.mod_eq_of_lt (by omega)]
theorem crc_num (d : List UInt8) : valA 0 (numB 4 (crcN d)) = crcN d := val_num _ _ (by have := crcN_lt d; omega)
/-- The frame of bytes. -/
def frameL (s : List UInt8) : List UInt8 := numB 2 s.length ++ (numB 4 (crcN (numB 2 s.length)) ++ (s ++ numB 4 (crcN s)))
theorem frameL_len (s : List UInt8) : (frameL s).length = s.length + 10 := by
  unfold frameL; simp only [List.length_append, numB_len]; omega
/-- A frame taken: an error (2: too few bytes; 10: not what it was), the bytes, what stands behind. -/
def takeF (b : List UInt8) : Nat × List UInt8 × List UInt8 :=
  if b.length < 6 then (ErrForm, [], []) else
  if valA 0 ((b.drop 2).take 4) ≠ crcN (b.take 2) then (ErrCorrupt, [], []) else
  if b.length < 10 + valA 0 (b.take 2) then (ErrForm, [], []) else
  if 12000 < valA 0 (b.take 2) ∨ valA 0 ((b.drop (6 + valA 0 (b.take 2))).take 4) ≠ crcN ((b.drop 6).take (valA 0 (b.take 2))) then (ErrCorrupt, [], []) else
  (0, (b.drop 6).take (valA 0 (b.take 2)), b.drop (10 + valA 0 (b.take 2)))
theorem take_frame (s r : List UInt8) (h : s.length ≤ 12000) : takeF (frameL s ++ r) = (0, s, r) := by
  have hn : numB 2 s.length = [UInt8.ofNat (s.length / 256), UInt8.ofNat s.length] := by simp [numB]
  have h2 : (frameL s ++ r).take 2 = numB 2 s.length := by
    unfold frameL; rw [List.append_assoc, List.take_left' (numB_len _ _)]
  have hd2 : (frameL s ++ r).drop 2 = numB 4 (crcN (numB 2 s.length)) ++ (s ++ (numB 4 (crcN s) ++ r)) := by
    unfold frameL; rw [List.append_assoc, List.drop_left' (numB_len _ _)]; simp only [List.append_assoc]
  have h4 : ((frameL s ++ r).drop 2).take 4 = numB 4 (crcN (numB 2 s.length)) := by rw [hd2, List.take_left' (numB_len _ _)]
  have hd6 : (frameL s ++ r).drop 6 = s ++ (numB 4 (crcN s) ++ r) := by
    rw [show 6 = 2 + 4 from rfl, ← List.drop_drop, hd2, List.drop_left' (numB_len _ _)]
  have hd6n : (frameL s ++ r).drop (6 + s.length) = numB 4 (crcN s) ++ r := by
    rw [← List.drop_drop, hd6, List.drop_left' rfl]
  have hd10 : (frameL s ++ r).drop (10 + s.length) = r := by
    rw [show 10 + s.length = (6 + s.length) + 4 by omega, ← List.drop_drop, hd6n, List.drop_left' (numB_len _ _)]
  have hv : valA 0 (numB 2 s.length) = s.length := val_num _ _ (by omega)
  have hl : (frameL s ++ r).length = s.length + 10 + r.length := by rw [List.length_append, frameL_len]
  unfold takeF
  rw [if_neg (by omega), h4, h2, crc_num, if_neg (by simp), hv, if_neg (by omega), hd6, List.take_left' rfl, hd6n, List.take_left' (numB_len _ _), crc_num, if_neg (by simp; omega), hd10]
theorem take_none {b : List UInt8} (h : (takeF b).1 ≠ 0) : (takeF b).2.1 = [] ∧ (takeF b).2.2 = [] := by
  revert h
  unfold takeF
  repeat' split
  all_goals simp
/-- A frame that is cut is none. -/
theorem take_cut (s : List UInt8) (h : s.length ≤ 12000) (k : Nat) (hk : k < s.length + 10) : takeF ((frameL s).take k) = (ErrForm, [], []) := by
  have hl : ((frameL s).take k).length = k := by rw [List.length_take, frameL_len]; omega
  unfold takeF
  by_cases h6 : k < 6
  · rw [if_pos (by omega)]
  · have h2 : ((frameL s).take k).take 2 = numB 2 s.length := by
      rw [List.take_take, Nat.min_eq_left (by omega)]
      unfold frameL; rw [List.take_left' (numB_len _ _)]
    have h4 : (((frameL s).take k).drop 2).take 4 = numB 4 (crcN (numB 2 s.length)) := by
      rw [List.drop_take, List.take_take, Nat.min_eq_left (by omega)]
      unfold frameL; rw [List.drop_left' (numB_len _ _), List.take_left' (numB_len _ _)]
    have hv : valA 0 (numB 2 s.length) = s.length := val_num _ _ (by omega)
    rw [if_neg (by omega), h4, h2, crc_num, if_neg (by simp), hv, if_pos (by omega)]
theorem all_false {l : List Bool} (h : true ∉ l) : l = List.replicate l.length false := by
  rw [List.eq_replicate_iff]
  exact ⟨rfl, fun b hb => by
    cases b with
    | false => rfl
    | true => exact absurd hb h⟩
/-- Bits turned among 32 that stand one behind the other leave something. -/
theorem run_near (e : List Bool) (k : Nat) (h : ∀ j (hj : j < e.length), e[j] = true → k ≤ j ∧ j < k + 32) (ht : true ∈ e) : run 0#32 e ≠ 0#32 := by
  have h1 : e = e.take k ++ ((e.drop k).take 32 ++ (e.drop k).drop 32) := by rw [List.take_append_drop, List.take_append_drop]
  have ha : true ∉ e.take k := fun hm => by
    obtain ⟨j, hj, he⟩ := List.getElem_of_mem hm
    rw [List.length_take] at hj
    rw [List.getElem_take] at he
    have := h j (by omega) he
    omega
  have hb : true ∉ (e.drop k).drop 32 := fun hm => by
    obtain ⟨j, hj, he⟩ := List.getElem_of_mem hm
    rw [List.length_drop, List.length_drop] at hj
    rw [List.getElem_drop, List.getElem_drop] at he
    have := h _ (by omega) he
    omega
  have hu : true ∈ (e.drop k).take 32 := by
    rw [h1] at ht
    rcases List.mem_append.1 ht with ht | ht
    · exact absurd ht ha
    · rcases List.mem_append.1 ht with ht | ht
      · exact ht
      · exact absurd ht hb
  rw [h1, all_false ha, all_false hb]
  exact run_mid _ _ _ (by rw [List.length_take]; omega) hu
/-- Bits turned: the sum leaves what the turned bits alone leave in an empty register. -/
theorem run_turn (l e : List Bool) (h : l.length = e.length) (x : BitVec 32) : run x (xorL l e) = run x l ^^^ run 0#32 e := by
  have := run_xor l e x 0#32 h
  rwa [BitVec.xor_zero] at this
end Go.Proofs.Ytldlfmeppcdbbaa.Crc
