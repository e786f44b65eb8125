/- The sum of bytes as a register of a machine goes on: plain. -/
import Derived.Test.YtldlfmeppcdbbaaCa
import Derived.Laws.BitsAllLaws
namespace Go.Proofs.Ytldlfmeppcdbbaa.Crc

theorem xor_u32 (x y : BitVec 32) : bits .xor .u32 (x.toNat : Int) (y.toNat : Int) = ((x ^^^ y).toNat : Int) := by
  rw [u32_xor_nat _ _ x.isLt y.isLt, BitVec.toNat_xor]
theorem shl_u32 (x : BitVec 32) : IntKind.u32.wrap ((x.toNat : Int) * 2) = ((x <<< 1).toNat : Int) := by
  have h := x.isLt
  rw [IntKind.wrap_u32, BitVec.toNat_shiftLeft, Nat.shiftLeft_eq]
  omega
theorem shr_u32 (x : BitVec 32) : (x.toNat : Int) / 2147483648 = (x.msb.toNat : Int) := by
  have h := x.isLt
  rw [BitVec.msb_eq_decide]
  by_cases hx : 2 ^ (32 - 1) ≤ x.toNat
  · rw [decide_eq_true hx]; simp only [Bool.toNat_true]; omega
  · rw [decide_eq_false hx]; simp only [Bool.toNat_false]; omega
theorem step_in (x : BitVec 32) (b : Bool) (h : (x.msb ^^ b) = true) : step x b = (x <<< 1) ^^^ poly := by unfold step; rw [if_pos h]
theorem step_out (x : BitVec 32) (b : Bool) (h : (x.msb ^^ b) = false) : step x b = x <<< 1 := by unfold step; rw [h]; rfl
/-- A byte in a register's highest places. -/
def topB (c : UInt8) : BitVec 32 := BitVec.ofNat 32 (c.toNat * 16777216)
theorem topB_nat (c : UInt8) : ((topB c).toNat : Int) = (c.toNat : Int) * 16777216 := by
  have hc : c.toNat < 256 := c.toNat_lt
  unfold topB
  rw [BitVec.toNat_ofNat, Nat.mod_eq_of_lt (by omega)]
  omega
theorem topB_shl (c : UInt8) : topB c = BitVec.ofNat 32 c.toNat <<< 24 := by
  have hc : c.toNat < 256 := c.toNat_lt
  apply BitVec.eq_of_toNat_eq
  unfold topB
  rw [BitVec.toNat_ofNat, BitVec.toNat_shiftLeft, BitVec.toNat_ofNat, Nat.shiftLeft_eq]
  omega
theorem xorL_self : ∀ l : List Bool, xorL l l = List.replicate l.length false
  | [] => rfl
  | a :: l => by rw [xorL, xorL_self l, Bool.xor_self, List.length_cons, List.replicate_succ]
/-- A byte goes in at once, and eight times the highest bit goes out. -/
theorem run_byte (x : BitVec 32) (c : UInt8) : run (x ^^^ topB c) (List.replicate 8 false) = run x (byteBits c) := by
  have h := run_xor (byteBits c) (byteBits c) x (topB c) rfl
  have h0 : run (topB c) (byteBits c) = 0#32 := by
    rw [topB_shl, byteBits, ← bitsOf_nBits _ _ (by omega)]
    exact run_out 8 _ (by omega)
  rw [xorL_self, byteBits, nBits_len] at h
  rw [byteBits] at h0 ⊢
  rw [h, h0, BitVec.xor_zero]
theorem crc_snoc (l : List UInt8) (c : UInt8) : crc (l ++ [c]) = run (crc l) (byteBits c) := by
  unfold crc
  rw [bitsB_app, run_app]
  rw [show bitsB [c] = byteBits c from by unfold bitsB; simp]
theorem crc_nil : crc [] = ones := rfl
theorem run_snoc (x : BitVec 32) (l : List Bool) (b : Bool) : run x (l ++ [b]) = step (run x l) b := by rw [run_app]; rfl
theorem zeros_snoc (x : BitVec 32) (j : Nat) : run x (List.replicate (j + 1) false) = step (run x (List.replicate j false)) false := by
  rw [List.replicate_succ', run_snoc]
theorem nBits_snoc (c : Nat) : ∀ j, j < 8 → (nBits c 8).take (j + 1) = (nBits c 8).take j ++ [c.testBit (7 - j)] := by
  intro j hj
  have : j = 0 ∨ j = 1 ∨ j = 2 ∨ j = 3 ∨ j = 4 ∨ j = 5 ∨ j = 6 ∨ j = 7 := by omega
  rcases this with h | h | h | h | h | h | h | h <;> subst h <;> simp [nBits]
/-- The bits of a byte go in one by one. -/
theorem bits_snoc (x : BitVec 32) (c : UInt8) (j : Nat) (h : j < 8) : run x ((byteBits c).take (j + 1)) = step (run x ((byteBits c).take j)) (c.toNat.testBit (7 - j)) := by
  unfold byteBits
  rw [nBits_snoc _ _ h, run_snoc]
theorem bits_whole (x : BitVec 32) (c : UInt8) : run x ((byteBits c).take 8) = run x (byteBits c) := by
  rw [List.take_of_length_le (by unfold byteBits; rw [nBits_len]; omega)]
theorem and_one (a : Nat) (ha : a < 256) : bits .and .u8 (a : Int) 1 = ((a % 2 : Nat) : Int) := by
  have h := bits_mask .u8 8 (by decide) wraps_u8 1 (by decide) (a : Int) (by omega) (by omega)
  rw [show (2 : Int) ^ 1 - 1 = 1 from rfl] at h
  rw [h]; omega
/-- A bit of a byte, as it is shifted down and cut off. -/
theorem bit_at (c : UInt8) (i : Nat) : bits .and .u8 ((c.toNat / 2 ^ i : Nat) : Int) 1 = ((c.toNat.testBit i).toNat : Int) := by
  have hc : c.toNat < 256 := c.toNat_lt
  have h2 : c.toNat / 2 ^ i ≤ c.toNat := Nat.div_le_self _ _
  rw [and_one _ (by omega), Nat.toNat_testBit]
theorem xor_bit (a b : Bool) : bits .xor .u32 (a.toNat : Int) (b.toNat : Int) = ((a ^^ b).toNat : Int) := by cases a <;> cases b <;> decide
theorem bit_one (a : Bool) : ((a.toNat : Int) = 1) ↔ a = true := by cases a <;> decide
end Go.Proofs.Ytldlfmeppcdbbaa.Crc
