/- Two numbers reckoned with, plain. -/
import Derived.Test.YtbdnonphkobkoaaGreatGb
namespace Go.Proofs.YtbdnonphkobkoaaGreat.Fix
open Go.RowKit

theorem two_le {s : ByteArray} (h : s.size ≤ 2) : s.size ≤ maxLen := by unfold maxLen; omega
theorem do_add {a b : Int} (ha : rgt a) (hb : rgt b) : doF ⟨#[43]⟩ a b = withinF (a + b) := by
  unfold doF; rw [sign_add]; dsimp only; rw [if_pos ⟨ha, hb⟩, if_neg (by decide)]; rfl
theorem do_sub {a b : Int} (ha : rgt a) (hb : rgt b) : doF ⟨#[45]⟩ a b = withinF (a - b) := by
  unfold doF; rw [sign_sub]; dsimp only; rw [if_pos ⟨ha, hb⟩, if_neg (by decide)]; rfl
theorem do_mul {a b : Int} (ha : rgt a) (hb : rgt b) : doF ⟨#[42]⟩ a b = withinF (a * b) := by
  unfold doF; rw [sign_mul]; dsimp only; rw [if_pos ⟨ha, hb⟩, if_neg (by decide)]; exact timesF_within a b
theorem do_div {a b : Int} (ha : rgt a) (hb : rgt b) : doF ⟨#[47]⟩ a b = if b = 0 then (0, 5) else (a.tdiv b, 0) := by
  unfold doF; rw [sign_div]; dsimp only; rw [if_pos ⟨ha, hb⟩, if_neg (by decide)]; rfl
theorem do_mod {a b : Int} (ha : rgt a) (hb : rgt b) : doF ⟨#[37]⟩ a b = if b = 0 then (0, 5) else (a.tmod b, 0) := by
  unfold doF; rw [sign_mod]; dsimp only; rw [if_pos ⟨ha, hb⟩, if_neg (by decide)]; rfl
/-- One or none. -/
def oneI (t : Bool) : Int := if t then 1 else 0
theorem cmp_one (t : Bool) : (if t then ((1 : Int), (0 : Int)) else (0, 0)) = (oneI t, 0) := by cases t <;> rfl
theorem do_lt {a b : Int} (ha : rgt a) (hb : rgt b) : doF ⟨#[60]⟩ a b = (oneI (decide (a < b)), 0) := by
  unfold doF; rw [sign_lt]; dsimp only; rw [if_pos ⟨ha, hb⟩, if_pos (by decide), cmp_one]; simp [holdsF]
theorem do_le {a b : Int} (ha : rgt a) (hb : rgt b) : doF ⟨#[60, 61]⟩ a b = (oneI (decide (a ≤ b)), 0) := by
  unfold doF; rw [sign_le]; dsimp only; rw [if_pos ⟨ha, hb⟩, if_pos (by decide), cmp_one]
  congr 2; simp only [holdsF, if_true, Bool.true_and]; rw [Bool.eq_iff_iff]; simp; try omega
theorem do_gt {a b : Int} (ha : rgt a) (hb : rgt b) : doF ⟨#[62]⟩ a b = (oneI (decide (b < a)), 0) := by
  unfold doF; rw [sign_gt]; dsimp only; rw [if_pos ⟨ha, hb⟩, if_pos (by decide), cmp_one]; simp [holdsF]
theorem do_ge {a b : Int} (ha : rgt a) (hb : rgt b) : doF ⟨#[62, 61]⟩ a b = (oneI (decide (b ≤ a)), 0) := by
  unfold doF; rw [sign_ge]; dsimp only; rw [if_pos ⟨ha, hb⟩, if_pos (by decide), cmp_one]
  congr 2; rw [Bool.eq_iff_iff]; simp [holdsF]; try omega
theorem do_eq {a b : Int} (ha : rgt a) (hb : rgt b) : doF ⟨#[61, 61]⟩ a b = (oneI (decide (a = b)), 0) := by
  unfold doF; rw [sign_eq]; dsimp only; rw [if_pos ⟨ha, hb⟩, if_pos (by decide), cmp_one]
  all_goals (try (congr 2; rw [Bool.eq_iff_iff])); try (simp [holdsF]); try rfl
theorem do_ne {a b : Int} (ha : rgt a) (hb : rgt b) : doF ⟨#[33, 61]⟩ a b = (oneI (decide (a ≠ b)), 0) := by
  unfold doF; rw [sign_ne]; dsimp only; rw [if_pos ⟨ha, hb⟩, if_pos (by decide), cmp_one]
  congr 2; rw [Bool.eq_iff_iff]; simp [holdsF]

/-- A call of Do whose answer is known. -/
theorem do_is {s : ByteArray} {a b x y : Int} (hs : s.size ≤ 2) (h : doF s a b = (x, y)) (W : World) : Calls Tryz.prog 106 #[.string s, .int .i64 a, .int .i64 b] W fun e w' => e = .returned (.tuple #[.int .i64 x, .int .i64 y]) ∧ Below W.heap.size W w' := by
  have := do_any s a b W (two_le hs)
  rw [h] at this
  exact this
theorem sub_back {a : Int} (b : Int) (ha : rgt a) : withinF (a + b - b) = (a, 0) := by
  rw [show a + b - b = a by omega]; unfold withinF; rw [if_pos ha]
theorem quot_mul {a b : Int} (ha : rgt a) : rgt (a.tdiv b * b) ∧ a.tdiv b * b + a.tmod b = a := by
  refine ⟨?_, Int.tdiv_mul_add_tmod a b⟩
  have h : (a.tdiv b * b).natAbs ≤ a.natAbs := by rw [Int.natAbs_mul, Int.natAbs_tdiv]; exact Nat.div_mul_le_self _ _
  unfold rgt at ha ⊢; omega
theorem three_one (a b : Int) : oneI (decide (a < b)) + oneI (decide (b < a)) + oneI (decide (a = b)) = 1 := by
  unfold oneI; rcases Int.lt_trichotomy a b with h | h | h
  · simp [h, show ¬ b < a by omega, show a ≠ b by omega]
  · simp [h]
  · simp [h, show ¬ a < b by omega, show a ≠ b by omega]
theorem oneI_bd (t : Bool) : 0 ≤ oneI t ∧ oneI t ≤ 1 := by cases t <;> decide

end Go.Proofs.YtbdnonphkobkoaaGreat.Fix
