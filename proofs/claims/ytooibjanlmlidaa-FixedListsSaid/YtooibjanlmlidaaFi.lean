/- The walk of the law on sums, products, quotients. -/
import Derived.Test.YtooibjanlmlidaaFh
namespace Go.Proofs.Ytooibjanlmlidaa
open Go.RowKit

theorem two_le {s : ByteArray} (h : s.size ≤ 2) : s.size ≤ maxLen := by unfold maxLen; omega
theorem do_add {a b : Int} (ha : rgt a) (hb : rgt b) : doF ⟨#[43]⟩ a b = withinF (a + b) := by
  unfold doF; rw [sign_add]; dsimp only; rw [if_pos ⟨ha, hb⟩, if_neg (by decide)]; rfl
theorem do_sub {a b : Int} (ha : rgt a) (hb : rgt b) : doF ⟨#[45]⟩ a b = withinF (a - b) := by
  unfold doF; rw [sign_sub]; dsimp only; rw [if_pos ⟨ha, hb⟩, if_neg (by decide)]; rfl
theorem do_mul {a b : Int} (ha : rgt a) (hb : rgt b) : doF ⟨#[42]⟩ a b = withinF (a * b) := by
  unfold doF; rw [sign_mul]; dsimp only; rw [if_pos ⟨ha, hb⟩, if_neg (by decide)]; exact timesF_within a b
theorem do_div {a b : Int} (ha : rgt a) (hb : rgt b) : doF ⟨#[47]⟩ a b = if b = 0 then (0, 5) else (a.tdiv b, 0) := by
  unfold doF; rw [sign_div]; dsimp only; rw [if_pos ⟨ha, hb⟩, if_neg (by decide)]; rfl
theorem do_mod {a b : Int} (ha : rgt a) (hb : rgt b) : doF ⟨#[37]⟩ a b = if b = 0 then (0, 5) else (a.tmod b, 0) := by
  unfold doF; rw [sign_mod]; dsimp only; rw [if_pos ⟨ha, hb⟩, if_neg (by decide)]; rfl
/-- One or none. -/
def oneI (t : Bool) : Int := if t then 1 else 0
theorem cmp_one (t : Bool) : (if t then ((1 : Int), (0 : Int)) else (0, 0)) = (oneI t, 0) := by cases t <;> rfl
theorem do_lt {a b : Int} (ha : rgt a) (hb : rgt b) : doF ⟨#[60]⟩ a b = (oneI (decide (a < b)), 0) := by
  unfold doF; rw [sign_lt]; dsimp only; rw [if_pos ⟨ha, hb⟩, if_pos (by decide), cmp_one]; simp [holdsF]
theorem do_le {a b : Int} (ha : rgt a) (hb : rgt b) : doF ⟨#[60, 61]⟩ a b = (oneI (decide (a ≤ b)), 0) := by
  unfold doF; rw [sign_le]; dsimp only; rw [if_pos ⟨ha, hb⟩, if_pos (by decide), cmp_one]
  congr 2; simp only [holdsF, if_true, Bool.true_and]; rw [Bool.eq_iff_iff]; simp; try omega
theorem do_gt {a b : Int} (ha : rgt a) (hb : rgt b) : doF ⟨#[62]⟩ a b = (oneI (decide (b < a)), 0) := by
  unfold doF; rw [sign_gt]; dsimp only; rw [if_pos ⟨ha, hb⟩, if_pos (by decide), cmp_one]; simp [holdsF]
theorem do_ge {a b : Int} (ha : rgt a) (hb : rgt b) : doF ⟨#[62, 61]⟩ a b = (oneI (decide (b ≤ a)), 0) := by
  unfold doF; rw [sign_ge]; dsimp only; rw [if_pos ⟨ha, hb⟩, if_pos (by decide), cmp_one]
  congr 2; rw [Bool.eq_iff_iff]; simp [holdsF]; try omega
theorem do_eq {a b : Int} (ha : rgt a) (hb : rgt b) : doF ⟨#[61, 61]⟩ a b = (oneI (decide (a = b)), 0) := by
  unfold doF; rw [sign_eq]; dsimp only; rw [if_pos ⟨ha, hb⟩, if_pos (by decide), cmp_one]
  all_goals (try (congr 2; rw [Bool.eq_iff_iff])); try (simp [holdsF]); try rfl
theorem do_ne {a b : Int} (ha : rgt a) (hb : rgt b) : doF ⟨#[33, 61]⟩ a b = (oneI (decide (a ≠ b)), 0) := by
  unfold doF; rw [sign_ne]; dsimp only; rw [if_pos ⟨ha, hb⟩, if_pos (by decide), cmp_one]
  congr 2; rw [Bool.eq_iff_iff]; simp [holdsF]

/-- A call of Do whose answer is known. -/
theorem do_is {s : ByteArray} {a b x y : Int} (hs : s.size ≤ 2) (h : doF s a b = (x, y)) (W : World) : Calls Try.prog 10 #[.string s, .int .i64 a, .int .i64 b] W fun e w' => e = .returned (.tuple #[.int .i64 x, .int .i64 y]) ∧ Below W.heap.size W w' := by
  have := do_any s a b W (two_le hs)
  rw [h] at this
  exact this
theorem sub_back {a : Int} (b : Int) (ha : rgt a) : withinF (a + b - b) = (a, 0) := by
  rw [show a + b - b = a by omega]; unfold withinF; rw [if_pos ha]
theorem quot_mul {a b : Int} (ha : rgt a) : rgt (a.tdiv b * b) ∧ a.tdiv b * b + a.tmod b = a := by
  refine ⟨?_, Int.tdiv_mul_add_tmod a b⟩
  have h : (a.tdiv b * b).natAbs ≤ a.natAbs := by rw [Int.natAbs_mul, Int.natAbs_tdiv]; exact Nat.div_mul_le_self _ _
  unfold rgt at ha ⊢; omega
theorem three_one (a b : Int) : oneI (decide (a < b)) + oneI (decide (b < a)) + oneI (decide (a = b)) = 1 := by
  unfold oneI; rcases Int.lt_trichotomy a b with h | h | h
  · simp [h, show ¬ b < a by omega, show a ≠ b by omega]
  · simp [h]
  · simp [h, show ¬ a < b by omega, show a ≠ b by omega]
theorem oneI_bd (t : Bool) : 0 ≤ oneI t ∧ oneI t ≤ 1 := by cases t <;> decide

set_option maxHeartbeats 4000000 in
set_option maxRecDepth 100000 in
theorem laws_any (a b : Int) (w : World) : Calls Try.prog 5 #[.int .i64 a, .int .i64 b] w fun e w' => e = .returned (.bool true) ∧ Below w.heap.size w w' := by
  have HAL := Lib.hid (fun W => alive_any W)
  by_cases ha : rgt a
  case neg =>
    have HA := Lib.hid (fun W => right_no a W ha)
    clear ha
    go_enter Try.func5, Try.ntmps5
    go_wp2_with fail
    refine (HA.out _).mono ?_
    rintro e w' ⟨rfl, rfl⟩
    go_wp2_with fail
    refine (HAL.out _).mono ?_
    rintro e w1 ⟨rfl, b1⟩
    have HB1 := Lib.hid b1
    clear b1
    go_wp2
    go_ret
    exact ⟨rfl, HB1.out⟩
  by_cases hb : rgt b
  case neg =>
    have HA := Lib.hid (fun W => right_yes a W ha)
    have HB := Lib.hid (fun W => right_no b W hb)
    clear ha hb
    go_enter Try.func5, Try.ntmps5
    go_wp2_with fail
    refine (HA.out _).mono ?_
    rintro e w' ⟨rfl, rfl⟩
    go_wp2_with fail
    refine (HB.out _).mono ?_
    rintro e w' ⟨rfl, rfl⟩
    go_wp2_with fail
    refine (HAL.out _).mono ?_
    rintro e w1 ⟨rfl, b1⟩
    have HB1 := Lib.hid b1
    clear b1
    go_wp2
    go_ret
    exact ⟨rfl, HB1.out⟩
  have HA := Lib.hid (fun W => right_yes a W ha)
  have HB := Lib.hid (fun W => right_yes b W hb)
  obtain ⟨x, y, hxy⟩ : ∃ x y : Int, withinF (a + b) = (x, y) := ⟨_, _, rfl⟩
  obtain ⟨u, v, huv⟩ : ∃ u v : Int, withinF (a * b) = (u, v) := ⟨_, _, rfl⟩
  have H1 := Lib.hid (do_is (s := ⟨#[43]⟩) (by decide) ((do_add ha hb).trans hxy))
  have H2 := Lib.hid (do_is (s := ⟨#[43]⟩) (by decide) ((do_add hb ha).trans ((congrArg withinF (Int.add_comm b a)).trans hxy)))
  have H3 := Lib.hid (do_is (s := ⟨#[42]⟩) (by decide) ((do_mul ha hb).trans huv))
  have H4 := Lib.hid (do_is (s := ⟨#[42]⟩) (by decide) ((do_mul hb ha).trans ((congrArg withinF (Int.mul_comm b a)).trans huv)))
  have H8 := Lib.hid (do_is (s := ⟨#[60]⟩) (by decide) (do_lt ha hb))
  have H9 := Lib.hid (do_is (s := ⟨#[62]⟩) (by decide) (do_gt ha hb))
  have H10 := Lib.hid (do_is (s := ⟨#[61, 61]⟩) (by decide) (do_eq ha hb))
  have HC := Lib.hid (show (y = 0 ∧ x = a + b ∧ rgt x) ∨ (y = 4 ∧ x = 0) by
    unfold withinF at hxy
    by_cases h : rgt (a + b)
    · rw [if_pos h] at hxy; obtain ⟨rfl, rfl⟩ := Prod.mk.inj hxy; exact .inl ⟨rfl, rfl, h⟩
    · rw [if_neg h] at hxy; obtain ⟨rfl, rfl⟩ := Prod.mk.inj hxy; exact .inr ⟨rfl, rfl⟩)
  have hd := do_div ha hb
  have hm := do_mod ha hb
  have HSB := Lib.hid (sub_back b ha)
  clear hxy huv
  by_cases h0 : b = 0

  · subst h0
    rw [if_pos rfl] at hd hm
    have H6 := Lib.hid (do_is (s := ⟨#[47]⟩) (by decide) hd)
    have H7 := Lib.hid (do_is (s := ⟨#[37]⟩) (by decide) hm)
    rcases HC.out with ⟨rfl, hx, hrx⟩ | ⟨rfl, rfl⟩
    · have H5 := Lib.hid (do_is (s := ⟨#[45]⟩) (by decide) ((do_sub hrx hb).trans (show withinF (x - 0) = (a, 0) by subst hx; exact HSB.out)))
      clear hx hrx
      clear HC hb hd hm ha
      go_enter Try.func5, Try.ntmps5
      go_wp2_with fail
      refine (HA.out _).mono ?_
      rintro e w' ⟨rfl, rfl⟩
      go_wp2_with fail
      refine (HB.out _).mono ?_
      rintro e w' ⟨rfl, rfl⟩
      go_wp2_with fail
      refine (HAL.out _).mono ?_
      rintro e w1 ⟨rfl, b1⟩
      have HB1 := Lib.hid b1
      clear b1
      go_wp2_with fail
      refine (H1.out _).mono ?_
      rintro e w2 ⟨rfl, b2⟩
      have HB2 := Lib.hid (HB1.out.trans (b2.mono HB1.out.size))
      clear b2
      go_wp2_with fail
      refine (H2.out _).mono ?_
      rintro e w3 ⟨rfl, b3⟩
      have HB3 := Lib.hid (HB2.out.trans (b3.mono HB2.out.size))
      clear b3
      go_wp2_with fail
      refine (H3.out _).mono ?_
      rintro e w4 ⟨rfl, b4⟩
      have HB4 := Lib.hid (HB3.out.trans (b4.mono HB3.out.size))
      clear b4
      go_wp2_with fail
      refine (H4.out _).mono ?_
      rintro e w5 ⟨rfl, b5⟩
      have HB5 := Lib.hid (HB4.out.trans (b5.mono HB4.out.size))
      clear b5
      go_wp2_with fail
      refine (H5.out _).mono ?_
      rintro e w6 ⟨rfl, b6⟩
      have HB6 := Lib.hid (HB5.out.trans (b6.mono HB5.out.size))
      clear b6
      go_wp2_with fail
      refine (H6.out _).mono ?_
      rintro e w7 ⟨rfl, b7⟩
      have HB7 := Lib.hid (HB6.out.trans (b7.mono HB6.out.size))
      clear b7
      go_wp2_with fail
      refine (H7.out _).mono ?_
      rintro e w8 ⟨rfl, b8⟩
      have HB8 := Lib.hid (HB7.out.trans (b8.mono HB7.out.size))
      clear b8
      go_wp2
      go_ret
      exact ⟨by simp, HB8.out⟩
    · clear HC hb hd hm ha
      go_enter Try.func5, Try.ntmps5
      go_wp2_with fail
      refine (HA.out _).mono ?_
      rintro e w' ⟨rfl, rfl⟩
      go_wp2_with fail
      refine (HB.out _).mono ?_
      rintro e w' ⟨rfl, rfl⟩
      go_wp2_with fail
      refine (HAL.out _).mono ?_
      rintro e w1 ⟨rfl, b1⟩
      have HB1 := Lib.hid b1
      clear b1
      go_wp2_with fail
      refine (H1.out _).mono ?_
      rintro e w2 ⟨rfl, b2⟩
      have HB2 := Lib.hid (HB1.out.trans (b2.mono HB1.out.size))
      clear b2
      go_wp2_with fail
      refine (H2.out _).mono ?_
      rintro e w3 ⟨rfl, b3⟩
      have HB3 := Lib.hid (HB2.out.trans (b3.mono HB2.out.size))
      clear b3
      go_wp2_with fail
      refine (H3.out _).mono ?_
      rintro e w4 ⟨rfl, b4⟩
      have HB4 := Lib.hid (HB3.out.trans (b4.mono HB3.out.size))
      clear b4
      go_wp2_with fail
      refine (H4.out _).mono ?_
      rintro e w5 ⟨rfl, b5⟩
      have HB5 := Lib.hid (HB4.out.trans (b5.mono HB4.out.size))
      clear b5
      go_wp2_with fail
      refine (H6.out _).mono ?_
      rintro e w6 ⟨rfl, b6⟩
      have HB6 := Lib.hid (HB5.out.trans (b6.mono HB5.out.size))
      clear b6
      go_wp2_with fail
      refine (H7.out _).mono ?_
      rintro e w7 ⟨rfl, b7⟩
      have HB7 := Lib.hid (HB6.out.trans (b7.mono HB6.out.size))
      clear b7
      go_wp2
      go_ret
      exact ⟨by simp, HB7.out⟩
  · rw [if_neg h0] at hd hm
    have H6 := Lib.hid (do_is (s := ⟨#[47]⟩) (by decide) hd)
    have H7 := Lib.hid (do_is (s := ⟨#[37]⟩) (by decide) hm)
    obtain ⟨q1, q2⟩ := quot_mul (b := b) ha
    have t3 := three_one a b
    obtain ⟨l1, l2⟩ := oneI_bd (decide (a < b))
    obtain ⟨l3, l4⟩ := oneI_bd (decide (b < a))
    obtain ⟨l5, l6⟩ := oneI_bd (decide (a = b))
    generalize oneI (decide (a < b)) = l at H8 t3 l1 l2
    generalize oneI (decide (b < a)) = m at H9 t3 l3 l4
    generalize oneI (decide (a = b)) = n at H10 t3 l5 l6
    generalize a.tdiv b = q at H6 q1 q2 hd
    generalize a.tmod b = r at H7 q2 hm
    have t4 : (q * b + r == a) = true := by simpa using q2
    have t5 : (l + m + n == 1) = true := by simpa using t3
    have t0 : (b == 0) = false := by simpa using h0
    obtain ⟨q3, q4⟩ := q1
    obtain ⟨a3, a4⟩ := ha
    have i1 : -2000000000000 ≤ q * b + r := by omega
    have i2 : q * b + r ≤ 2000000000000 := by omega
    rcases HC.out with ⟨rfl, hx, hrx⟩ | ⟨rfl, rfl⟩
    · have H5 := Lib.hid (do_is (s := ⟨#[45]⟩) (by decide) ((do_sub hrx hb).trans (show withinF (x - b) = (a, 0) by subst hx; exact HSB.out)))
      clear hx hrx
      clear HC hb hd hm h0 q2 t3
      go_enter Try.func5, Try.ntmps5
      go_wp2_with fail
      refine (HA.out _).mono ?_
      rintro e w' ⟨rfl, rfl⟩
      go_wp2_with fail
      refine (HB.out _).mono ?_
      rintro e w' ⟨rfl, rfl⟩
      go_wp2_with fail
      refine (HAL.out _).mono ?_
      rintro e w1 ⟨rfl, b1⟩
      have HB1 := Lib.hid b1
      clear b1
      go_wp2_with fail
      refine (H1.out _).mono ?_
      rintro e w2 ⟨rfl, b2⟩
      have HB2 := Lib.hid (HB1.out.trans (b2.mono HB1.out.size))
      clear b2
      go_wp2_with fail
      refine (H2.out _).mono ?_
      rintro e w3 ⟨rfl, b3⟩
      have HB3 := Lib.hid (HB2.out.trans (b3.mono HB2.out.size))
      clear b3
      go_wp2_with fail
      refine (H3.out _).mono ?_
      rintro e w4 ⟨rfl, b4⟩
      have HB4 := Lib.hid (HB3.out.trans (b4.mono HB3.out.size))
      clear b4
      go_wp2_with fail
      refine (H4.out _).mono ?_
      rintro e w5 ⟨rfl, b5⟩
      have HB5 := Lib.hid (HB4.out.trans (b5.mono HB4.out.size))
      clear b5
      go_wp2_with fail
      refine (H5.out _).mono ?_
      rintro e w6 ⟨rfl, b6⟩
      have HB6 := Lib.hid (HB5.out.trans (b6.mono HB5.out.size))
      clear b6
      go_wp2_with fail
      refine (H6.out _).mono ?_
      rintro e w7 ⟨rfl, b7⟩
      have HB7 := Lib.hid (HB6.out.trans (b7.mono HB6.out.size))
      clear b7
      go_wp2_with fail
      refine (H7.out _).mono ?_
      rintro e w8 ⟨rfl, b8⟩
      have HB8 := Lib.hid (HB7.out.trans (b8.mono HB7.out.size))
      clear b8
      go_wp2_with fail
      refine (H8.out _).mono ?_
      rintro e w9 ⟨rfl, b9⟩
      have HB9 := Lib.hid (HB8.out.trans (b9.mono HB8.out.size))
      clear b9
      go_wp2_with fail
      refine (H9.out _).mono ?_
      rintro e w10 ⟨rfl, b10⟩
      have HB10 := Lib.hid (HB9.out.trans (b10.mono HB9.out.size))
      clear b10
      go_wp2_with fail
      refine (H10.out _).mono ?_
      rintro e w11 ⟨rfl, b11⟩
      have HB11 := Lib.hid (HB10.out.trans (b11.mono HB10.out.size))
      clear b11
      go_wp2
      go_ret
      exact ⟨by simp, HB11.out⟩
    · clear HC hb hd hm h0 q2 t3
      go_enter Try.func5, Try.ntmps5
      go_wp2_with fail
      refine (HA.out _).mono ?_
      rintro e w' ⟨rfl, rfl⟩
      go_wp2_with fail
      refine (HB.out _).mono ?_
      rintro e w' ⟨rfl, rfl⟩
      go_wp2_with fail
      refine (HAL.out _).mono ?_
      rintro e w1 ⟨rfl, b1⟩
      have HB1 := Lib.hid b1
      clear b1
      go_wp2_with fail
      refine (H1.out _).mono ?_
      rintro e w2 ⟨rfl, b2⟩
      have HB2 := Lib.hid (HB1.out.trans (b2.mono HB1.out.size))
      clear b2
      go_wp2_with fail
      refine (H2.out _).mono ?_
      rintro e w3 ⟨rfl, b3⟩
      have HB3 := Lib.hid (HB2.out.trans (b3.mono HB2.out.size))
      clear b3
      go_wp2_with fail
      refine (H3.out _).mono ?_
      rintro e w4 ⟨rfl, b4⟩
      have HB4 := Lib.hid (HB3.out.trans (b4.mono HB3.out.size))
      clear b4
      go_wp2_with fail
      refine (H4.out _).mono ?_
      rintro e w5 ⟨rfl, b5⟩
      have HB5 := Lib.hid (HB4.out.trans (b5.mono HB4.out.size))
      clear b5
      go_wp2_with fail
      refine (H6.out _).mono ?_
      rintro e w6 ⟨rfl, b6⟩
      have HB6 := Lib.hid (HB5.out.trans (b6.mono HB5.out.size))
      clear b6
      go_wp2_with fail
      refine (H7.out _).mono ?_
      rintro e w7 ⟨rfl, b7⟩
      have HB7 := Lib.hid (HB6.out.trans (b7.mono HB6.out.size))
      clear b7
      go_wp2_with fail
      refine (H8.out _).mono ?_
      rintro e w8 ⟨rfl, b8⟩
      have HB8 := Lib.hid (HB7.out.trans (b8.mono HB7.out.size))
      clear b8
      go_wp2_with fail
      refine (H9.out _).mono ?_
      rintro e w9 ⟨rfl, b9⟩
      have HB9 := Lib.hid (HB8.out.trans (b9.mono HB8.out.size))
      clear b9
      go_wp2_with fail
      refine (H10.out _).mono ?_
      rintro e w10 ⟨rfl, b10⟩
      have HB10 := Lib.hid (HB9.out.trans (b10.mono HB9.out.size))
      clear b10
      go_wp2
      go_ret
      exact ⟨by simp, HB10.out⟩
end Go.Proofs.Ytooibjanlmlidaa