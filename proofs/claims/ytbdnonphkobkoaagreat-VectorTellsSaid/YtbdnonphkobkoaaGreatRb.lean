/- Walks: the document's own reckoning of two numbers. -/
import Derived.Test.YtbdnonphkobkoaaGreatRbm
import Derived.Test.YtbdnonphkobkoaaGreatFip
namespace Go.Proofs.YtbdnonphkobkoaaGreat.Fix
open Go.RowKit

set_option maxHeartbeats 2000000 in
set_option maxRecDepth 100000 in
theorem rdo_add {a b : Int} (ha : rgt a) (hb : rgt b) (w : World) : Calls Tryz.prog 49 #[.string ⟨#[43]⟩, .int .i64 a, .int .i64 b] w fun e w' => e = .returned (.tuple #[.int .i64 (withinF (a + b)).1, .int .i64 (withinF (a + b)).2]) ∧ w = w' := by
  have HA := Lib.hid (fun W => value_yes a W ha)
  have HB := Lib.hid (fun W => value_yes b W hb)
  have HO := Lib.hid (fun W => rop_add W)
  have HC := Lib.hid (fun W => rcomp_add W)
  by_cases h : rgt (a + b)
  · have e : withinF (a + b) = (a + b, 0) := by unfold withinF; rw [if_pos h]
    rw [e]
    have HV := Lib.hid (fun W => value_yes (a + b) W h)
    obtain ⟨a1, a2⟩ := ha
    obtain ⟨b1, b2⟩ := hb
    clear e h
    go_enter Tryz.func49, Tryz.ntmps49
    go_wp2_with fail
    refine (HA.out _).mono ?_
    rintro e w' ⟨rfl, rfl⟩
    go_wp2_with fail
    refine (HB.out _).mono ?_
    rintro e w' ⟨rfl, rfl⟩
    go_wp2_with fail
    refine (HO.out _).mono ?_
    rintro e w' ⟨rfl, rfl⟩
    go_wp2_with fail
    refine (HC.out _).mono ?_
    rintro e w' ⟨rfl, rfl⟩
    go_wp2_with fail
    refine (HV.out _).mono ?_
    rintro e w' ⟨rfl, rfl⟩
    go_wp2
    go_ret2
    exact ⟨rfl, rfl⟩
  · have e : withinF (a + b) = (0, 4) := by unfold withinF; rw [if_neg h]
    rw [e]
    have HV := Lib.hid (fun W => value_no (a + b) W h)
    obtain ⟨a1, a2⟩ := ha
    obtain ⟨b1, b2⟩ := hb
    clear e h
    go_enter Tryz.func49, Tryz.ntmps49
    go_wp2_with fail
    refine (HA.out _).mono ?_
    rintro e w' ⟨rfl, rfl⟩
    go_wp2_with fail
    refine (HB.out _).mono ?_
    rintro e w' ⟨rfl, rfl⟩
    go_wp2_with fail
    refine (HO.out _).mono ?_
    rintro e w' ⟨rfl, rfl⟩
    go_wp2_with fail
    refine (HC.out _).mono ?_
    rintro e w' ⟨rfl, rfl⟩
    go_wp2_with fail
    refine (HV.out _).mono ?_
    rintro e w' ⟨rfl, rfl⟩
    go_wp2
    go_ret2
    exact ⟨rfl, rfl⟩

set_option maxHeartbeats 2000000 in
set_option maxRecDepth 100000 in
theorem rdo_sub {a b : Int} (ha : rgt a) (hb : rgt b) (w : World) : Calls Tryz.prog 49 #[.string ⟨#[45]⟩, .int .i64 a, .int .i64 b] w fun e w' => e = .returned (.tuple #[.int .i64 (withinF (a - b)).1, .int .i64 (withinF (a - b)).2]) ∧ w = w' := by
  have HA := Lib.hid (fun W => value_yes a W ha)
  have HB := Lib.hid (fun W => value_yes b W hb)
  have HO := Lib.hid (fun W => rop_sub W)
  have HC := Lib.hid (fun W => rcomp_sub W)
  by_cases h : rgt (a - b)
  · have e : withinF (a - b) = (a - b, 0) := by unfold withinF; rw [if_pos h]
    rw [e]
    have HV := Lib.hid (fun W => value_yes (a - b) W h)
    obtain ⟨a1, a2⟩ := ha
    obtain ⟨b1, b2⟩ := hb
    clear e h
    go_enter Tryz.func49, Tryz.ntmps49
    go_wp2_with fail
    refine (HA.out _).mono ?_
    rintro e w' ⟨rfl, rfl⟩
    go_wp2_with fail
    refine (HB.out _).mono ?_
    rintro e w' ⟨rfl, rfl⟩
    go_wp2_with fail
    refine (HO.out _).mono ?_
    rintro e w' ⟨rfl, rfl⟩
    go_wp2_with fail
    refine (HC.out _).mono ?_
    rintro e w' ⟨rfl, rfl⟩
    go_wp2_with fail
    refine (HV.out _).mono ?_
    rintro e w' ⟨rfl, rfl⟩
    go_wp2
    go_ret2
    exact ⟨rfl, rfl⟩
  · have e : withinF (a - b) = (0, 4) := by unfold withinF; rw [if_neg h]
    rw [e]
    have HV := Lib.hid (fun W => value_no (a - b) W h)
    obtain ⟨a1, a2⟩ := ha
    obtain ⟨b1, b2⟩ := hb
    clear e h
    go_enter Tryz.func49, Tryz.ntmps49
    go_wp2_with fail
    refine (HA.out _).mono ?_
    rintro e w' ⟨rfl, rfl⟩
    go_wp2_with fail
    refine (HB.out _).mono ?_
    rintro e w' ⟨rfl, rfl⟩
    go_wp2_with fail
    refine (HO.out _).mono ?_
    rintro e w' ⟨rfl, rfl⟩
    go_wp2_with fail
    refine (HC.out _).mono ?_
    rintro e w' ⟨rfl, rfl⟩
    go_wp2_with fail
    refine (HV.out _).mono ?_
    rintro e w' ⟨rfl, rfl⟩
    go_wp2
    go_ret2
    exact ⟨rfl, rfl⟩

set_option maxHeartbeats 2000000 in
set_option maxRecDepth 100000 in
theorem rdo_div {a b : Int} (ha : rgt a) (hb : rgt b) (w : World) : Calls Tryz.prog 49 #[.string ⟨#[47]⟩, .int .i64 a, .int .i64 b] w fun e w' => e = .returned (.tuple #[.int .i64 ((if b = 0 then ((0 : Int), (5 : Int)) else (a.tdiv b, 0))).1, .int .i64 ((if b = 0 then ((0 : Int), (5 : Int)) else (a.tdiv b, 0))).2]) ∧ w = w' := by
  have HA := Lib.hid (fun W => value_yes a W ha)
  have HB := Lib.hid (fun W => value_yes b W hb)
  have HO := Lib.hid (fun W => rop_div W)
  have HC := Lib.hid (fun W => rcomp_div W)
  by_cases h0 : b = 0
  · subst h0
    rw [if_pos rfl]
    obtain ⟨a1, a2⟩ := ha
    obtain ⟨b1, b2⟩ := hb
    go_enter Tryz.func49, Tryz.ntmps49
    go_wp2_with fail
    refine (HA.out _).mono ?_
    rintro e w' ⟨rfl, rfl⟩
    go_wp2_with fail
    refine (HB.out _).mono ?_
    rintro e w' ⟨rfl, rfl⟩
    go_wp2_with fail
    refine (HO.out _).mono ?_
    rintro e w' ⟨rfl, rfl⟩
    go_wp2
    go_ret2
    exact ⟨rfl, rfl⟩
  · rw [if_neg h0]
    have t0 : (b == 0) = false := by simpa using h0
    have HV := Lib.hid (fun W => value_yes (a.tdiv b) W (tdiv_rgt b ha))
    obtain ⟨r1, r2⟩ := tdiv_rgt b ha
    obtain ⟨d1, d2⟩ := tdiv_rgt b ha
    have hq := (quot_mul (b := b) ha).1
    have he := Int.tmod_def a b
    rw [Int.mul_comm] at hq
    obtain ⟨q1, q2⟩ := hq
    have HE := Lib.hid he
    obtain ⟨a1, a2⟩ := ha
    obtain ⟨b1, b2⟩ := hb
    clear he

    go_enter Tryz.func49, Tryz.ntmps49
    go_wp2_with fail
    refine (HA.out _).mono ?_
    rintro e w' ⟨rfl, rfl⟩
    go_wp2_with fail
    refine (HB.out _).mono ?_
    rintro e w' ⟨rfl, rfl⟩
    go_wp2_with fail
    refine (HO.out _).mono ?_
    rintro e w' ⟨rfl, rfl⟩
    go_wp2_with fail
    go_wp2_with fail
    refine (HC.out _).mono ?_
    rintro e w' ⟨rfl, rfl⟩
    go_wp2_with fail
    refine (HV.out _).mono ?_
    rintro e w' ⟨rfl, rfl⟩
    go_wp2
    go_ret2
    exact ⟨rfl, rfl⟩

set_option maxHeartbeats 2000000 in
set_option maxRecDepth 100000 in
theorem rdo_mod {a b : Int} (ha : rgt a) (hb : rgt b) (w : World) : Calls Tryz.prog 49 #[.string ⟨#[37]⟩, .int .i64 a, .int .i64 b] w fun e w' => e = .returned (.tuple #[.int .i64 ((if b = 0 then ((0 : Int), (5 : Int)) else (a.tmod b, 0))).1, .int .i64 ((if b = 0 then ((0 : Int), (5 : Int)) else (a.tmod b, 0))).2]) ∧ w = w' := by
  have HA := Lib.hid (fun W => value_yes a W ha)
  have HB := Lib.hid (fun W => value_yes b W hb)
  have HO := Lib.hid (fun W => rop_mod W)
  have HC := Lib.hid (fun W => rcomp_mod W)
  by_cases h0 : b = 0
  · subst h0
    rw [if_pos rfl]
    obtain ⟨a1, a2⟩ := ha
    obtain ⟨b1, b2⟩ := hb
    go_enter Tryz.func49, Tryz.ntmps49
    go_wp2_with fail
    refine (HA.out _).mono ?_
    rintro e w' ⟨rfl, rfl⟩
    go_wp2_with fail
    refine (HB.out _).mono ?_
    rintro e w' ⟨rfl, rfl⟩
    go_wp2_with fail
    refine (HO.out _).mono ?_
    rintro e w' ⟨rfl, rfl⟩
    go_wp2
    go_ret2
    exact ⟨rfl, rfl⟩
  · rw [if_neg h0]
    have t0 : (b == 0) = false := by simpa using h0
    have HV := Lib.hid (fun W => value_yes (a.tmod b) W (tmod_rgt b ha))
    obtain ⟨r1, r2⟩ := tmod_rgt b ha
    obtain ⟨d1, d2⟩ := tdiv_rgt b ha
    have hq := (quot_mul (b := b) ha).1
    have he := Int.tmod_def a b
    rw [Int.mul_comm] at hq
    obtain ⟨q1, q2⟩ := hq
    have HE := Lib.hid he
    obtain ⟨a1, a2⟩ := ha
    obtain ⟨b1, b2⟩ := hb
    clear he
    rw [HE.out] at HV r1 r2 ⊢
    go_enter Tryz.func49, Tryz.ntmps49
    go_wp2_with fail
    refine (HA.out _).mono ?_
    rintro e w' ⟨rfl, rfl⟩
    go_wp2_with fail
    refine (HB.out _).mono ?_
    rintro e w' ⟨rfl, rfl⟩
    go_wp2_with fail
    refine (HO.out _).mono ?_
    rintro e w' ⟨rfl, rfl⟩
    go_wp2_with fail
    go_wp2_with fail
    refine (HC.out _).mono ?_
    rintro e w' ⟨rfl, rfl⟩
    go_wp2_with fail
    refine (HV.out _).mono ?_
    rintro e w' ⟨rfl, rfl⟩
    go_wp2
    go_ret2
    exact ⟨rfl, rfl⟩

set_option maxHeartbeats 2000000 in
set_option maxRecDepth 100000 in
theorem rdo_eq {a b : Int} (ha : rgt a) (hb : rgt b) (w : World) : Calls Tryz.prog 49 #[.string ⟨#[61, 61]⟩, .int .i64 a, .int .i64 b] w fun e w' => e = .returned (.tuple #[.int .i64 ((oneI (decide (a = b)), (0 : Int))).1, .int .i64 ((oneI (decide (a = b)), (0 : Int))).2]) ∧ w = w' := by
  have HA := Lib.hid (fun W => value_yes a W ha)
  have HB := Lib.hid (fun W => value_yes b W hb)
  have HO := Lib.hid (fun W => rop_eq W)
  have HC := Lib.hid (fun W => rcomp_eq W)
  by_cases h : a = b
  · have e : (oneI (decide (a = b)), (0 : Int)) = (1, 0) := by simp [oneI, h]
    rw [e]
    have t1 : (a == b) = true := by simpa using h
    clear e h ha hb
    go_enter Tryz.func49, Tryz.ntmps49
    go_wp2_with fail
    refine (HA.out _).mono ?_
    rintro e w' ⟨rfl, rfl⟩
    go_wp2_with fail
    refine (HB.out _).mono ?_
    rintro e w' ⟨rfl, rfl⟩
    go_wp2_with fail
    refine (HO.out _).mono ?_
    rintro e w' ⟨rfl, rfl⟩
    go_wp2_with fail
    refine (HC.out _).mono ?_
    rintro e w' ⟨rfl, rfl⟩
    go_wp2
    go_ret2
    exact ⟨rfl, rfl⟩
  · have e : (oneI (decide (a = b)), (0 : Int)) = (0, 0) := by simp [oneI, h]
    rw [e]
    have t1 : (a == b) = false := by simpa using h
    clear e h ha hb
    go_enter Tryz.func49, Tryz.ntmps49
    go_wp2_with fail
    refine (HA.out _).mono ?_
    rintro e w' ⟨rfl, rfl⟩
    go_wp2_with fail
    refine (HB.out _).mono ?_
    rintro e w' ⟨rfl, rfl⟩
    go_wp2_with fail
    refine (HO.out _).mono ?_
    rintro e w' ⟨rfl, rfl⟩
    go_wp2_with fail
    refine (HC.out _).mono ?_
    rintro e w' ⟨rfl, rfl⟩
    go_wp2
    go_ret2
    exact ⟨rfl, rfl⟩

set_option maxHeartbeats 2000000 in
set_option maxRecDepth 100000 in
theorem rdo_ne {a b : Int} (ha : rgt a) (hb : rgt b) (w : World) : Calls Tryz.prog 49 #[.string ⟨#[33, 61]⟩, .int .i64 a, .int .i64 b] w fun e w' => e = .returned (.tuple #[.int .i64 ((oneI (decide (a ≠ b)), (0 : Int))).1, .int .i64 ((oneI (decide (a ≠ b)), (0 : Int))).2]) ∧ w = w' := by
  have HA := Lib.hid (fun W => value_yes a W ha)
  have HB := Lib.hid (fun W => value_yes b W hb)
  have HO := Lib.hid (fun W => rop_ne W)
  have HC := Lib.hid (fun W => rcomp_ne W)
  by_cases h : a ≠ b
  · have e : (oneI (decide (a ≠ b)), (0 : Int)) = (1, 0) := by simp [oneI, h]
    rw [e]
    have t1 : (a != b) = true := by simpa using h
    clear e h ha hb
    go_enter Tryz.func49, Tryz.ntmps49
    go_wp2_with fail
    refine (HA.out _).mono ?_
    rintro e w' ⟨rfl, rfl⟩
    go_wp2_with fail
    refine (HB.out _).mono ?_
    rintro e w' ⟨rfl, rfl⟩
    go_wp2_with fail
    refine (HO.out _).mono ?_
    rintro e w' ⟨rfl, rfl⟩
    go_wp2_with fail
    refine (HC.out _).mono ?_
    rintro e w' ⟨rfl, rfl⟩
    go_wp2
    go_ret2
    exact ⟨rfl, rfl⟩
  · have e : (oneI (decide (a ≠ b)), (0 : Int)) = (0, 0) := by simp [oneI, h]
    rw [e]
    have t1 : (a != b) = false := by simpa using h
    clear e h ha hb
    go_enter Tryz.func49, Tryz.ntmps49
    go_wp2_with fail
    refine (HA.out _).mono ?_
    rintro e w' ⟨rfl, rfl⟩
    go_wp2_with fail
    refine (HB.out _).mono ?_
    rintro e w' ⟨rfl, rfl⟩
    go_wp2_with fail
    refine (HO.out _).mono ?_
    rintro e w' ⟨rfl, rfl⟩
    go_wp2_with fail
    refine (HC.out _).mono ?_
    rintro e w' ⟨rfl, rfl⟩
    go_wp2
    go_ret2
    exact ⟨rfl, rfl⟩

set_option maxHeartbeats 2000000 in
set_option maxRecDepth 100000 in
theorem rdo_lt {a b : Int} (ha : rgt a) (hb : rgt b) (w : World) : Calls Tryz.prog 49 #[.string ⟨#[60]⟩, .int .i64 a, .int .i64 b] w fun e w' => e = .returned (.tuple #[.int .i64 ((oneI (decide (a < b)), (0 : Int))).1, .int .i64 ((oneI (decide (a < b)), (0 : Int))).2]) ∧ w = w' := by
  have HA := Lib.hid (fun W => value_yes a W ha)
  have HB := Lib.hid (fun W => value_yes b W hb)
  have HO := Lib.hid (fun W => rop_lt W)
  have HC := Lib.hid (fun W => rcomp_lt W)
  by_cases h : a < b
  · have e : (oneI (decide (a < b)), (0 : Int)) = (1, 0) := by simp [oneI, h]
    rw [e]
    have t1 : decide (a < b) = true := by simpa using h
    clear e h ha hb
    go_enter Tryz.func49, Tryz.ntmps49
    go_wp2_with fail
    refine (HA.out _).mono ?_
    rintro e w' ⟨rfl, rfl⟩
    go_wp2_with fail
    refine (HB.out _).mono ?_
    rintro e w' ⟨rfl, rfl⟩
    go_wp2_with fail
    refine (HO.out _).mono ?_
    rintro e w' ⟨rfl, rfl⟩
    go_wp2_with fail
    refine (HC.out _).mono ?_
    rintro e w' ⟨rfl, rfl⟩
    go_wp2
    go_ret2
    exact ⟨rfl, rfl⟩
  · have e : (oneI (decide (a < b)), (0 : Int)) = (0, 0) := by simp [oneI, h]
    rw [e]
    have t1 : decide (a < b) = false := by simpa using h
    clear e h ha hb
    go_enter Tryz.func49, Tryz.ntmps49
    go_wp2_with fail
    refine (HA.out _).mono ?_
    rintro e w' ⟨rfl, rfl⟩
    go_wp2_with fail
    refine (HB.out _).mono ?_
    rintro e w' ⟨rfl, rfl⟩
    go_wp2_with fail
    refine (HO.out _).mono ?_
    rintro e w' ⟨rfl, rfl⟩
    go_wp2_with fail
    refine (HC.out _).mono ?_
    rintro e w' ⟨rfl, rfl⟩
    go_wp2
    go_ret2
    exact ⟨rfl, rfl⟩

set_option maxHeartbeats 2000000 in
set_option maxRecDepth 100000 in
theorem rdo_le {a b : Int} (ha : rgt a) (hb : rgt b) (w : World) : Calls Tryz.prog 49 #[.string ⟨#[60, 61]⟩, .int .i64 a, .int .i64 b] w fun e w' => e = .returned (.tuple #[.int .i64 ((oneI (decide (a ≤ b)), (0 : Int))).1, .int .i64 ((oneI (decide (a ≤ b)), (0 : Int))).2]) ∧ w = w' := by
  have HA := Lib.hid (fun W => value_yes a W ha)
  have HB := Lib.hid (fun W => value_yes b W hb)
  have HO := Lib.hid (fun W => rop_le W)
  have HC := Lib.hid (fun W => rcomp_le W)
  by_cases h : a ≤ b
  · have e : (oneI (decide (a ≤ b)), (0 : Int)) = (1, 0) := by simp [oneI, h]
    rw [e]
    have t1 : decide (a ≤ b) = true := by simpa using h
    clear e h ha hb
    go_enter Tryz.func49, Tryz.ntmps49
    go_wp2_with fail
    refine (HA.out _).mono ?_
    rintro e w' ⟨rfl, rfl⟩
    go_wp2_with fail
    refine (HB.out _).mono ?_
    rintro e w' ⟨rfl, rfl⟩
    go_wp2_with fail
    refine (HO.out _).mono ?_
    rintro e w' ⟨rfl, rfl⟩
    go_wp2_with fail
    refine (HC.out _).mono ?_
    rintro e w' ⟨rfl, rfl⟩
    go_wp2
    go_ret2
    exact ⟨rfl, rfl⟩
  · have e : (oneI (decide (a ≤ b)), (0 : Int)) = (0, 0) := by simp [oneI, h]
    rw [e]
    have t1 : decide (a ≤ b) = false := by simpa using h
    clear e h ha hb
    go_enter Tryz.func49, Tryz.ntmps49
    go_wp2_with fail
    refine (HA.out _).mono ?_
    rintro e w' ⟨rfl, rfl⟩
    go_wp2_with fail
    refine (HB.out _).mono ?_
    rintro e w' ⟨rfl, rfl⟩
    go_wp2_with fail
    refine (HO.out _).mono ?_
    rintro e w' ⟨rfl, rfl⟩
    go_wp2_with fail
    refine (HC.out _).mono ?_
    rintro e w' ⟨rfl, rfl⟩
    go_wp2
    go_ret2
    exact ⟨rfl, rfl⟩

set_option maxHeartbeats 2000000 in
set_option maxRecDepth 100000 in
theorem rdo_gt {a b : Int} (ha : rgt a) (hb : rgt b) (w : World) : Calls Tryz.prog 49 #[.string ⟨#[62]⟩, .int .i64 a, .int .i64 b] w fun e w' => e = .returned (.tuple #[.int .i64 ((oneI (decide (b < a)), (0 : Int))).1, .int .i64 ((oneI (decide (b < a)), (0 : Int))).2]) ∧ w = w' := by
  have HA := Lib.hid (fun W => value_yes a W ha)
  have HB := Lib.hid (fun W => value_yes b W hb)
  have HO := Lib.hid (fun W => rop_gt W)
  have HC := Lib.hid (fun W => rcomp_gt W)
  by_cases h : b < a
  · have e : (oneI (decide (b < a)), (0 : Int)) = (1, 0) := by simp [oneI, h]
    rw [e]
    have t1 : decide (b < a) = true := by simpa using h
    clear e h ha hb
    go_enter Tryz.func49, Tryz.ntmps49
    go_wp2_with fail
    refine (HA.out _).mono ?_
    rintro e w' ⟨rfl, rfl⟩
    go_wp2_with fail
    refine (HB.out _).mono ?_
    rintro e w' ⟨rfl, rfl⟩
    go_wp2_with fail
    refine (HO.out _).mono ?_
    rintro e w' ⟨rfl, rfl⟩
    go_wp2_with fail
    refine (HC.out _).mono ?_
    rintro e w' ⟨rfl, rfl⟩
    go_wp2
    go_ret2
    exact ⟨rfl, rfl⟩
  · have e : (oneI (decide (b < a)), (0 : Int)) = (0, 0) := by simp [oneI, h]
    rw [e]
    have t1 : decide (b < a) = false := by simpa using h
    clear e h ha hb
    go_enter Tryz.func49, Tryz.ntmps49
    go_wp2_with fail
    refine (HA.out _).mono ?_
    rintro e w' ⟨rfl, rfl⟩
    go_wp2_with fail
    refine (HB.out _).mono ?_
    rintro e w' ⟨rfl, rfl⟩
    go_wp2_with fail
    refine (HO.out _).mono ?_
    rintro e w' ⟨rfl, rfl⟩
    go_wp2_with fail
    refine (HC.out _).mono ?_
    rintro e w' ⟨rfl, rfl⟩
    go_wp2
    go_ret2
    exact ⟨rfl, rfl⟩

set_option maxHeartbeats 2000000 in
set_option maxRecDepth 100000 in
theorem rdo_ge {a b : Int} (ha : rgt a) (hb : rgt b) (w : World) : Calls Tryz.prog 49 #[.string ⟨#[62, 61]⟩, .int .i64 a, .int .i64 b] w fun e w' => e = .returned (.tuple #[.int .i64 ((oneI (decide (b ≤ a)), (0 : Int))).1, .int .i64 ((oneI (decide (b ≤ a)), (0 : Int))).2]) ∧ w = w' := by
  have HA := Lib.hid (fun W => value_yes a W ha)
  have HB := Lib.hid (fun W => value_yes b W hb)
  have HO := Lib.hid (fun W => rop_ge W)
  have HC := Lib.hid (fun W => rcomp_ge W)
  by_cases h : b ≤ a
  · have e : (oneI (decide (b ≤ a)), (0 : Int)) = (1, 0) := by simp [oneI, h]
    rw [e]
    have t1 : decide (b ≤ a) = true := by simpa using h
    clear e h ha hb
    go_enter Tryz.func49, Tryz.ntmps49
    go_wp2_with fail
    refine (HA.out _).mono ?_
    rintro e w' ⟨rfl, rfl⟩
    go_wp2_with fail
    refine (HB.out _).mono ?_
    rintro e w' ⟨rfl, rfl⟩
    go_wp2_with fail
    refine (HO.out _).mono ?_
    rintro e w' ⟨rfl, rfl⟩
    go_wp2_with fail
    refine (HC.out _).mono ?_
    rintro e w' ⟨rfl, rfl⟩
    go_wp2
    go_ret2
    exact ⟨rfl, rfl⟩
  · have e : (oneI (decide (b ≤ a)), (0 : Int)) = (0, 0) := by simp [oneI, h]
    rw [e]
    have t1 : decide (b ≤ a) = false := by simpa using h
    clear e h ha hb
    go_enter Tryz.func49, Tryz.ntmps49
    go_wp2_with fail
    refine (HA.out _).mono ?_
    rintro e w' ⟨rfl, rfl⟩
    go_wp2_with fail
    refine (HB.out _).mono ?_
    rintro e w' ⟨rfl, rfl⟩
    go_wp2_with fail
    refine (HO.out _).mono ?_
    rintro e w' ⟨rfl, rfl⟩
    go_wp2_with fail
    refine (HC.out _).mono ?_
    rintro e w' ⟨rfl, rfl⟩
    go_wp2
    go_ret2
    exact ⟨rfl, rfl⟩

set_option maxHeartbeats 1000000 in
theorem rdo_argA (s : ByteArray) {a b : Int} (ha : ¬ rgt a) (w : World) : Calls Tryz.prog 49 #[.string s, .int .i64 a, .int .i64 b] w fun e w' => e = .returned (.tuple #[.int .i64 0, .int .i64 1]) ∧ w = w' := by
  have HA := Lib.hid (fun W => value_no a W ha)
  clear ha
  go_enter Tryz.func49, Tryz.ntmps49
  go_wp2_with fail
  refine (HA.out _).mono ?_
  rintro e w' ⟨rfl, rfl⟩
  go_wp2
  go_ret2
  exact ⟨rfl, rfl⟩
set_option maxHeartbeats 1000000 in
theorem rdo_argB (s : ByteArray) {a b : Int} (ha : rgt a) (hb : ¬ rgt b) (w : World) : Calls Tryz.prog 49 #[.string s, .int .i64 a, .int .i64 b] w fun e w' => e = .returned (.tuple #[.int .i64 0, .int .i64 1]) ∧ w = w' := by
  have HA := Lib.hid (fun W => value_yes a W ha)
  have HB := Lib.hid (fun W => value_no b W hb)
  clear ha hb
  go_enter Tryz.func49, Tryz.ntmps49
  go_wp2_with fail
  refine (HA.out _).mono ?_
  rintro e w' ⟨rfl, rfl⟩
  go_wp2_with fail
  refine (HB.out _).mono ?_
  rintro e w' ⟨rfl, rfl⟩
  go_wp2
  go_ret2
  exact ⟨rfl, rfl⟩
set_option maxHeartbeats 1000000 in
theorem rdo_argS (s : ByteArray) {a b : Int} (ha : rgt a) (hb : rgt b) (hs : NoSign s) (w : World) : Calls Tryz.prog 49 #[.string s, .int .i64 a, .int .i64 b] w fun e w' => e = .returned (.tuple #[.int .i64 0, .int .i64 1]) ∧ w = w' := by
  have HA := Lib.hid (fun W => value_yes a W ha)
  have HB := Lib.hid (fun W => value_yes b W hb)
  have HO := Lib.hid (fun W => rop_none s W hs)
  clear ha hb hs
  go_enter Tryz.func49, Tryz.ntmps49
  go_wp2_with fail
  refine (HA.out _).mono ?_
  rintro e w' ⟨rfl, rfl⟩
  go_wp2_with fail
  refine (HB.out _).mono ?_
  rintro e w' ⟨rfl, rfl⟩
  go_wp2_with fail
  refine (HO.out _).mono ?_
  rintro e w' ⟨rfl, rfl⟩
  go_wp2
  go_ret2
  exact ⟨rfl, rfl⟩

theorem doF_arg (s : ByteArray) {a b : Int} (h : ¬ (rgt a ∧ rgt b)) : doF s a b = (0, 1) := by
  unfold doF; cases signOf s with
  | none => rfl
  | some x => dsimp only; rw [if_neg h]
/-- The document's answer is the program's. -/
theorem rdo_any (s : ByteArray) (a b : Int) (w : World) : Calls Tryz.prog 49 #[.string s, .int .i64 a, .int .i64 b] w fun e w' => e = .returned (.tuple #[.int .i64 (doF s a b).1, .int .i64 (doF s a b).2]) ∧ w = w' := by
  by_cases ha : rgt a
  case neg => rw [doF_arg s (fun h => ha h.1)]; exact rdo_argA s ha w
  by_cases hb : rgt b
  case neg => rw [doF_arg s (fun h => hb h.2)]; exact rdo_argB s ha hb w
  by_cases hs : s ∈ signs
  case neg => rw [doF_none hs]; exact rdo_argS s ha hb (NoSign.of hs) w
  simp only [signs, List.mem_cons, List.not_mem_nil, or_false] at hs
  rcases hs with rfl | rfl | rfl | rfl | rfl | rfl | rfl | rfl | rfl | rfl | rfl
  · rw [do_add ha hb]; exact rdo_add ha hb w
  · rw [do_sub ha hb]; exact rdo_sub ha hb w
  · rw [do_mul ha hb]; exact rdo_mul ha hb w
  · rw [do_div ha hb]; exact rdo_div ha hb w
  · rw [do_mod ha hb]; exact rdo_mod ha hb w
  · rw [do_eq ha hb]; exact rdo_eq ha hb w
  · rw [do_ne ha hb]; exact rdo_ne ha hb w
  · rw [do_lt ha hb]; exact rdo_lt ha hb w
  · rw [do_le ha hb]; exact rdo_le ha hb w
  · rw [do_gt ha hb]; exact rdo_gt ha hb w
  · rw [do_ge ha hb]; exact rdo_ge ha hb w
theorem rcomp_any (s : ByteArray) (w : World) : Calls Tryz.prog 50 #[.string s] w fun e w' => e = .returned (.bool (comparesF s)) ∧ w = w' := by
  by_cases hs : s ∈ signs
  case neg => rw [comparesF_none hs]; exact rcomp_none s w (NoSign.of hs)
  simp only [signs, List.mem_cons, List.not_mem_nil, or_false] at hs
  rcases hs with rfl | rfl | rfl | rfl | rfl | rfl | rfl | rfl | rfl | rfl | rfl
  · rw [comparesF_add]; exact rcomp_add w
  · rw [comparesF_sub]; exact rcomp_sub w
  · rw [comparesF_mul]; exact rcomp_mul w
  · rw [comparesF_div]; exact rcomp_div w
  · rw [comparesF_mod]; exact rcomp_mod w
  · rw [comparesF_eq]; exact rcomp_eq w
  · rw [comparesF_ne]; exact rcomp_ne w
  · rw [comparesF_lt]; exact rcomp_lt w
  · rw [comparesF_le]; exact rcomp_le w
  · rw [comparesF_gt]; exact rcomp_gt w
  · rw [comparesF_ge]; exact rcomp_ge w
end Go.Proofs.YtbdnonphkobkoaaGreat.Fix
