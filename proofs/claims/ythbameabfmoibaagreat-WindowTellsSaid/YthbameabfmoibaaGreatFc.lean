/- Walks: products, signs. -/
import Derived.Test.YthbameabfmoibaaGreatFb
namespace Go.Proofs.YthbameabfmoibaaGreat
open Go.RowKit

theorem sizeF_abs (v : Int) : sizeF v = v.natAbs := by unfold sizeF; split <;> omega
theorem times_rgt {a b : Int} (h : ¬ (b ≠ 0 ∧ 1000000000000 / sizeF b < sizeF a)) : rgt (a * b) := by
  by_cases hb : b = 0
  · subst hb; rw [Int.mul_zero]; unfold rgt; omega
  · have h2 : ¬ 1000000000000 / sizeF b < sizeF a := fun e => h ⟨hb, e⟩
    have hp : 0 < sizeF b := by rw [sizeF_abs]; omega
    rw [Int.ediv_lt_iff_lt_mul hp] at h2
    rw [sizeF_abs, sizeF_abs, ← Int.natCast_mul, ← Int.natAbs_mul] at h2
    unfold rgt; omega
theorem times_not {a b : Int} (h : b ≠ 0 ∧ 1000000000000 / sizeF b < sizeF a) : ¬ rgt (a * b) := by
  obtain ⟨hb, h2⟩ := h
  have hp : 0 < sizeF b := by rw [sizeF_abs]; omega
  rw [Int.ediv_lt_iff_lt_mul hp] at h2
  rw [sizeF_abs, sizeF_abs, ← Int.natCast_mul, ← Int.natAbs_mul] at h2
  unfold rgt; omega
/-- The product, or that it may not be. -/
theorem timesF_within (a b : Int) : timesF a b = withinF (a * b) := by
  unfold timesF withinF
  by_cases h : b ≠ 0 ∧ 1000000000000 / sizeF b < sizeF a
  · rw [if_pos h, if_neg (times_not h)]
  · rw [if_neg h, if_pos (times_rgt h)]

set_option maxHeartbeats 1000000 in
theorem times_any (a b : Int) (w : World) (ha : rgt a) (hb : rgt b) : Calls Tryz.prog 108 #[.int .i64 a, .int .i64 b] w fun e w' => e = .returned (.tuple #[.int .i64 (timesF a b).1, .int .i64 (timesF a b).2]) ∧ w = w' := by
  have HA := Lib.hid (fun W => size_any a W ha)
  have HB := Lib.hid (fun W => size_any b W hb)
  by_cases h0 : b = 0
  · subst h0
    have e : timesF a 0 = (a * 0, 0) := by unfold timesF; rw [if_neg (by simp)]
    rw [e, Int.mul_zero]
    clear e
    go_enter Tryz.func108, Tryz.ntmps108
    go_wp2
    go_ret2
    exact ⟨by simp, rfl⟩
  · have t0 : (b != 0) = true := by rw [bne_iff_ne]; exact h0
    have p1 : 1 ≤ sizeF b := by rw [sizeF_abs]; omega
    by_cases h1 : 1000000000000 / sizeF b < sizeF a
    · have e : timesF a b = (0, 4) := by unfold timesF; rw [if_pos ⟨h0, h1⟩]
      rw [e]
      have t1 : decide (1000000000000 / sizeF b < sizeF a) = true := by simpa using h1
      clear e h0 ha hb
      go_enter Tryz.func108, Tryz.ntmps108
      go_wp2_with fail
      refine (HA.out _).mono ?_
      rintro e w' ⟨rfl, rfl⟩
      go_wp2_with fail
      refine (HB.out _).mono ?_
      rintro e w' ⟨rfl, rfl⟩
      go_wp2
      go_ret2
      exact ⟨rfl, rfl⟩
    · have hr := times_rgt (a := a) (b := b) (fun h => h1 h.2)
      have e : timesF a b = (a * b, 0) := by unfold timesF; rw [if_neg (fun h => h1 h.2)]
      rw [e]
      obtain ⟨r1, r2⟩ := hr
      have t1 : decide (1000000000000 / sizeF b < sizeF a) = false := by simpa using h1
      clear e h0 h1 ha hb
      go_enter Tryz.func108, Tryz.ntmps108
      go_wp2_with fail
      refine (HA.out _).mono ?_
      rintro e w' ⟨rfl, rfl⟩
      go_wp2_with fail
      refine (HB.out _).mono ?_
      rintro e w' ⟨rfl, rfl⟩
      go_wp2
      go_ret2
      exact ⟨rfl, rfl⟩

set_option maxHeartbeats 1000000 in
theorem reckons_any (f : Int) (q : Bool) (w : World) : Calls Tryz.prog 107 #[.agg #[.int .i32 f, .bool q]] w fun e w' => e = .returned (.bool (reckB f q)) ∧ Below w.heap.size w w' := by
  go_enter Tryz.func107, Tryz.ntmps107
  go_wp2
  all_goals (go_ret; exact ⟨ret_bool (by simp_all [reckB] <;> omega), (Below.refl _ _).alloc (Nat.le_refl _) _⟩)
set_option maxHeartbeats 1000000 in
theorem compares_any (f : Int) (q : Bool) (w : World) : Calls Tryz.prog 104 #[.agg #[.int .i32 f, .bool q]] w fun e w' => e = .returned (.bool (cmpB f q)) ∧ Below w.heap.size w w' := by
  go_enter Tryz.func104, Tryz.ntmps104
  go_wp2
  all_goals (go_ret; exact ⟨ret_bool (by simp_all [cmpB] <;> omega), (Below.refl _ _).alloc (Nat.le_refl _) _⟩)
set_option maxHeartbeats 1000000 in
theorem holds_any (f : Int) (q : Bool) (a b : Int) (w : World) : Calls Tryz.prog 106 #[.agg #[.int .i32 f, .bool q], .int .i64 a, .int .i64 b] w fun e w' => e = .returned (.bool (holdsF f q a b)) ∧ Below w.heap.size w w' := by
  go_enter Tryz.func106, Tryz.ntmps106
  go_wp2
  all_goals (go_ret; exact ⟨ret_bool (by simp_all [holdsF] <;> first | omega | rfl), (Below.refl _ _).alloc (Nat.le_refl _) _⟩)
theorem tdiv_rgt {a : Int} (b : Int) (h : rgt a) : rgt (a.tdiv b) := by
  have h1 := Int.natAbs_tdiv_le_natAbs a b
  unfold rgt at h ⊢; omega
theorem tmod_rgt {a : Int} (b : Int) (h : rgt a) : rgt (a.tmod b) := by
  have h1 : (a.tmod b).natAbs ≤ a.natAbs := by rw [Int.natAbs_tmod]; exact Nat.mod_le _ _
  unfold rgt at h ⊢; omega
set_option maxHeartbeats 1000000 in
theorem reckon_any (f : Int) (q : Bool) (a b : Int) (w : World) (ha : rgt a) (hb : rgt b) : Calls Tryz.prog 105 #[.agg #[.int .i32 f, .bool q], .int .i64 a, .int .i64 b] w fun e w' => e = .returned (.tuple #[.int .i64 (reckF f a b).1, .int .i64 (reckF f a b).2]) ∧ Below w.heap.size w w' := by
  have HT := Lib.hid (fun W => times_any a b W ha hb)
  have HW1 := Lib.hid (fun W => within_any (a + b) W)
  have HW2 := Lib.hid (fun W => within_any (a - b) W)
  obtain ⟨a1, a2⟩ := ha
  obtain ⟨b1, b2⟩ := hb
  by_cases h1 : f = 43
  · subst h1
    go_enter Tryz.func105, Tryz.ntmps105
    go_wp2_with fail
    refine (HW1.out _).mono ?_
    rintro e w' ⟨rfl, rfl⟩
    go_wp2
    go_ret2
    exact ⟨rfl, (Below.refl _ _).alloc (Nat.le_refl _) _⟩
  by_cases h2 : f = 45
  · subst h2
    go_enter Tryz.func105, Tryz.ntmps105
    go_wp2_with fail
    refine (HW2.out _).mono ?_
    rintro e w' ⟨rfl, rfl⟩
    go_wp2
    go_ret2
    exact ⟨rfl, (Below.refl _ _).alloc (Nat.le_refl _) _⟩
  by_cases h3 : f = 42
  · subst h3
    go_enter Tryz.func105, Tryz.ntmps105
    go_wp2_with fail
    refine (HT.out _).mono ?_
    rintro e w' ⟨rfl, rfl⟩
    go_wp2
    go_ret2
    exact ⟨rfl, (Below.refl _ _).alloc (Nat.le_refl _) _⟩
  have t1 : (f == 43) = false := by simpa using h1
  have t2 : (f == 45) = false := by simpa using h2
  have t3 : (f == 42) = false := by simpa using h3
  have HE : Hid (reckF f a b = if b = 0 then (0, 5) else if f = 47 then (a.tdiv b, 0) else (a.tmod b, 0)) := by
    show _ = _
    unfold reckF; rw [if_neg h1, if_neg h2, if_neg h3]
  clear h1 h2 h3
  rw [HE.out]
  by_cases h4 : b = 0
  · subst h4
    rw [if_pos rfl]
    go_enter Tryz.func105, Tryz.ntmps105
    go_wp2
    go_ret2
    exact ⟨rfl, (Below.refl _ _).alloc (Nat.le_refl _) _⟩
  have t4 : (b == 0) = false := by simpa using h4
  rw [if_neg h4]
  by_cases h5 : f = 47
  · subst h5
    rw [if_pos rfl]
    clear HE
    obtain ⟨r1, r2⟩ := tdiv_rgt b ⟨a1, a2⟩
    go_enter Tryz.func105, Tryz.ntmps105
    go_wp2
    go_ret2
    exact ⟨rfl, (Below.refl _ _).alloc (Nat.le_refl _) _⟩
  · have t5 : (f == 47) = false := by simpa using h5
    rw [if_neg h5]
    clear HE h5
    obtain ⟨r1, r2⟩ := tmod_rgt b ⟨a1, a2⟩
    go_enter Tryz.func105, Tryz.ntmps105
    go_wp2
    go_ret2
    exact ⟨rfl, (Below.refl _ _).alloc (Nat.le_refl _) _⟩
end Go.Proofs.YthbameabfmoibaaGreat
