/- Walks: whether a number may be; signs. -/
import Derived.Test.YthbameabfmoibaaGreatW0
import Derived.Test.YthbameabfmoibaaGreatFa
import Derived.OneCell
namespace Go.Proofs.YthbameabfmoibaaGreat
open Go.RowKit

set_option maxHeartbeats 400000 in
theorem right_any (v : Int) (w : World) : Calls Tryz.prog 28 #[.int .i64 v] w fun e w' => e = .returned (.bool (rgtB v)) ∧ w = w' := by
  by_cases h1 : -1000000000000 ≤ v
  · by_cases h2 : v ≤ 1000000000000
    · have H := Lib.hid (show true = rgtB v by unfold rgtB rgt; simp [h1, h2])
      have t1 : decide (-1000000000000 ≤ v) = true := by simpa using h1
      have t2 : decide (v ≤ 1000000000000) = true := by simpa using h2
      go_enter Tryz.func28, Tryz.ntmps28
      go_wp2
      go_ret
      exact ⟨ret_bool H.out, rfl⟩
    · have H := Lib.hid (show false = rgtB v by unfold rgtB rgt; simp [h2])
      have t1 : decide (-1000000000000 ≤ v) = true := by simpa using h1
      have t2 : decide (v ≤ 1000000000000) = false := by simpa using h2
      clear h2
      go_enter Tryz.func28, Tryz.ntmps28
      go_wp2
      go_ret
      exact ⟨ret_bool H.out, rfl⟩
  · have H := Lib.hid (show false = rgtB v by unfold rgtB rgt; simp [h1])
    have t1 : decide (-1000000000000 ≤ v) = false := by simpa using h1
    clear h1
    go_enter Tryz.func28, Tryz.ntmps28
    go_wp2
    go_ret
    exact ⟨ret_bool H.out, rfl⟩

set_option maxHeartbeats 400000 in
theorem value_any (v : Int) (w : World) : Calls Tryz.prog 24 #[.int .i64 v] w fun e w' => e = .returned (.bool (rgtB v)) ∧ w = w' := by
  by_cases h1 : -1000000000000 ≤ v
  · by_cases h2 : v ≤ 1000000000000
    · have H := Lib.hid (show true = rgtB v by unfold rgtB rgt; simp [h1, h2])
      have t1 : decide (-1000000000000 ≤ v) = true := by simpa using h1
      have t2 : decide (v ≤ 1000000000000) = true := by simpa using h2
      go_enter Tryz.func24, Tryz.ntmps24
      go_wp2
      go_ret
      exact ⟨ret_bool H.out, rfl⟩
    · have H := Lib.hid (show false = rgtB v by unfold rgtB rgt; simp [h2])
      have t1 : decide (-1000000000000 ≤ v) = true := by simpa using h1
      have t2 : decide (v ≤ 1000000000000) = false := by simpa using h2
      clear h2
      go_enter Tryz.func24, Tryz.ntmps24
      go_wp2
      go_ret
      exact ⟨ret_bool H.out, rfl⟩
  · have H := Lib.hid (show false = rgtB v by unfold rgtB rgt; simp [h1])
    have t1 : decide (-1000000000000 ≤ v) = false := by simpa using h1
    clear h1
    go_enter Tryz.func24, Tryz.ntmps24
    go_wp2
    go_ret
    exact ⟨ret_bool H.out, rfl⟩

theorem right_yes (v : Int) (w : World) (h : rgt v) : Calls Tryz.prog 28 #[.int .i64 v] w fun e w' => e = .returned (.bool true) ∧ w = w' := by
  have e : rgtB v = true := by simpa [rgtB] using h
  rw [← e]; exact right_any v w
theorem right_no (v : Int) (w : World) (h : ¬ rgt v) : Calls Tryz.prog 28 #[.int .i64 v] w fun e w' => e = .returned (.bool false) ∧ w = w' := by
  have e : rgtB v = false := by simpa [rgtB] using h
  rw [← e]; exact right_any v w
theorem value_yes (v : Int) (w : World) (h : rgt v) : Calls Tryz.prog 24 #[.int .i64 v] w fun e w' => e = .returned (.bool true) ∧ w = w' := by
  have e : rgtB v = true := by simpa [rgtB] using h
  rw [← e]; exact value_any v w
theorem value_no (v : Int) (w : World) (h : ¬ rgt v) : Calls Tryz.prog 24 #[.int .i64 v] w fun e w' => e = .returned (.bool false) ∧ w = w' := by
  have e : rgtB v = false := by simpa [rgtB] using h
  rw [← e]; exact value_any v w

theorem size_any (v : Int) (w : World) (h : rgt v) : Calls Tryz.prog 109 #[.int .i64 v] w fun e w' => e = .returned (.int .i64 (sizeF v)) ∧ w = w' := by
  obtain ⟨h1, h2⟩ := h
  go_enter Tryz.func109, Tryz.ntmps109
  go_wp2
  all_goals (go_ret; exact ⟨ret_int (by unfold sizeF; split <;> omega), rfl⟩)

theorem within_any (v : Int) (w : World) : Calls Tryz.prog 102 #[.int .i64 v] w fun e w' => e = .returned (.tuple #[.int .i64 (withinF v).1, .int .i64 (withinF v).2]) ∧ w = w' := by
  by_cases h : rgt v
  · have e : withinF v = (v, 0) := by unfold withinF; rw [if_pos h]
    rw [e]
    have HR := Lib.hid (fun W => right_yes v W h)
    clear e h
    go_enter Tryz.func102, Tryz.ntmps102
    go_wp2_with fail
    refine (HR.out _).mono ?_
    rintro e w' ⟨rfl, rfl⟩
    go_wp2
    go_ret2
    exact ⟨rfl, rfl⟩
  · have e : withinF v = (0, 4) := by unfold withinF; rw [if_neg h]
    rw [e]
    have HR := Lib.hid (fun W => right_no v W h)
    clear e h
    go_enter Tryz.func102, Tryz.ntmps102
    go_wp2_with fail
    refine (HR.out _).mono ?_
    rintro e w' ⟨rfl, rfl⟩
    go_wp2
    go_ret2
    exact ⟨rfl, rfl⟩
end Go.Proofs.YthbameabfmoibaaGreat
