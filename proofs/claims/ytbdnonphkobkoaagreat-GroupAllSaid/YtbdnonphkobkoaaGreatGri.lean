/- Groups: which aggregation it is; the number of a group: walks. -/
import Derived.Test.YtbdnonphkobkoaaGreatGra
import Derived.Test.YtbdnonphkobkoaaGreatGh
import Derived.Test.YtbdnonphkobkoaaGreatGrm
import Derived.Test.YtbdnonphkobkoaaGreatFg
namespace Go.Proofs.YtbdnonphkobkoaaGreat.Grp
open Go.RowKit Go.Lib Go.Sort Vec Fix

/-- The value of an aggregation. -/
def aggV (a : Nat × Int) : Value :=
  match a.1 with
  | 0 => .iface 160 (.agg #[])
  | 1 => .iface 161 (.agg #[])
  | 2 => .iface 162 (.agg #[])
  | 3 => .iface 163 (.agg #[])
  | 4 => .iface 164 (.agg #[])
  | 5 => .iface 166 (.agg #[.int .i64 a.2])
  | _ => .iface 168 (.agg #[.int .i64 a.2])
def numF (a : Nat × Int) (zs : List Int) : Int × Int :=
  match a.1 with
  | 0 => sumF zs
  | 1 => meanF zs
  | 2 => (Win.minL zs, 0)
  | 3 => (Win.maxL zs, 0)
  | 4 => (zs.length, 0)
  | _ => ((rankF a.2 zs).1, 0)

set_option maxHeartbeats 1000000 in
set_option maxRecDepth 100000 in
theorem read0 (n : Int) (w : World) : Calls Tryz.prog 96 #[.string ⟨#[115, 117, 109]⟩, .int .i64 n] w fun e w' => e = .returned (.tuple #[.iface 160 (.agg #[]), .bool true]) ∧ w' = w := by
  go_enter Tryz.func96, Tryz.ntmps96
  go_wp2
  go_ret2
  exact ⟨rfl, rfl⟩

set_option maxHeartbeats 1000000 in
set_option maxRecDepth 100000 in
theorem read1 (n : Int) (w : World) : Calls Tryz.prog 96 #[.string ⟨#[97, 118, 103]⟩, .int .i64 n] w fun e w' => e = .returned (.tuple #[.iface 161 (.agg #[]), .bool true]) ∧ w' = w := by
  go_enter Tryz.func96, Tryz.ntmps96
  go_wp2
  go_ret2
  exact ⟨rfl, rfl⟩

set_option maxHeartbeats 1000000 in
set_option maxRecDepth 100000 in
theorem read2 (n : Int) (w : World) : Calls Tryz.prog 96 #[.string ⟨#[109, 105, 110]⟩, .int .i64 n] w fun e w' => e = .returned (.tuple #[.iface 162 (.agg #[]), .bool true]) ∧ w' = w := by
  go_enter Tryz.func96, Tryz.ntmps96
  go_wp2
  go_ret2
  exact ⟨rfl, rfl⟩

set_option maxHeartbeats 1000000 in
set_option maxRecDepth 100000 in
theorem read3 (n : Int) (w : World) : Calls Tryz.prog 96 #[.string ⟨#[109, 97, 120]⟩, .int .i64 n] w fun e w' => e = .returned (.tuple #[.iface 163 (.agg #[]), .bool true]) ∧ w' = w := by
  go_enter Tryz.func96, Tryz.ntmps96
  go_wp2
  go_ret2
  exact ⟨rfl, rfl⟩

set_option maxHeartbeats 1000000 in
set_option maxRecDepth 100000 in
theorem read4 (n : Int) (w : World) : Calls Tryz.prog 96 #[.string ⟨#[99, 111, 117, 110, 116]⟩, .int .i64 n] w fun e w' => e = .returned (.tuple #[.iface 164 (.agg #[]), .bool true]) ∧ w' = w := by
  go_enter Tryz.func96, Tryz.ntmps96
  go_wp2
  go_ret2
  exact ⟨rfl, rfl⟩

set_option maxHeartbeats 1000000 in
set_option maxRecDepth 100000 in
theorem read5 (n : Int) (w : World) : Calls Tryz.prog 96 #[.string ⟨#[113, 117, 97, 110, 116, 105, 108, 101]⟩, .int .i64 n] w fun e w' => e = .returned (.tuple #[.iface 166 (.agg #[.int .i64 n]), .bool (decide (0 ≤ n ∧ n ≤ 100))]) ∧ w' = w := by
  obtain ⟨D, hD⟩ : ∃ D, decide (0 ≤ n ∧ n ≤ 100) = D := ⟨_, rfl⟩
  rw [hD]
  by_cases h1 : 0 ≤ n
  · by_cases h2 : n ≤ 100
    · have HD := Lib.hid (show true = D from by rw [← hD]; exact (decide_eq_true (And.intro h1 h2)).symm)
      clear hD
      go_enter Tryz.func96, Tryz.ntmps96
      go_wp2
      go_ret2
      exact ⟨congrArg (fun b => Ending.returned (.tuple #[.iface 166 (.agg #[.int .i64 n]), .bool b])) HD.out, rfl⟩
    · have HD := Lib.hid (show false = D from by rw [← hD]; exact (decide_eq_false (fun h => h2 h.2)).symm)
      clear hD
      go_enter Tryz.func96, Tryz.ntmps96
      go_wp2
      go_ret2
      exact ⟨congrArg (fun b => Ending.returned (.tuple #[.iface 166 (.agg #[.int .i64 n]), .bool b])) HD.out, rfl⟩
  · have HD := Lib.hid (show false = D from by rw [← hD]; exact (decide_eq_false (fun h => h1 h.1)).symm)
    clear hD
    go_enter Tryz.func96, Tryz.ntmps96
    go_wp2
    go_ret2
    exact ⟨congrArg (fun b => Ending.returned (.tuple #[.iface 166 (.agg #[.int .i64 n]), .bool b])) HD.out, rfl⟩

set_option maxHeartbeats 1000000 in
set_option maxRecDepth 100000 in
theorem read6 (n : Int) (w : World) : Calls Tryz.prog 96 #[.string ⟨#[116, 111, 112, 107]⟩, .int .i64 n] w fun e w' => e = .returned (.tuple #[.iface 168 (.agg #[.int .i64 n]), .bool (decide (1 ≤ n ∧ n ≤ 2000))]) ∧ w' = w := by
  obtain ⟨D, hD⟩ : ∃ D, decide (1 ≤ n ∧ n ≤ 2000) = D := ⟨_, rfl⟩
  rw [hD]
  by_cases h1 : 1 ≤ n
  · by_cases h2 : n ≤ 2000
    · have HD := Lib.hid (show true = D from by rw [← hD]; exact (decide_eq_true (And.intro h1 h2)).symm)
      clear hD
      go_enter Tryz.func96, Tryz.ntmps96
      go_wp2
      go_ret2
      exact ⟨congrArg (fun b => Ending.returned (.tuple #[.iface 168 (.agg #[.int .i64 n]), .bool b])) HD.out, rfl⟩
    · have HD := Lib.hid (show false = D from by rw [← hD]; exact (decide_eq_false (fun h => h2 h.2)).symm)
      clear hD
      go_enter Tryz.func96, Tryz.ntmps96
      go_wp2
      go_ret2
      exact ⟨congrArg (fun b => Ending.returned (.tuple #[.iface 168 (.agg #[.int .i64 n]), .bool b])) HD.out, rfl⟩
  · have HD := Lib.hid (show false = D from by rw [← hD]; exact (decide_eq_false (fun h => h1 h.1)).symm)
    clear hD
    go_enter Tryz.func96, Tryz.ntmps96
    go_wp2
    go_ret2
    exact ⟨congrArg (fun b => Ending.returned (.tuple #[.iface 168 (.agg #[.int .i64 n]), .bool b])) HD.out, rfl⟩

theorem bytes_ne {s : ByteArray} (l : List UInt8) (h : s ≠ ⟨l.toArray⟩) : (s.toList == l) = false := by
  rw [beq_eq_false_iff_ne, toList_data]
  exact fun e => h (ByteArray.ext (Array.ext' (by simpa using e)))
set_option maxHeartbeats 1000000 in
set_option maxRecDepth 100000 in
theorem read_none (s : ByteArray) (n : Int) (w : World) (h0 : s ≠ ⟨#[115, 117, 109]⟩) (h1 : s ≠ ⟨#[97, 118, 103]⟩) (h2 : s ≠ ⟨#[109, 105, 110]⟩) (h3 : s ≠ ⟨#[109, 97, 120]⟩) (h4 : s ≠ ⟨#[99, 111, 117, 110, 116]⟩) (h5 : s ≠ ⟨#[113, 117, 97, 110, 116, 105, 108, 101]⟩) (h6 : s ≠ ⟨#[116, 111, 112, 107]⟩) : Calls Tryz.prog 96 #[.string s, .int .i64 n] w fun e w' => e = .returned (.tuple #[.nilIface, .bool false]) ∧ w' = w := by
  have u0 := bytes_ne [115, 117, 109] h0
  have t0 := beq_eq_false_iff_ne.1 u0
  have u1 := bytes_ne [97, 118, 103] h1
  have t1 := beq_eq_false_iff_ne.1 u1
  have u2 := bytes_ne [109, 105, 110] h2
  have t2 := beq_eq_false_iff_ne.1 u2
  have u3 := bytes_ne [109, 97, 120] h3
  have t3 := beq_eq_false_iff_ne.1 u3
  have u4 := bytes_ne [99, 111, 117, 110, 116] h4
  have t4 := beq_eq_false_iff_ne.1 u4
  have u5 := bytes_ne [113, 117, 97, 110, 116, 105, 108, 101] h5
  have t5 := beq_eq_false_iff_ne.1 u5
  have u6 := bytes_ne [116, 111, 112, 107] h6
  have t6 := beq_eq_false_iff_ne.1 u6
  clear h0 h1 h2 h3 h4 h5 h6
  go_enter Tryz.func96, Tryz.ntmps96
  go_wp2
  go_ret2
  exact ⟨rfl, rfl⟩
/-- Which aggregation: some value, and whether it may be. -/
theorem read_any (s : ByteArray) (n : Int) (w : World) : Calls Tryz.prog 96 #[.string s, .int .i64 n] w fun e w' => (∃ v, e = .returned (.tuple #[v, .bool (aggF s n).isSome]) ∧ ∀ a, aggF s n = some a → v = aggV a) ∧ w' = w := by
  by_cases h0 : s = ⟨#[115, 117, 109]⟩
  · subst h0
    refine (read0 n w).mono ?_
    rintro e w' ⟨rfl, rfl⟩
    exact ⟨⟨_, rfl, fun a ha => by simp only [aggF] at ha; (try simp at ha); subst ha; rfl⟩, rfl⟩
  by_cases h1 : s = ⟨#[97, 118, 103]⟩
  · subst h1
    refine (read1 n w).mono ?_
    rintro e w' ⟨rfl, rfl⟩
    exact ⟨⟨_, rfl, fun a ha => by simp only [aggF] at ha; (try simp at ha); subst ha; rfl⟩, rfl⟩
  by_cases h2 : s = ⟨#[109, 105, 110]⟩
  · subst h2
    refine (read2 n w).mono ?_
    rintro e w' ⟨rfl, rfl⟩
    exact ⟨⟨_, rfl, fun a ha => by simp only [aggF] at ha; (try simp at ha); subst ha; rfl⟩, rfl⟩
  by_cases h3 : s = ⟨#[109, 97, 120]⟩
  · subst h3
    refine (read3 n w).mono ?_
    rintro e w' ⟨rfl, rfl⟩
    exact ⟨⟨_, rfl, fun a ha => by simp only [aggF] at ha; (try simp at ha); subst ha; rfl⟩, rfl⟩
  by_cases h4 : s = ⟨#[99, 111, 117, 110, 116]⟩
  · subst h4
    refine (read4 n w).mono ?_
    rintro e w' ⟨rfl, rfl⟩
    exact ⟨⟨_, rfl, fun a ha => by simp only [aggF] at ha; (try simp at ha); subst ha; rfl⟩, rfl⟩
  by_cases h5 : s = ⟨#[113, 117, 97, 110, 116, 105, 108, 101]⟩
  · subst h5
    refine (read5 n w).mono ?_
    rintro e w' ⟨rfl, rfl⟩
    by_cases hc : 0 ≤ n ∧ n ≤ 100
    · have e1 : aggF ⟨#[113, 117, 97, 110, 116, 105, 108, 101]⟩ n = some (5, n) := by unfold aggF; simp [hc]
      rw [e1, decide_eq_true hc]
      exact ⟨⟨_, rfl, fun a ha => by cases ha; rfl⟩, rfl⟩
    · have e1 : aggF ⟨#[113, 117, 97, 110, 116, 105, 108, 101]⟩ n = none := by unfold aggF; simp [hc]
      rw [e1, decide_eq_false hc]
      exact ⟨⟨_, rfl, fun a ha => by cases ha⟩, rfl⟩
  by_cases h6 : s = ⟨#[116, 111, 112, 107]⟩
  · subst h6
    refine (read6 n w).mono ?_
    rintro e w' ⟨rfl, rfl⟩
    by_cases hc : 1 ≤ n ∧ n ≤ 2000
    · have e1 : aggF ⟨#[116, 111, 112, 107]⟩ n = some (6, n) := by unfold aggF; simp [hc]
      rw [e1, decide_eq_true hc]
      exact ⟨⟨_, rfl, fun a ha => by cases ha; rfl⟩, rfl⟩
    · have e1 : aggF ⟨#[116, 111, 112, 107]⟩ n = none := by unfold aggF; simp [hc]
      rw [e1, decide_eq_false hc]
      exact ⟨⟨_, rfl, fun a ha => by cases ha⟩, rfl⟩
  have e1 : aggF s n = none := by unfold aggF; rw [if_neg h0, if_neg h1, if_neg h2, if_neg h3, if_neg h4, if_neg h5, if_neg h6]
  refine (read_none s n w h0 h1 h2 h3 h4 h5 h6).mono ?_
  rintro e w' ⟨rfl, rfl⟩
  rw [e1]
  exact ⟨⟨_, rfl, fun a ha => by cases ha⟩, rfl⟩
theorem ga0_0 (_p : Int) (W : World) : (Instr.typeAssert (.iface 160 (.agg #[])) 109 160 true).run Tryz.prog W = .ok (.tuple #[.agg #[], .bool true]) W := by kernel_rfl
theorem ga0_1 (_p : Int) (W : World) : (Instr.typeAssert (.iface 160 (.agg #[])) 109 161 true).run Tryz.prog W = .ok (.tuple #[.agg #[], .bool false]) W := by kernel_rfl
theorem ga0_2 (_p : Int) (W : World) : (Instr.typeAssert (.iface 160 (.agg #[])) 109 162 true).run Tryz.prog W = .ok (.tuple #[.agg #[], .bool false]) W := by kernel_rfl
theorem ga0_3 (_p : Int) (W : World) : (Instr.typeAssert (.iface 160 (.agg #[])) 109 163 true).run Tryz.prog W = .ok (.tuple #[.agg #[], .bool false]) W := by kernel_rfl
theorem ga0_4 (_p : Int) (W : World) : (Instr.typeAssert (.iface 160 (.agg #[])) 109 164 true).run Tryz.prog W = .ok (.tuple #[.agg #[], .bool false]) W := by kernel_rfl
theorem ga0_5 (_p : Int) (W : World) : (Instr.typeAssert (.iface 160 (.agg #[])) 109 166 true).run Tryz.prog W = .ok (.tuple #[.agg #[.int .i64 0], .bool false]) W := by kernel_rfl
theorem ga0_6 (_p : Int) (W : World) : (Instr.typeAssert (.iface 160 (.agg #[])) 109 168 true).run Tryz.prog W = .ok (.tuple #[.agg #[.int .i64 0], .bool false]) W := by kernel_rfl
theorem ga1_0 (_p : Int) (W : World) : (Instr.typeAssert (.iface 161 (.agg #[])) 109 160 true).run Tryz.prog W = .ok (.tuple #[.agg #[], .bool false]) W := by kernel_rfl
theorem ga1_1 (_p : Int) (W : World) : (Instr.typeAssert (.iface 161 (.agg #[])) 109 161 true).run Tryz.prog W = .ok (.tuple #[.agg #[], .bool true]) W := by kernel_rfl
theorem ga1_2 (_p : Int) (W : World) : (Instr.typeAssert (.iface 161 (.agg #[])) 109 162 true).run Tryz.prog W = .ok (.tuple #[.agg #[], .bool false]) W := by kernel_rfl
theorem ga1_3 (_p : Int) (W : World) : (Instr.typeAssert (.iface 161 (.agg #[])) 109 163 true).run Tryz.prog W = .ok (.tuple #[.agg #[], .bool false]) W := by kernel_rfl
theorem ga1_4 (_p : Int) (W : World) : (Instr.typeAssert (.iface 161 (.agg #[])) 109 164 true).run Tryz.prog W = .ok (.tuple #[.agg #[], .bool false]) W := by kernel_rfl
theorem ga1_5 (_p : Int) (W : World) : (Instr.typeAssert (.iface 161 (.agg #[])) 109 166 true).run Tryz.prog W = .ok (.tuple #[.agg #[.int .i64 0], .bool false]) W := by kernel_rfl
theorem ga1_6 (_p : Int) (W : World) : (Instr.typeAssert (.iface 161 (.agg #[])) 109 168 true).run Tryz.prog W = .ok (.tuple #[.agg #[.int .i64 0], .bool false]) W := by kernel_rfl
theorem ga2_0 (_p : Int) (W : World) : (Instr.typeAssert (.iface 162 (.agg #[])) 109 160 true).run Tryz.prog W = .ok (.tuple #[.agg #[], .bool false]) W := by kernel_rfl
theorem ga2_1 (_p : Int) (W : World) : (Instr.typeAssert (.iface 162 (.agg #[])) 109 161 true).run Tryz.prog W = .ok (.tuple #[.agg #[], .bool false]) W := by kernel_rfl
theorem ga2_2 (_p : Int) (W : World) : (Instr.typeAssert (.iface 162 (.agg #[])) 109 162 true).run Tryz.prog W = .ok (.tuple #[.agg #[], .bool true]) W := by kernel_rfl
theorem ga2_3 (_p : Int) (W : World) : (Instr.typeAssert (.iface 162 (.agg #[])) 109 163 true).run Tryz.prog W = .ok (.tuple #[.agg #[], .bool false]) W := by kernel_rfl
theorem ga2_4 (_p : Int) (W : World) : (Instr.typeAssert (.iface 162 (.agg #[])) 109 164 true).run Tryz.prog W = .ok (.tuple #[.agg #[], .bool false]) W := by kernel_rfl
theorem ga2_5 (_p : Int) (W : World) : (Instr.typeAssert (.iface 162 (.agg #[])) 109 166 true).run Tryz.prog W = .ok (.tuple #[.agg #[.int .i64 0], .bool false]) W := by kernel_rfl
theorem ga2_6 (_p : Int) (W : World) : (Instr.typeAssert (.iface 162 (.agg #[])) 109 168 true).run Tryz.prog W = .ok (.tuple #[.agg #[.int .i64 0], .bool false]) W := by kernel_rfl
theorem ga3_0 (_p : Int) (W : World) : (Instr.typeAssert (.iface 163 (.agg #[])) 109 160 true).run Tryz.prog W = .ok (.tuple #[.agg #[], .bool false]) W := by kernel_rfl
theorem ga3_1 (_p : Int) (W : World) : (Instr.typeAssert (.iface 163 (.agg #[])) 109 161 true).run Tryz.prog W = .ok (.tuple #[.agg #[], .bool false]) W := by kernel_rfl
theorem ga3_2 (_p : Int) (W : World) : (Instr.typeAssert (.iface 163 (.agg #[])) 109 162 true).run Tryz.prog W = .ok (.tuple #[.agg #[], .bool false]) W := by kernel_rfl
theorem ga3_3 (_p : Int) (W : World) : (Instr.typeAssert (.iface 163 (.agg #[])) 109 163 true).run Tryz.prog W = .ok (.tuple #[.agg #[], .bool true]) W := by kernel_rfl
theorem ga3_4 (_p : Int) (W : World) : (Instr.typeAssert (.iface 163 (.agg #[])) 109 164 true).run Tryz.prog W = .ok (.tuple #[.agg #[], .bool false]) W := by kernel_rfl
theorem ga3_5 (_p : Int) (W : World) : (Instr.typeAssert (.iface 163 (.agg #[])) 109 166 true).run Tryz.prog W = .ok (.tuple #[.agg #[.int .i64 0], .bool false]) W := by kernel_rfl
theorem ga3_6 (_p : Int) (W : World) : (Instr.typeAssert (.iface 163 (.agg #[])) 109 168 true).run Tryz.prog W = .ok (.tuple #[.agg #[.int .i64 0], .bool false]) W := by kernel_rfl
theorem ga4_0 (_p : Int) (W : World) : (Instr.typeAssert (.iface 164 (.agg #[])) 109 160 true).run Tryz.prog W = .ok (.tuple #[.agg #[], .bool false]) W := by kernel_rfl
theorem ga4_1 (_p : Int) (W : World) : (Instr.typeAssert (.iface 164 (.agg #[])) 109 161 true).run Tryz.prog W = .ok (.tuple #[.agg #[], .bool false]) W := by kernel_rfl
theorem ga4_2 (_p : Int) (W : World) : (Instr.typeAssert (.iface 164 (.agg #[])) 109 162 true).run Tryz.prog W = .ok (.tuple #[.agg #[], .bool false]) W := by kernel_rfl
theorem ga4_3 (_p : Int) (W : World) : (Instr.typeAssert (.iface 164 (.agg #[])) 109 163 true).run Tryz.prog W = .ok (.tuple #[.agg #[], .bool false]) W := by kernel_rfl
theorem ga4_4 (_p : Int) (W : World) : (Instr.typeAssert (.iface 164 (.agg #[])) 109 164 true).run Tryz.prog W = .ok (.tuple #[.agg #[], .bool true]) W := by kernel_rfl
theorem ga4_5 (_p : Int) (W : World) : (Instr.typeAssert (.iface 164 (.agg #[])) 109 166 true).run Tryz.prog W = .ok (.tuple #[.agg #[.int .i64 0], .bool false]) W := by kernel_rfl
theorem ga4_6 (_p : Int) (W : World) : (Instr.typeAssert (.iface 164 (.agg #[])) 109 168 true).run Tryz.prog W = .ok (.tuple #[.agg #[.int .i64 0], .bool false]) W := by kernel_rfl
theorem ga5_0 (p : Int) (W : World) : (Instr.typeAssert (.iface 166 (.agg #[.int .i64 p])) 109 160 true).run Tryz.prog W = .ok (.tuple #[.agg #[], .bool false]) W := by kernel_rfl
theorem ga5_1 (p : Int) (W : World) : (Instr.typeAssert (.iface 166 (.agg #[.int .i64 p])) 109 161 true).run Tryz.prog W = .ok (.tuple #[.agg #[], .bool false]) W := by kernel_rfl
theorem ga5_2 (p : Int) (W : World) : (Instr.typeAssert (.iface 166 (.agg #[.int .i64 p])) 109 162 true).run Tryz.prog W = .ok (.tuple #[.agg #[], .bool false]) W := by kernel_rfl
theorem ga5_3 (p : Int) (W : World) : (Instr.typeAssert (.iface 166 (.agg #[.int .i64 p])) 109 163 true).run Tryz.prog W = .ok (.tuple #[.agg #[], .bool false]) W := by kernel_rfl
theorem ga5_4 (p : Int) (W : World) : (Instr.typeAssert (.iface 166 (.agg #[.int .i64 p])) 109 164 true).run Tryz.prog W = .ok (.tuple #[.agg #[], .bool false]) W := by kernel_rfl
theorem ga5_5 (p : Int) (W : World) : (Instr.typeAssert (.iface 166 (.agg #[.int .i64 p])) 109 166 true).run Tryz.prog W = .ok (.tuple #[.agg #[.int .i64 p], .bool true]) W := by kernel_rfl
theorem ga5_6 (p : Int) (W : World) : (Instr.typeAssert (.iface 166 (.agg #[.int .i64 p])) 109 168 true).run Tryz.prog W = .ok (.tuple #[.agg #[.int .i64 0], .bool false]) W := by kernel_rfl
theorem ga6_0 (p : Int) (W : World) : (Instr.typeAssert (.iface 168 (.agg #[.int .i64 p])) 109 160 true).run Tryz.prog W = .ok (.tuple #[.agg #[], .bool false]) W := by kernel_rfl
theorem ga6_1 (p : Int) (W : World) : (Instr.typeAssert (.iface 168 (.agg #[.int .i64 p])) 109 161 true).run Tryz.prog W = .ok (.tuple #[.agg #[], .bool false]) W := by kernel_rfl
theorem ga6_2 (p : Int) (W : World) : (Instr.typeAssert (.iface 168 (.agg #[.int .i64 p])) 109 162 true).run Tryz.prog W = .ok (.tuple #[.agg #[], .bool false]) W := by kernel_rfl
theorem ga6_3 (p : Int) (W : World) : (Instr.typeAssert (.iface 168 (.agg #[.int .i64 p])) 109 163 true).run Tryz.prog W = .ok (.tuple #[.agg #[], .bool false]) W := by kernel_rfl
theorem ga6_4 (p : Int) (W : World) : (Instr.typeAssert (.iface 168 (.agg #[.int .i64 p])) 109 164 true).run Tryz.prog W = .ok (.tuple #[.agg #[], .bool false]) W := by kernel_rfl
theorem ga6_5 (p : Int) (W : World) : (Instr.typeAssert (.iface 168 (.agg #[.int .i64 p])) 109 166 true).run Tryz.prog W = .ok (.tuple #[.agg #[.int .i64 0], .bool false]) W := by kernel_rfl
theorem ga6_6 (p : Int) (W : World) : (Instr.typeAssert (.iface 168 (.agg #[.int .i64 p])) 109 168 true).run Tryz.prog W = .ok (.tuple #[.agg #[.int .i64 p], .bool true]) W := by kernel_rfl

set_option maxHeartbeats 2000000 in
set_option maxRecDepth 100000 in
theorem number0 (p : Int) (o : Option Addr) (n cap : Nat) (zs : List Int) (w : World) (hn : zs.length = n) (hm : n ≤ 1000) (_h0 : zs ≠ []) (hS : SeesI w o zs) :
    Calls Tryz.prog 136 #[.iface 160 (.agg #[]), .slice o n cap] w fun e w' => e = .returned (.tuple #[.int .i64 (numF (0, p) zs).1, .int .i64 (numF (0, p) zs).2]) ∧ Below w.heap.size w w' := by
  subst hn
  have HC := Lib.hid (fun W (hb : Below w.heap.size w W) => sum_any o cap zs W (by unfold maxLen; omega) (hS.below hb))
  obtain ⟨r, hr⟩ : ∃ r, numF (0, p) zs = r := ⟨_, rfl⟩
  have hr2 : sumF zs = r := hr
  rw [hr2] at HC
  rw [hr]
  generalize zs.length = n at *
  clear hS hr hr2 _h0
  have a0 := ga0_0 p
  go_enter Tryz.func136, Tryz.ntmps136
  go_wp2_with fail
  refine (HC.out _ (by repeat (first | exact Below.refl _ _ | refine Below.alloc ?_ (by simp <;> omega) _))).mono ?_
  rintro e w2 ⟨rfl, rfl⟩
  go_wp2
  go_ret2
  exact ⟨rfl, (by repeat (first | exact Below.refl _ _ | refine Below.alloc ?_ (by simp <;> omega) _))⟩

set_option maxHeartbeats 2000000 in
set_option maxRecDepth 100000 in
theorem number1 (p : Int) (o : Option Addr) (n cap : Nat) (zs : List Int) (w : World) (hn : zs.length = n) (hm : n ≤ 1000) (_h0 : zs ≠ []) (hS : SeesI w o zs) :
    Calls Tryz.prog 136 #[.iface 161 (.agg #[]), .slice o n cap] w fun e w' => e = .returned (.tuple #[.int .i64 (numF (1, p) zs).1, .int .i64 (numF (1, p) zs).2]) ∧ Below w.heap.size w w' := by
  subst hn
  have HC := Lib.hid (fun W (hb : Below w.heap.size w W) => mean_any o cap zs W (by unfold maxLen; omega) (hS.below hb))
  obtain ⟨r, hr⟩ : ∃ r, numF (1, p) zs = r := ⟨_, rfl⟩
  have hr2 : meanF zs = r := hr
  rw [hr2] at HC
  rw [hr]
  generalize zs.length = n at *
  clear hS hr hr2 _h0
  have a0 := ga1_0 p
  have a1 := ga1_1 p
  go_enter Tryz.func136, Tryz.ntmps136
  go_wp2_with fail
  refine (HC.out _ (by repeat (first | exact Below.refl _ _ | refine Below.alloc ?_ (by simp <;> omega) _))).mono ?_
  rintro e w2 ⟨rfl, rfl⟩
  go_wp2
  go_ret2
  exact ⟨rfl, (by repeat (first | exact Below.refl _ _ | refine Below.alloc ?_ (by simp <;> omega) _))⟩

set_option maxHeartbeats 2000000 in
set_option maxRecDepth 100000 in
theorem number2 (p : Int) (o : Option Addr) (n cap : Nat) (zs : List Int) (w : World) (hn : zs.length = n) (hm : n ≤ 1000) (h0 : zs ≠ []) (hS : SeesI w o zs) :
    Calls Tryz.prog 136 #[.iface 162 (.agg #[]), .slice o n cap] w fun e w' => e = .returned (.tuple #[.int .i64 (numF (2, p) zs).1, .int .i64 (numF (2, p) zs).2]) ∧ Below w.heap.size w w' := by
  subst hn
  have HC := Lib.hid (fun W (hb : Below w.heap.size w W) => Win.min_any o cap zs W (by unfold maxLen; omega) h0 (hS.below hb))
  show Calls _ _ _ _ fun e w' => e = .returned (.tuple #[.int .i64 (Win.minL zs), .int .i64 0]) ∧ _
  generalize Win.minL zs = r at *
  generalize zs.length = n at *
  clear hS h0
  have a0 := ga2_0 p
  have a1 := ga2_1 p
  have a2 := ga2_2 p
  go_enter Tryz.func136, Tryz.ntmps136
  go_wp2_with fail
  refine (HC.out _ (by repeat (first | exact Below.refl _ _ | refine Below.alloc ?_ (by simp <;> omega) _))).mono ?_
  rintro e w2 ⟨rfl, rfl⟩
  go_wp2
  go_ret2
  exact ⟨rfl, (by repeat (first | exact Below.refl _ _ | refine Below.alloc ?_ (by simp <;> omega) _))⟩

set_option maxHeartbeats 2000000 in
set_option maxRecDepth 100000 in
theorem number3 (p : Int) (o : Option Addr) (n cap : Nat) (zs : List Int) (w : World) (hn : zs.length = n) (hm : n ≤ 1000) (h0 : zs ≠ []) (hS : SeesI w o zs) :
    Calls Tryz.prog 136 #[.iface 163 (.agg #[]), .slice o n cap] w fun e w' => e = .returned (.tuple #[.int .i64 (numF (3, p) zs).1, .int .i64 (numF (3, p) zs).2]) ∧ Below w.heap.size w w' := by
  subst hn
  have HC := Lib.hid (fun W (hb : Below w.heap.size w W) => Win.max_any o cap zs W (by unfold maxLen; omega) h0 (hS.below hb))
  show Calls _ _ _ _ fun e w' => e = .returned (.tuple #[.int .i64 (Win.maxL zs), .int .i64 0]) ∧ _
  generalize Win.maxL zs = r at *
  generalize zs.length = n at *
  clear hS h0
  have a0 := ga3_0 p
  have a1 := ga3_1 p
  have a2 := ga3_2 p
  have a3 := ga3_3 p
  go_enter Tryz.func136, Tryz.ntmps136
  go_wp2_with fail
  refine (HC.out _ (by repeat (first | exact Below.refl _ _ | refine Below.alloc ?_ (by simp <;> omega) _))).mono ?_
  rintro e w2 ⟨rfl, rfl⟩
  go_wp2
  go_ret2
  exact ⟨rfl, (by repeat (first | exact Below.refl _ _ | refine Below.alloc ?_ (by simp <;> omega) _))⟩

set_option maxHeartbeats 2000000 in
set_option maxRecDepth 100000 in
theorem number4 (p : Int) (o : Option Addr) (n cap : Nat) (zs : List Int) (w : World) (hn : zs.length = n) (hm : n ≤ 1000) (_h0 : zs ≠ []) (_hS : SeesI w o zs) :
    Calls Tryz.prog 136 #[.iface 164 (.agg #[]), .slice o n cap] w fun e w' => e = .returned (.tuple #[.int .i64 (numF (4, p) zs).1, .int .i64 (numF (4, p) zs).2]) ∧ Below w.heap.size w w' := by
  subst hn
  show Calls _ _ _ _ fun e w' => e = .returned (.tuple #[.int .i64 zs.length, .int .i64 0]) ∧ _
  generalize zs.length = n at *
  clear _hS _h0
  have a0 := ga4_0 p
  have a1 := ga4_1 p
  have a2 := ga4_2 p
  have a3 := ga4_3 p
  have a4 := ga4_4 p
  go_enter Tryz.func136, Tryz.ntmps136
  go_wp2
  go_ret2
  exact ⟨rfl, (by repeat (first | exact Below.refl _ _ | refine Below.alloc ?_ (by simp <;> omega) _))⟩

set_option maxHeartbeats 2000000 in
set_option maxRecDepth 100000 in
theorem number5 (p : Int) (o : Option Addr) (n cap : Nat) (zs : List Int) (w : World) (hn : zs.length = n) (hm : n ≤ 1000) (_h0 : zs ≠ []) (hS : SeesI w o zs) :
    Calls Tryz.prog 136 #[.iface 166 (.agg #[.int .i64 p]), .slice o n cap] w fun e w' => e = .returned (.tuple #[.int .i64 (numF (5, p) zs).1, .int .i64 (numF (5, p) zs).2]) ∧ Below w.heap.size w w' := by
  subst hn
  have HC := Lib.hid (fun W (hb : Below w.heap.size w W) => rank_any p o cap zs W hm (hS.below hb))
  show Calls _ _ _ _ fun e w' => e = .returned (.tuple #[.int .i64 (rankF p zs).1, .int .i64 0]) ∧ _
  generalize (rankF p zs).1 = r at *
  generalize (rankF p zs).2 = r2 at *
  generalize zs.length = n at *
  clear hS _h0
  have a0 := ga5_0 p
  have a1 := ga5_1 p
  have a2 := ga5_2 p
  have a3 := ga5_3 p
  have a4 := ga5_4 p
  have a5 := ga5_5 p
  go_enter Tryz.func136, Tryz.ntmps136
  go_wp2_with fail
  refine (HC.out _ (by repeat (first | exact Below.refl _ _ | refine Below.alloc ?_ (by simp <;> omega) _))).mono ?_
  rintro e w2 ⟨rfl, hb2⟩
  have HB2 := Lib.hid (show Below w.heap.size w w2 from by
    refine Below.trans ?_ (hb2.mono ?_)
    · exact (by repeat (first | exact Below.refl _ _ | refine Below.alloc ?_ (by simp <;> omega) _))
    · simp <;> omega)
  clear hb2
  go_wp2
  go_ret2
  exact ⟨rfl, HB2.out⟩
end Go.Proofs.YtbdnonphkobkoaaGreat.Grp
