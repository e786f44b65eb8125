/- Walks: which function a name is of. -/
import Derived.Test.YthbameabfmoibaaGreatVc
namespace Go.Proofs.YthbameabfmoibaaGreat.Win
open Go.RowKit Go.Lib

/-- The values that say which function it is. -/
def fnV : Nat → Value
  | 0 => .iface 82 (.agg #[])
  | 1 => .iface 83 (.agg #[])
  | 2 => .iface 84 (.agg #[])
  | 3 => .iface 85 (.agg #[])
  | 4 => .iface 86 (.agg #[])
  | 5 => .iface 87 (.agg #[])
  | 6 => .iface 88 (.agg #[])
  | 7 => .iface 89 (.agg #[])
  | _ => .nilIface

set_option maxHeartbeats 1000000 in
theorem read0 (w : World) : Calls Tryz.prog 21 #[.string ⟨#[115, 117, 109, 95, 111, 118, 101, 114]⟩] w fun e w' => e = .returned (.tuple #[.iface 82 (.agg #[]), .bool true]) ∧ w' = w := by
  go_enter Tryz.func21, Tryz.ntmps21
  go_wp2
  go_ret2
  exact ⟨rfl, rfl⟩

set_option maxHeartbeats 1000000 in
theorem read1 (w : World) : Calls Tryz.prog 21 #[.string ⟨#[109, 105, 110, 95, 111, 118, 101, 114]⟩] w fun e w' => e = .returned (.tuple #[.iface 83 (.agg #[]), .bool true]) ∧ w' = w := by
  go_enter Tryz.func21, Tryz.ntmps21
  go_wp2
  go_ret2
  exact ⟨rfl, rfl⟩

set_option maxHeartbeats 1000000 in
theorem read2 (w : World) : Calls Tryz.prog 21 #[.string ⟨#[109, 97, 120, 95, 111, 118, 101, 114]⟩] w fun e w' => e = .returned (.tuple #[.iface 84 (.agg #[]), .bool true]) ∧ w' = w := by
  go_enter Tryz.func21, Tryz.ntmps21
  go_wp2
  go_ret2
  exact ⟨rfl, rfl⟩

set_option maxHeartbeats 1000000 in
theorem read3 (w : World) : Calls Tryz.prog 21 #[.string ⟨#[99, 111, 117, 110, 116, 95, 111, 118, 101, 114]⟩] w fun e w' => e = .returned (.tuple #[.iface 85 (.agg #[]), .bool true]) ∧ w' = w := by
  go_enter Tryz.func21, Tryz.ntmps21
  go_wp2
  go_ret2
  exact ⟨rfl, rfl⟩

set_option maxHeartbeats 1000000 in
theorem read4 (w : World) : Calls Tryz.prog 21 #[.string ⟨#[97, 118, 103, 95, 111, 118, 101, 114]⟩] w fun e w' => e = .returned (.tuple #[.iface 86 (.agg #[]), .bool true]) ∧ w' = w := by
  go_enter Tryz.func21, Tryz.ntmps21
  go_wp2
  go_ret2
  exact ⟨rfl, rfl⟩

set_option maxHeartbeats 1000000 in
theorem read5 (w : World) : Calls Tryz.prog 21 #[.string ⟨#[108, 97, 115, 116, 95, 111, 118, 101, 114]⟩] w fun e w' => e = .returned (.tuple #[.iface 87 (.agg #[]), .bool true]) ∧ w' = w := by
  go_enter Tryz.func21, Tryz.ntmps21
  go_wp2
  go_ret2
  exact ⟨rfl, rfl⟩

set_option maxHeartbeats 1000000 in
theorem read6 (w : World) : Calls Tryz.prog 21 #[.string ⟨#[105, 110, 99, 114, 101, 97, 115, 101]⟩] w fun e w' => e = .returned (.tuple #[.iface 88 (.agg #[]), .bool true]) ∧ w' = w := by
  go_enter Tryz.func21, Tryz.ntmps21
  go_wp2
  go_ret2
  exact ⟨rfl, rfl⟩

set_option maxHeartbeats 1000000 in
theorem read7 (w : World) : Calls Tryz.prog 21 #[.string ⟨#[114, 97, 116, 101]⟩] w fun e w' => e = .returned (.tuple #[.iface 89 (.agg #[]), .bool true]) ∧ w' = w := by
  go_enter Tryz.func21, Tryz.ntmps21
  go_wp2
  go_ret2
  exact ⟨rfl, rfl⟩

set_option maxHeartbeats 1000000 in
theorem read_none (s : ByteArray) (w : World) (h : NoFn s) : Calls Tryz.prog 21 #[.string s] w fun e w' => e = .returned (.tuple #[.nilIface, .bool false]) ∧ w' = w := by
  obtain ⟨n0, n1, n2, n3, n4, n5, n6, n7⟩ := h
  have t0 := beq_eq_false_iff_ne.2 n0
  have t1 := beq_eq_false_iff_ne.2 n1
  have t2 := beq_eq_false_iff_ne.2 n2
  have t3 := beq_eq_false_iff_ne.2 n3
  have t4 := beq_eq_false_iff_ne.2 n4
  have t5 := beq_eq_false_iff_ne.2 n5
  have t6 := beq_eq_false_iff_ne.2 n6
  have t7 := beq_eq_false_iff_ne.2 n7
  clear n0 n1 n2 n3 n4 n5 n6 n7
  go_enter Tryz.func21, Tryz.ntmps21
  go_wp2
  go_ret2
  exact ⟨rfl, rfl⟩
theorem read_any (s : ByteArray) (w : World) : Calls Tryz.prog 21 #[.string s] w fun e w' => e = .returned (.tuple #[fnV (fnF s), .bool (decide (fnF s < 8))]) ∧ w' = w := by
  rcases fn_cases s with ⟨k, hk, rfl⟩ | ⟨e, hn⟩
  · rw [fn_nm k hk]
    exact eight_cases (p := fun k => Calls Tryz.prog 21 #[.string (nmOf k)] w fun e w' => e = .returned (.tuple #[fnV k, .bool (decide (k < 8))]) ∧ w' = w) (read0 w) (read1 w) (read2 w) (read3 w) (read4 w) (read5 w) (read6 w) (read7 w) k hk
  · rw [e]; exact read_none s w hn

set_option maxHeartbeats 1000000 in
theorem fn_any (s : ByteArray) (w : World) : Calls Tryz.prog 15 #[.string s] w fun e w' => e = .returned (.bool (decide (fnF s < 8))) ∧ w' = w := by
  have HR := Lib.hid (fun W => read_any s W)
  generalize fnV (fnF s) = v at HR
  generalize decide (fnF s < 8) = b at HR ⊢
  go_enter Tryz.func15, Tryz.ntmps15
  go_wp2_with fail
  refine (HR.out _).mono ?_
  rintro e w1 ⟨rfl, rfl⟩
  go_wp2
  go_ret
  exact ⟨rfl, rfl⟩
theorem ta0_0 (W : World) : (Instr.typeAssert (.iface 82 (.agg #[])) 52 82 true).run Tryz.prog W = .ok (.tuple #[.agg #[], .bool true]) W := by kernel_rfl
theorem ta0_1 (W : World) : (Instr.typeAssert (.iface 82 (.agg #[])) 52 83 true).run Tryz.prog W = .ok (.tuple #[.agg #[], .bool false]) W := by kernel_rfl
theorem ta0_2 (W : World) : (Instr.typeAssert (.iface 82 (.agg #[])) 52 84 true).run Tryz.prog W = .ok (.tuple #[.agg #[], .bool false]) W := by kernel_rfl
theorem ta0_3 (W : World) : (Instr.typeAssert (.iface 82 (.agg #[])) 52 85 true).run Tryz.prog W = .ok (.tuple #[.agg #[], .bool false]) W := by kernel_rfl
theorem ta0_4 (W : World) : (Instr.typeAssert (.iface 82 (.agg #[])) 52 86 true).run Tryz.prog W = .ok (.tuple #[.agg #[], .bool false]) W := by kernel_rfl
theorem ta0_5 (W : World) : (Instr.typeAssert (.iface 82 (.agg #[])) 52 87 true).run Tryz.prog W = .ok (.tuple #[.agg #[], .bool false]) W := by kernel_rfl
theorem ta0_6 (W : World) : (Instr.typeAssert (.iface 82 (.agg #[])) 52 88 true).run Tryz.prog W = .ok (.tuple #[.agg #[], .bool false]) W := by kernel_rfl
theorem ta0_7 (W : World) : (Instr.typeAssert (.iface 82 (.agg #[])) 52 89 true).run Tryz.prog W = .ok (.tuple #[.agg #[], .bool false]) W := by kernel_rfl
theorem ta1_0 (W : World) : (Instr.typeAssert (.iface 83 (.agg #[])) 52 82 true).run Tryz.prog W = .ok (.tuple #[.agg #[], .bool false]) W := by kernel_rfl
theorem ta1_1 (W : World) : (Instr.typeAssert (.iface 83 (.agg #[])) 52 83 true).run Tryz.prog W = .ok (.tuple #[.agg #[], .bool true]) W := by kernel_rfl
theorem ta1_2 (W : World) : (Instr.typeAssert (.iface 83 (.agg #[])) 52 84 true).run Tryz.prog W = .ok (.tuple #[.agg #[], .bool false]) W := by kernel_rfl
theorem ta1_3 (W : World) : (Instr.typeAssert (.iface 83 (.agg #[])) 52 85 true).run Tryz.prog W = .ok (.tuple #[.agg #[], .bool false]) W := by kernel_rfl
theorem ta1_4 (W : World) : (Instr.typeAssert (.iface 83 (.agg #[])) 52 86 true).run Tryz.prog W = .ok (.tuple #[.agg #[], .bool false]) W := by kernel_rfl
theorem ta1_5 (W : World) : (Instr.typeAssert (.iface 83 (.agg #[])) 52 87 true).run Tryz.prog W = .ok (.tuple #[.agg #[], .bool false]) W := by kernel_rfl
theorem ta1_6 (W : World) : (Instr.typeAssert (.iface 83 (.agg #[])) 52 88 true).run Tryz.prog W = .ok (.tuple #[.agg #[], .bool false]) W := by kernel_rfl
theorem ta1_7 (W : World) : (Instr.typeAssert (.iface 83 (.agg #[])) 52 89 true).run Tryz.prog W = .ok (.tuple #[.agg #[], .bool false]) W := by kernel_rfl
theorem ta2_0 (W : World) : (Instr.typeAssert (.iface 84 (.agg #[])) 52 82 true).run Tryz.prog W = .ok (.tuple #[.agg #[], .bool false]) W := by kernel_rfl
theorem ta2_1 (W : World) : (Instr.typeAssert (.iface 84 (.agg #[])) 52 83 true).run Tryz.prog W = .ok (.tuple #[.agg #[], .bool false]) W := by kernel_rfl
theorem ta2_2 (W : World) : (Instr.typeAssert (.iface 84 (.agg #[])) 52 84 true).run Tryz.prog W = .ok (.tuple #[.agg #[], .bool true]) W := by kernel_rfl
theorem ta2_3 (W : World) : (Instr.typeAssert (.iface 84 (.agg #[])) 52 85 true).run Tryz.prog W = .ok (.tuple #[.agg #[], .bool false]) W := by kernel_rfl
theorem ta2_4 (W : World) : (Instr.typeAssert (.iface 84 (.agg #[])) 52 86 true).run Tryz.prog W = .ok (.tuple #[.agg #[], .bool false]) W := by kernel_rfl
theorem ta2_5 (W : World) : (Instr.typeAssert (.iface 84 (.agg #[])) 52 87 true).run Tryz.prog W = .ok (.tuple #[.agg #[], .bool false]) W := by kernel_rfl
theorem ta2_6 (W : World) : (Instr.typeAssert (.iface 84 (.agg #[])) 52 88 true).run Tryz.prog W = .ok (.tuple #[.agg #[], .bool false]) W := by kernel_rfl
theorem ta2_7 (W : World) : (Instr.typeAssert (.iface 84 (.agg #[])) 52 89 true).run Tryz.prog W = .ok (.tuple #[.agg #[], .bool false]) W := by kernel_rfl
theorem ta3_0 (W : World) : (Instr.typeAssert (.iface 85 (.agg #[])) 52 82 true).run Tryz.prog W = .ok (.tuple #[.agg #[], .bool false]) W := by kernel_rfl
theorem ta3_1 (W : World) : (Instr.typeAssert (.iface 85 (.agg #[])) 52 83 true).run Tryz.prog W = .ok (.tuple #[.agg #[], .bool false]) W := by kernel_rfl
theorem ta3_2 (W : World) : (Instr.typeAssert (.iface 85 (.agg #[])) 52 84 true).run Tryz.prog W = .ok (.tuple #[.agg #[], .bool false]) W := by kernel_rfl
theorem ta3_3 (W : World) : (Instr.typeAssert (.iface 85 (.agg #[])) 52 85 true).run Tryz.prog W = .ok (.tuple #[.agg #[], .bool true]) W := by kernel_rfl
theorem ta3_4 (W : World) : (Instr.typeAssert (.iface 85 (.agg #[])) 52 86 true).run Tryz.prog W = .ok (.tuple #[.agg #[], .bool false]) W := by kernel_rfl
theorem ta3_5 (W : World) : (Instr.typeAssert (.iface 85 (.agg #[])) 52 87 true).run Tryz.prog W = .ok (.tuple #[.agg #[], .bool false]) W := by kernel_rfl
theorem ta3_6 (W : World) : (Instr.typeAssert (.iface 85 (.agg #[])) 52 88 true).run Tryz.prog W = .ok (.tuple #[.agg #[], .bool false]) W := by kernel_rfl
theorem ta3_7 (W : World) : (Instr.typeAssert (.iface 85 (.agg #[])) 52 89 true).run Tryz.prog W = .ok (.tuple #[.agg #[], .bool false]) W := by kernel_rfl
theorem ta4_0 (W : World) : (Instr.typeAssert (.iface 86 (.agg #[])) 52 82 true).run Tryz.prog W = .ok (.tuple #[.agg #[], .bool false]) W := by kernel_rfl
theorem ta4_1 (W : World) : (Instr.typeAssert (.iface 86 (.agg #[])) 52 83 true).run Tryz.prog W = .ok (.tuple #[.agg #[], .bool false]) W := by kernel_rfl
theorem ta4_2 (W : World) : (Instr.typeAssert (.iface 86 (.agg #[])) 52 84 true).run Tryz.prog W = .ok (.tuple #[.agg #[], .bool false]) W := by kernel_rfl
theorem ta4_3 (W : World) : (Instr.typeAssert (.iface 86 (.agg #[])) 52 85 true).run Tryz.prog W = .ok (.tuple #[.agg #[], .bool false]) W := by kernel_rfl
theorem ta4_4 (W : World) : (Instr.typeAssert (.iface 86 (.agg #[])) 52 86 true).run Tryz.prog W = .ok (.tuple #[.agg #[], .bool true]) W := by kernel_rfl
theorem ta4_5 (W : World) : (Instr.typeAssert (.iface 86 (.agg #[])) 52 87 true).run Tryz.prog W = .ok (.tuple #[.agg #[], .bool false]) W := by kernel_rfl
theorem ta4_6 (W : World) : (Instr.typeAssert (.iface 86 (.agg #[])) 52 88 true).run Tryz.prog W = .ok (.tuple #[.agg #[], .bool false]) W := by kernel_rfl
theorem ta4_7 (W : World) : (Instr.typeAssert (.iface 86 (.agg #[])) 52 89 true).run Tryz.prog W = .ok (.tuple #[.agg #[], .bool false]) W := by kernel_rfl
theorem ta5_0 (W : World) : (Instr.typeAssert (.iface 87 (.agg #[])) 52 82 true).run Tryz.prog W = .ok (.tuple #[.agg #[], .bool false]) W := by kernel_rfl
theorem ta5_1 (W : World) : (Instr.typeAssert (.iface 87 (.agg #[])) 52 83 true).run Tryz.prog W = .ok (.tuple #[.agg #[], .bool false]) W := by kernel_rfl
theorem ta5_2 (W : World) : (Instr.typeAssert (.iface 87 (.agg #[])) 52 84 true).run Tryz.prog W = .ok (.tuple #[.agg #[], .bool false]) W := by kernel_rfl
theorem ta5_3 (W : World) : (Instr.typeAssert (.iface 87 (.agg #[])) 52 85 true).run Tryz.prog W = .ok (.tuple #[.agg #[], .bool false]) W := by kernel_rfl
theorem ta5_4 (W : World) : (Instr.typeAssert (.iface 87 (.agg #[])) 52 86 true).run Tryz.prog W = .ok (.tuple #[.agg #[], .bool false]) W := by kernel_rfl
theorem ta5_5 (W : World) : (Instr.typeAssert (.iface 87 (.agg #[])) 52 87 true).run Tryz.prog W = .ok (.tuple #[.agg #[], .bool true]) W := by kernel_rfl
theorem ta5_6 (W : World) : (Instr.typeAssert (.iface 87 (.agg #[])) 52 88 true).run Tryz.prog W = .ok (.tuple #[.agg #[], .bool false]) W := by kernel_rfl
theorem ta5_7 (W : World) : (Instr.typeAssert (.iface 87 (.agg #[])) 52 89 true).run Tryz.prog W = .ok (.tuple #[.agg #[], .bool false]) W := by kernel_rfl
theorem ta6_0 (W : World) : (Instr.typeAssert (.iface 88 (.agg #[])) 52 82 true).run Tryz.prog W = .ok (.tuple #[.agg #[], .bool false]) W := by kernel_rfl
theorem ta6_1 (W : World) : (Instr.typeAssert (.iface 88 (.agg #[])) 52 83 true).run Tryz.prog W = .ok (.tuple #[.agg #[], .bool false]) W := by kernel_rfl
theorem ta6_2 (W : World) : (Instr.typeAssert (.iface 88 (.agg #[])) 52 84 true).run Tryz.prog W = .ok (.tuple #[.agg #[], .bool false]) W := by kernel_rfl
theorem ta6_3 (W : World) : (Instr.typeAssert (.iface 88 (.agg #[])) 52 85 true).run Tryz.prog W = .ok (.tuple #[.agg #[], .bool false]) W := by kernel_rfl
theorem ta6_4 (W : World) : (Instr.typeAssert (.iface 88 (.agg #[])) 52 86 true).run Tryz.prog W = .ok (.tuple #[.agg #[], .bool false]) W := by kernel_rfl
theorem ta6_5 (W : World) : (Instr.typeAssert (.iface 88 (.agg #[])) 52 87 true).run Tryz.prog W = .ok (.tuple #[.agg #[], .bool false]) W := by kernel_rfl
theorem ta6_6 (W : World) : (Instr.typeAssert (.iface 88 (.agg #[])) 52 88 true).run Tryz.prog W = .ok (.tuple #[.agg #[], .bool true]) W := by kernel_rfl
theorem ta6_7 (W : World) : (Instr.typeAssert (.iface 88 (.agg #[])) 52 89 true).run Tryz.prog W = .ok (.tuple #[.agg #[], .bool false]) W := by kernel_rfl
theorem ta7_0 (W : World) : (Instr.typeAssert (.iface 89 (.agg #[])) 52 82 true).run Tryz.prog W = .ok (.tuple #[.agg #[], .bool false]) W := by kernel_rfl
theorem ta7_1 (W : World) : (Instr.typeAssert (.iface 89 (.agg #[])) 52 83 true).run Tryz.prog W = .ok (.tuple #[.agg #[], .bool false]) W := by kernel_rfl
theorem ta7_2 (W : World) : (Instr.typeAssert (.iface 89 (.agg #[])) 52 84 true).run Tryz.prog W = .ok (.tuple #[.agg #[], .bool false]) W := by kernel_rfl
theorem ta7_3 (W : World) : (Instr.typeAssert (.iface 89 (.agg #[])) 52 85 true).run Tryz.prog W = .ok (.tuple #[.agg #[], .bool false]) W := by kernel_rfl
theorem ta7_4 (W : World) : (Instr.typeAssert (.iface 89 (.agg #[])) 52 86 true).run Tryz.prog W = .ok (.tuple #[.agg #[], .bool false]) W := by kernel_rfl
theorem ta7_5 (W : World) : (Instr.typeAssert (.iface 89 (.agg #[])) 52 87 true).run Tryz.prog W = .ok (.tuple #[.agg #[], .bool false]) W := by kernel_rfl
theorem ta7_6 (W : World) : (Instr.typeAssert (.iface 89 (.agg #[])) 52 88 true).run Tryz.prog W = .ok (.tuple #[.agg #[], .bool false]) W := by kernel_rfl
theorem ta7_7 (W : World) : (Instr.typeAssert (.iface 89 (.agg #[])) 52 89 true).run Tryz.prog W = .ok (.tuple #[.agg #[], .bool true]) W := by kernel_rfl

set_option maxHeartbeats 1000000 in
theorem least0 (w : World) : Calls Tryz.prog 22 #[.iface 82 (.agg #[])] w fun e w' => e = .returned (.int .i64 1) ∧ Below w.heap.size w w' := by
  have a6 := ta0_6
  have a7 := ta0_7
  go_enter Tryz.func22, Tryz.ntmps22
  go_wp2
  go_ret
  exact ⟨rfl, ((Below.refl _ _).alloc (Nat.le_refl _) _).alloc (by simp) _⟩

set_option maxHeartbeats 1000000 in
theorem least1 (w : World) : Calls Tryz.prog 22 #[.iface 83 (.agg #[])] w fun e w' => e = .returned (.int .i64 1) ∧ Below w.heap.size w w' := by
  have a6 := ta1_6
  have a7 := ta1_7
  go_enter Tryz.func22, Tryz.ntmps22
  go_wp2
  go_ret
  exact ⟨rfl, ((Below.refl _ _).alloc (Nat.le_refl _) _).alloc (by simp) _⟩

set_option maxHeartbeats 1000000 in
theorem least2 (w : World) : Calls Tryz.prog 22 #[.iface 84 (.agg #[])] w fun e w' => e = .returned (.int .i64 1) ∧ Below w.heap.size w w' := by
  have a6 := ta2_6
  have a7 := ta2_7
  go_enter Tryz.func22, Tryz.ntmps22
  go_wp2
  go_ret
  exact ⟨rfl, ((Below.refl _ _).alloc (Nat.le_refl _) _).alloc (by simp) _⟩

set_option maxHeartbeats 1000000 in
theorem least3 (w : World) : Calls Tryz.prog 22 #[.iface 85 (.agg #[])] w fun e w' => e = .returned (.int .i64 1) ∧ Below w.heap.size w w' := by
  have a6 := ta3_6
  have a7 := ta3_7
  go_enter Tryz.func22, Tryz.ntmps22
  go_wp2
  go_ret
  exact ⟨rfl, ((Below.refl _ _).alloc (Nat.le_refl _) _).alloc (by simp) _⟩

set_option maxHeartbeats 1000000 in
theorem least4 (w : World) : Calls Tryz.prog 22 #[.iface 86 (.agg #[])] w fun e w' => e = .returned (.int .i64 1) ∧ Below w.heap.size w w' := by
  have a6 := ta4_6
  have a7 := ta4_7
  go_enter Tryz.func22, Tryz.ntmps22
  go_wp2
  go_ret
  exact ⟨rfl, ((Below.refl _ _).alloc (Nat.le_refl _) _).alloc (by simp) _⟩

set_option maxHeartbeats 1000000 in
theorem least5 (w : World) : Calls Tryz.prog 22 #[.iface 87 (.agg #[])] w fun e w' => e = .returned (.int .i64 1) ∧ Below w.heap.size w w' := by
  have a6 := ta5_6
  have a7 := ta5_7
  go_enter Tryz.func22, Tryz.ntmps22
  go_wp2
  go_ret
  exact ⟨rfl, ((Below.refl _ _).alloc (Nat.le_refl _) _).alloc (by simp) _⟩

set_option maxHeartbeats 1000000 in
theorem least6 (w : World) : Calls Tryz.prog 22 #[.iface 88 (.agg #[])] w fun e w' => e = .returned (.int .i64 2) ∧ Below w.heap.size w w' := by
  have a6 := ta6_6
  go_enter Tryz.func22, Tryz.ntmps22
  go_wp2
  go_ret
  exact ⟨rfl, (Below.refl _ _).alloc (Nat.le_refl _) _⟩

set_option maxHeartbeats 1000000 in
theorem least7 (w : World) : Calls Tryz.prog 22 #[.iface 89 (.agg #[])] w fun e w' => e = .returned (.int .i64 2) ∧ Below w.heap.size w w' := by
  have a6 := ta7_6
  have a7 := ta7_7
  go_enter Tryz.func22, Tryz.ntmps22
  go_wp2
  go_ret
  exact ⟨rfl, ((Below.refl _ _).alloc (Nat.le_refl _) _).alloc (by simp) _⟩

def leastN (k : Nat) : Nat := if 6 ≤ k then 2 else 1
theorem least_any (k : Nat) (hk : k < 8) (w : World) : Calls Tryz.prog 22 #[fnV k] w fun e w' => e = .returned (.int .i64 (leastN k)) ∧ Below w.heap.size w w' :=
  eight_cases (p := fun k => Calls Tryz.prog 22 #[fnV k] w fun e w' => e = .returned (.int .i64 (leastN k)) ∧ Below w.heap.size w w') (least0 w) (least1 w) (least2 w) (least3 w) (least4 w) (least5 w) (least6 w) (least7 w) k hk
end Go.Proofs.YthbameabfmoibaaGreat.Win
