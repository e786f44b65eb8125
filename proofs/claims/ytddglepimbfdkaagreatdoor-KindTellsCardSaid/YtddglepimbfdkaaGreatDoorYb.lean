/- Walks (kind): what a part is; what is asked of it. -/
import Derived.Test.YtddglepimbfdkaaGreatDoorNx
import Derived.Test.YtddglepimbfdkaaGreatDoorYa
namespace Go.Proofs.YtddglepimbfdkaaGreatDoor.Knd
open Go.RowKit Go.Lib
open Go.Proofs.YtddglepimbfdkaaGreatDoor.Par

/-- What a part is, as it is answered. -/
def kv : Nat → Value
  | 1 => .iface 156 (.agg #[])
  | 2 => .iface 158 (.agg #[])
  | 3 => .iface 160 (.agg #[])
  | _ => .nilIface

theorem ta01 (W : World) : (Instr.typeAssert (.nilIface) 95 156 true).run Tryz.prog W = .ok (.tuple #[.agg #[], .bool false]) W := by kernel_rfl
theorem ta02 (W : World) : (Instr.typeAssert (.nilIface) 95 158 true).run Tryz.prog W = .ok (.tuple #[.agg #[], .bool false]) W := by kernel_rfl
theorem ta03 (W : World) : (Instr.typeAssert (.nilIface) 95 160 true).run Tryz.prog W = .ok (.tuple #[.agg #[], .bool false]) W := by kernel_rfl
theorem ta11 (W : World) : (Instr.typeAssert (.iface 156 (.agg #[])) 95 156 true).run Tryz.prog W = .ok (.tuple #[.agg #[], .bool true]) W := by kernel_rfl
theorem ta12 (W : World) : (Instr.typeAssert (.iface 156 (.agg #[])) 95 158 true).run Tryz.prog W = .ok (.tuple #[.agg #[], .bool false]) W := by kernel_rfl
theorem ta13 (W : World) : (Instr.typeAssert (.iface 156 (.agg #[])) 95 160 true).run Tryz.prog W = .ok (.tuple #[.agg #[], .bool false]) W := by kernel_rfl
theorem ta21 (W : World) : (Instr.typeAssert (.iface 158 (.agg #[])) 95 156 true).run Tryz.prog W = .ok (.tuple #[.agg #[], .bool false]) W := by kernel_rfl
theorem ta22 (W : World) : (Instr.typeAssert (.iface 158 (.agg #[])) 95 158 true).run Tryz.prog W = .ok (.tuple #[.agg #[], .bool true]) W := by kernel_rfl
theorem ta23 (W : World) : (Instr.typeAssert (.iface 158 (.agg #[])) 95 160 true).run Tryz.prog W = .ok (.tuple #[.agg #[], .bool false]) W := by kernel_rfl
theorem ta31 (W : World) : (Instr.typeAssert (.iface 160 (.agg #[])) 95 156 true).run Tryz.prog W = .ok (.tuple #[.agg #[], .bool false]) W := by kernel_rfl
theorem ta32 (W : World) : (Instr.typeAssert (.iface 160 (.agg #[])) 95 158 true).run Tryz.prog W = .ok (.tuple #[.agg #[], .bool false]) W := by kernel_rfl
theorem ta33 (W : World) : (Instr.typeAssert (.iface 160 (.agg #[])) 95 160 true).run Tryz.prog W = .ok (.tuple #[.agg #[], .bool true]) W := by kernel_rfl
set_option maxHeartbeats 1000000 in
theorem isNumber0 (w : World) : Calls Tryz.prog 57 #[.nilIface] w fun e w' => e = .returned (.bool false) ∧ Below w.heap.size w w' := by
  have h := ta01
  go_enter Tryz.func57, Tryz.ntmps57
  go_wp2
  go_ret
  exact ⟨rfl, (Below.refl _ _).alloc (Nat.le_refl _) _⟩
set_option maxHeartbeats 1000000 in
theorem isNumber1 (w : World) : Calls Tryz.prog 57 #[.iface 156 (.agg #[])] w fun e w' => e = .returned (.bool true) ∧ Below w.heap.size w w' := by
  have h := ta11
  go_enter Tryz.func57, Tryz.ntmps57
  go_wp2
  go_ret
  exact ⟨rfl, (Below.refl _ _).alloc (Nat.le_refl _) _⟩
set_option maxHeartbeats 1000000 in
theorem isNumber2 (w : World) : Calls Tryz.prog 57 #[.iface 158 (.agg #[])] w fun e w' => e = .returned (.bool false) ∧ Below w.heap.size w w' := by
  have h := ta21
  go_enter Tryz.func57, Tryz.ntmps57
  go_wp2
  go_ret
  exact ⟨rfl, (Below.refl _ _).alloc (Nat.le_refl _) _⟩
set_option maxHeartbeats 1000000 in
theorem isNumber3 (w : World) : Calls Tryz.prog 57 #[.iface 160 (.agg #[])] w fun e w' => e = .returned (.bool false) ∧ Below w.heap.size w w' := by
  have h := ta31
  go_enter Tryz.func57, Tryz.ntmps57
  go_wp2
  go_ret
  exact ⟨rfl, (Below.refl _ _).alloc (Nat.le_refl _) _⟩
theorem isNumber_any (k : Nat) (hk : k ≤ 3) (w : World) : Calls Tryz.prog 57 #[kv k] w fun e w' => e = .returned (.bool (decide (k = 1))) ∧ Below w.heap.size w w' := by
  match k, hk with
  | 0, _ => exact isNumber0 w
  | 1, _ => exact isNumber1 w
  | 2, _ => exact isNumber2 w
  | 3, _ => exact isNumber3 w
set_option maxHeartbeats 1000000 in
theorem isVector0 (w : World) : Calls Tryz.prog 58 #[.nilIface] w fun e w' => e = .returned (.bool false) ∧ Below w.heap.size w w' := by
  have h := ta02
  go_enter Tryz.func58, Tryz.ntmps58
  go_wp2
  go_ret
  exact ⟨rfl, (Below.refl _ _).alloc (Nat.le_refl _) _⟩
set_option maxHeartbeats 1000000 in
theorem isVector1 (w : World) : Calls Tryz.prog 58 #[.iface 156 (.agg #[])] w fun e w' => e = .returned (.bool false) ∧ Below w.heap.size w w' := by
  have h := ta12
  go_enter Tryz.func58, Tryz.ntmps58
  go_wp2
  go_ret
  exact ⟨rfl, (Below.refl _ _).alloc (Nat.le_refl _) _⟩
set_option maxHeartbeats 1000000 in
theorem isVector2 (w : World) : Calls Tryz.prog 58 #[.iface 158 (.agg #[])] w fun e w' => e = .returned (.bool true) ∧ Below w.heap.size w w' := by
  have h := ta22
  go_enter Tryz.func58, Tryz.ntmps58
  go_wp2
  go_ret
  exact ⟨rfl, (Below.refl _ _).alloc (Nat.le_refl _) _⟩
set_option maxHeartbeats 1000000 in
theorem isVector3 (w : World) : Calls Tryz.prog 58 #[.iface 160 (.agg #[])] w fun e w' => e = .returned (.bool false) ∧ Below w.heap.size w w' := by
  have h := ta32
  go_enter Tryz.func58, Tryz.ntmps58
  go_wp2
  go_ret
  exact ⟨rfl, (Below.refl _ _).alloc (Nat.le_refl _) _⟩
theorem isVector_any (k : Nat) (hk : k ≤ 3) (w : World) : Calls Tryz.prog 58 #[kv k] w fun e w' => e = .returned (.bool (decide (k = 2))) ∧ Below w.heap.size w w' := by
  match k, hk with
  | 0, _ => exact isVector0 w
  | 1, _ => exact isVector1 w
  | 2, _ => exact isVector2 w
  | 3, _ => exact isVector3 w
set_option maxHeartbeats 1000000 in
theorem isRange0 (w : World) : Calls Tryz.prog 59 #[.nilIface] w fun e w' => e = .returned (.bool false) ∧ Below w.heap.size w w' := by
  have h := ta03
  go_enter Tryz.func59, Tryz.ntmps59
  go_wp2
  go_ret
  exact ⟨rfl, (Below.refl _ _).alloc (Nat.le_refl _) _⟩
set_option maxHeartbeats 1000000 in
theorem isRange1 (w : World) : Calls Tryz.prog 59 #[.iface 156 (.agg #[])] w fun e w' => e = .returned (.bool false) ∧ Below w.heap.size w w' := by
  have h := ta13
  go_enter Tryz.func59, Tryz.ntmps59
  go_wp2
  go_ret
  exact ⟨rfl, (Below.refl _ _).alloc (Nat.le_refl _) _⟩
set_option maxHeartbeats 1000000 in
theorem isRange2 (w : World) : Calls Tryz.prog 59 #[.iface 158 (.agg #[])] w fun e w' => e = .returned (.bool false) ∧ Below w.heap.size w w' := by
  have h := ta23
  go_enter Tryz.func59, Tryz.ntmps59
  go_wp2
  go_ret
  exact ⟨rfl, (Below.refl _ _).alloc (Nat.le_refl _) _⟩
set_option maxHeartbeats 1000000 in
theorem isRange3 (w : World) : Calls Tryz.prog 59 #[.iface 160 (.agg #[])] w fun e w' => e = .returned (.bool true) ∧ Below w.heap.size w w' := by
  have h := ta33
  go_enter Tryz.func59, Tryz.ntmps59
  go_wp2
  go_ret
  exact ⟨rfl, (Below.refl _ _).alloc (Nat.le_refl _) _⟩
theorem isRange_any (k : Nat) (hk : k ≤ 3) (w : World) : Calls Tryz.prog 59 #[kv k] w fun e w' => e = .returned (.bool (decide (k = 3))) ∧ Below w.heap.size w w' := by
  match k, hk with
  | 0, _ => exact isRange0 w
  | 1, _ => exact isRange1 w
  | 2, _ => exact isRange2 w
  | 3, _ => exact isRange3 w
set_option maxHeartbeats 1000000 in
theorem reckons_any (k : Nat) (hk : k ≤ 3) (w : World) : Calls Tryz.prog 166 #[kv k] w fun e w' => e = .returned (.bool (decide (k = 1 ∨ k = 2))) ∧ Below w.heap.size w w' := by
  have C1 := Lib.hid (fun W => isNumber_any k hk W)
  have C2 := Lib.hid (fun W => isVector_any k hk W)
  by_cases h1 : k = 1
  · rw [decide_eq_true (show k = 1 ∨ k = 2 from .inl h1)]
    rw [decide_eq_true h1] at C1
    clear hk h1
    generalize kv k = v at *
    go_enter Tryz.func166, Tryz.ntmps166
    go_wp2_with fail
    refine (C1.out _).mono ?_
    rintro e w1 ⟨rfl, b1⟩
    go_wp2
    go_ret
    exact ⟨rfl, b1⟩
  · have e2 : decide (k = 1 ∨ k = 2) = decide (k = 2) := by simp [h1]
    rw [e2]
    rw [decide_eq_false h1] at C1
    obtain ⟨q, hq⟩ : ∃ q, decide (k = 2) = q := ⟨_, rfl⟩
    rw [hq] at C2 ⊢
    clear hk h1 e2 hq
    generalize kv k = v at *
    go_enter Tryz.func166, Tryz.ntmps166
    go_wp2_with fail
    refine (C1.out _).mono ?_
    rintro e w1 ⟨rfl, b1⟩
    have B1 := Lib.hid b1
    clear b1
    go_wp2_with fail
    refine (C2.out _).mono ?_
    rintro e w2 ⟨rfl, b2⟩
    have B2 := Lib.hid (B1.out.trans (b2.mono B1.out.size))
    clear b2
    go_wp2
    go_ret
    exact ⟨rfl, B2.out⟩

theorem str_ne_list {s : ByteArray} {l : List UInt8} (h : s ≠ ⟨l.toArray⟩) : ¬ s.toList = l ∧ (s.toList == l) = false ∧ (s.toList != l) = true := by
  have h1 : ¬ s.toList = l := fun e => h (by
    rw [ByteArray.toList_eq] at e
    cases s; simp at e; subst e; simp)
  exact ⟨h1, by simp [h1], by simp [h1]⟩
set_option maxHeartbeats 2000000 in
theorem fits_any (name : ByteArray) (n : Nat) (w : World) : Calls Tryz.prog 165 #[.string name, .int .i64 (n : Nat)] w fun e w' => e = .returned (.bool (fitsN name n)) ∧ w = w' := by
  by_cases h1 : name = tQuantile
  · subst h1
    unfold fitsN
    rw [if_pos rfl]
    unfold tQuantile
    have j0 : (0 : Int) ≤ (n : Int) := by omega
    by_cases hn : n ≤ 100
    · have j1 : (n : Int) ≤ 100 := by omega
      rw [decide_eq_true hn]
      clear hn
      go_enter Tryz.func165, Tryz.ntmps165
      go_wp2
      go_ret
      exact ⟨rfl, rfl⟩
    · have j1 : ¬ (n : Int) ≤ 100 := by omega
      rw [decide_eq_false hn]
      clear hn
      go_enter Tryz.func165, Tryz.ntmps165
      go_wp2
      go_ret
      exact ⟨rfl, rfl⟩
  · obtain ⟨n1, n2, n3⟩ := str_ne_list (s := name) (l := [113, 117, 97, 110, 116, 105, 108, 101]) h1
    unfold fitsN
    rw [if_neg h1]
    by_cases h2 : name = tTopk
    · subst h2
      rw [if_pos rfl]
      clear h1 n1 n2 n3
      unfold tTopk
      by_cases hn : 1 ≤ n
      · have j0 : (1 : Int) ≤ (n : Int) := by omega
        by_cases hm : n ≤ 2000
        · have j1 : (n : Int) ≤ 2000 := by omega
          rw [decide_eq_true ⟨hn, hm⟩]
          clear hn hm
          go_enter Tryz.func165, Tryz.ntmps165
          go_wp2
          go_ret
          exact ⟨rfl, rfl⟩
        · have j1 : ¬ (n : Int) ≤ 2000 := by omega
          rw [decide_eq_false (show ¬ (1 ≤ n ∧ n ≤ 2000) from fun h => hm h.2)]
          clear hn hm
          go_enter Tryz.func165, Tryz.ntmps165
          go_wp2
          go_ret
          exact ⟨rfl, rfl⟩
      · have j0 : ¬ (1 : Int) ≤ (n : Int) := by omega
        rw [decide_eq_false (show ¬ (1 ≤ n ∧ n ≤ 2000) from fun h => hn h.1)]
        clear hn
        go_enter Tryz.func165, Tryz.ntmps165
        go_wp2
        go_ret
        exact ⟨rfl, rfl⟩
    · obtain ⟨m1, m2, m3⟩ := str_ne_list (s := name) (l := [116, 111, 112, 107]) h2
      rw [if_neg h2]
      clear h1 h2
      go_enter Tryz.func165, Tryz.ntmps165
      go_wp2
      go_ret
      exact ⟨rfl, rfl⟩
end Go.Proofs.YtddglepimbfdkaaGreatDoor.Knd
