/- Walks: the document's own answers to two numbers reckoned with. -/
import Derived.Test.YtbdnonphkobkoaaGreatGb
namespace Go.Proofs.YtbdnonphkobkoaaGreat.Fix
open Go.RowKit

/-- A text that is none of the signs. -/
structure NoSign (s : ByteArray) : Prop where
  n_add : ¬ s.toList = [43]
  n_sub : ¬ s.toList = [45]
  n_mul : ¬ s.toList = [42]
  n_div : ¬ s.toList = [47]
  n_mod : ¬ s.toList = [37]
  n_eq : ¬ s.toList = [61, 61]
  n_ne : ¬ s.toList = [33, 61]
  n_lt : ¬ s.toList = [60]
  n_le : ¬ s.toList = [60, 61]
  n_gt : ¬ s.toList = [62]
  n_ge : ¬ s.toList = [62, 61]
theorem toList_data (s : ByteArray) : s.toList = s.data.toList := by
  exact ByteArray.toList_eq s
theorem NoSign.of {s : ByteArray} (h : s ∉ signs) : NoSign s := by
  have key : ∀ l : List UInt8, (⟨l.toArray⟩ : ByteArray) ∈ signs → ¬ s.toList = l := fun l hl e => by
    rw [toList_data] at e
    exact h ((bytes_ext (a := s) (b := ⟨l.toArray⟩) e) ▸ hl)
  unfold signs at key
  constructor
  · exact key _ (List.mem_of_getElem? (i := 0) rfl)
  · exact key _ (List.mem_of_getElem? (i := 1) rfl)
  · exact key _ (List.mem_of_getElem? (i := 2) rfl)
  · exact key _ (List.mem_of_getElem? (i := 3) rfl)
  · exact key _ (List.mem_of_getElem? (i := 4) rfl)
  · exact key _ (List.mem_of_getElem? (i := 5) rfl)
  · exact key _ (List.mem_of_getElem? (i := 6) rfl)
  · exact key _ (List.mem_of_getElem? (i := 7) rfl)
  · exact key _ (List.mem_of_getElem? (i := 8) rfl)
  · exact key _ (List.mem_of_getElem? (i := 9) rfl)
  · exact key _ (List.mem_of_getElem? (i := 10) rfl)
theorem comparesF_none {s : ByteArray} (h : s ∉ signs) : comparesF s = false := by unfold comparesF; rw [signOf_none h]
theorem doF_none {s : ByteArray} (h : s ∉ signs) (a b : Int) : doF s a b = (0, 1) := by unfold doF; rw [signOf_none h]

theorem comparesF_add : comparesF ⟨#[43]⟩ = false := by unfold comparesF; rw [sign_add]; decide
set_option maxHeartbeats 1000000 in
theorem rcomp_add (w : World) : Calls Tryz.prog 50 #[.string ⟨#[43]⟩] w fun e w' => e = .returned (.bool false) ∧ w = w' := by
  go_enter Tryz.func50, Tryz.ntmps50
  go_wp2
  go_ret
  exact ⟨rfl, rfl⟩
set_option maxHeartbeats 1000000 in
theorem rop_add (w : World) : Calls Tryz.prog 48 #[.string ⟨#[43]⟩] w fun e w' => e = .returned (.bool true) ∧ w = w' := by
  go_enter Tryz.func48, Tryz.ntmps48
  go_wp2_with fail
  refine (rcomp_add _).mono ?_
  rintro e w' ⟨rfl, rfl⟩
  go_wp2
  go_ret
  exact ⟨rfl, rfl⟩
theorem comparesF_sub : comparesF ⟨#[45]⟩ = false := by unfold comparesF; rw [sign_sub]; decide
set_option maxHeartbeats 1000000 in
theorem rcomp_sub (w : World) : Calls Tryz.prog 50 #[.string ⟨#[45]⟩] w fun e w' => e = .returned (.bool false) ∧ w = w' := by
  go_enter Tryz.func50, Tryz.ntmps50
  go_wp2
  go_ret
  exact ⟨rfl, rfl⟩
set_option maxHeartbeats 1000000 in
theorem rop_sub (w : World) : Calls Tryz.prog 48 #[.string ⟨#[45]⟩] w fun e w' => e = .returned (.bool true) ∧ w = w' := by
  go_enter Tryz.func48, Tryz.ntmps48
  go_wp2_with fail
  refine (rcomp_sub _).mono ?_
  rintro e w' ⟨rfl, rfl⟩
  go_wp2
  go_ret
  exact ⟨rfl, rfl⟩
theorem comparesF_mul : comparesF ⟨#[42]⟩ = false := by unfold comparesF; rw [sign_mul]; decide
set_option maxHeartbeats 1000000 in
theorem rcomp_mul (w : World) : Calls Tryz.prog 50 #[.string ⟨#[42]⟩] w fun e w' => e = .returned (.bool false) ∧ w = w' := by
  go_enter Tryz.func50, Tryz.ntmps50
  go_wp2
  go_ret
  exact ⟨rfl, rfl⟩
set_option maxHeartbeats 1000000 in
theorem rop_mul (w : World) : Calls Tryz.prog 48 #[.string ⟨#[42]⟩] w fun e w' => e = .returned (.bool true) ∧ w = w' := by
  go_enter Tryz.func48, Tryz.ntmps48
  go_wp2_with fail
  refine (rcomp_mul _).mono ?_
  rintro e w' ⟨rfl, rfl⟩
  go_wp2
  go_ret
  exact ⟨rfl, rfl⟩
theorem comparesF_div : comparesF ⟨#[47]⟩ = false := by unfold comparesF; rw [sign_div]; decide
set_option maxHeartbeats 1000000 in
theorem rcomp_div (w : World) : Calls Tryz.prog 50 #[.string ⟨#[47]⟩] w fun e w' => e = .returned (.bool false) ∧ w = w' := by
  go_enter Tryz.func50, Tryz.ntmps50
  go_wp2
  go_ret
  exact ⟨rfl, rfl⟩
set_option maxHeartbeats 1000000 in
theorem rop_div (w : World) : Calls Tryz.prog 48 #[.string ⟨#[47]⟩] w fun e w' => e = .returned (.bool true) ∧ w = w' := by
  go_enter Tryz.func48, Tryz.ntmps48
  go_wp2_with fail
  refine (rcomp_div _).mono ?_
  rintro e w' ⟨rfl, rfl⟩
  go_wp2
  go_ret
  exact ⟨rfl, rfl⟩
theorem comparesF_mod : comparesF ⟨#[37]⟩ = false := by unfold comparesF; rw [sign_mod]; decide
set_option maxHeartbeats 1000000 in
theorem rcomp_mod (w : World) : Calls Tryz.prog 50 #[.string ⟨#[37]⟩] w fun e w' => e = .returned (.bool false) ∧ w = w' := by
  go_enter Tryz.func50, Tryz.ntmps50
  go_wp2
  go_ret
  exact ⟨rfl, rfl⟩
set_option maxHeartbeats 1000000 in
theorem rop_mod (w : World) : Calls Tryz.prog 48 #[.string ⟨#[37]⟩] w fun e w' => e = .returned (.bool true) ∧ w = w' := by
  go_enter Tryz.func48, Tryz.ntmps48
  go_wp2_with fail
  refine (rcomp_mod _).mono ?_
  rintro e w' ⟨rfl, rfl⟩
  go_wp2
  go_ret
  exact ⟨rfl, rfl⟩
theorem comparesF_eq : comparesF ⟨#[61, 61]⟩ = true := by unfold comparesF; rw [sign_eq]; decide
set_option maxHeartbeats 1000000 in
theorem rcomp_eq (w : World) : Calls Tryz.prog 50 #[.string ⟨#[61, 61]⟩] w fun e w' => e = .returned (.bool true) ∧ w = w' := by
  go_enter Tryz.func50, Tryz.ntmps50
  go_wp2
  go_ret
  exact ⟨rfl, rfl⟩
set_option maxHeartbeats 1000000 in
theorem rop_eq (w : World) : Calls Tryz.prog 48 #[.string ⟨#[61, 61]⟩] w fun e w' => e = .returned (.bool true) ∧ w = w' := by
  go_enter Tryz.func48, Tryz.ntmps48
  go_wp2_with fail
  refine (rcomp_eq _).mono ?_
  rintro e w' ⟨rfl, rfl⟩
  go_wp2
  go_ret
  exact ⟨rfl, rfl⟩
theorem comparesF_ne : comparesF ⟨#[33, 61]⟩ = true := by unfold comparesF; rw [sign_ne]; decide
set_option maxHeartbeats 1000000 in
theorem rcomp_ne (w : World) : Calls Tryz.prog 50 #[.string ⟨#[33, 61]⟩] w fun e w' => e = .returned (.bool true) ∧ w = w' := by
  go_enter Tryz.func50, Tryz.ntmps50
  go_wp2
  go_ret
  exact ⟨rfl, rfl⟩
set_option maxHeartbeats 1000000 in
theorem rop_ne (w : World) : Calls Tryz.prog 48 #[.string ⟨#[33, 61]⟩] w fun e w' => e = .returned (.bool true) ∧ w = w' := by
  go_enter Tryz.func48, Tryz.ntmps48
  go_wp2_with fail
  refine (rcomp_ne _).mono ?_
  rintro e w' ⟨rfl, rfl⟩
  go_wp2
  go_ret
  exact ⟨rfl, rfl⟩
theorem comparesF_lt : comparesF ⟨#[60]⟩ = true := by unfold comparesF; rw [sign_lt]; decide
set_option maxHeartbeats 1000000 in
theorem rcomp_lt (w : World) : Calls Tryz.prog 50 #[.string ⟨#[60]⟩] w fun e w' => e = .returned (.bool true) ∧ w = w' := by
  go_enter Tryz.func50, Tryz.ntmps50
  go_wp2
  go_ret
  exact ⟨rfl, rfl⟩
set_option maxHeartbeats 1000000 in
theorem rop_lt (w : World) : Calls Tryz.prog 48 #[.string ⟨#[60]⟩] w fun e w' => e = .returned (.bool true) ∧ w = w' := by
  go_enter Tryz.func48, Tryz.ntmps48
  go_wp2_with fail
  refine (rcomp_lt _).mono ?_
  rintro e w' ⟨rfl, rfl⟩
  go_wp2
  go_ret
  exact ⟨rfl, rfl⟩
theorem comparesF_le : comparesF ⟨#[60, 61]⟩ = true := by unfold comparesF; rw [sign_le]; decide
set_option maxHeartbeats 1000000 in
theorem rcomp_le (w : World) : Calls Tryz.prog 50 #[.string ⟨#[60, 61]⟩] w fun e w' => e = .returned (.bool true) ∧ w = w' := by
  go_enter Tryz.func50, Tryz.ntmps50
  go_wp2
  go_ret
  exact ⟨rfl, rfl⟩
set_option maxHeartbeats 1000000 in
theorem rop_le (w : World) : Calls Tryz.prog 48 #[.string ⟨#[60, 61]⟩] w fun e w' => e = .returned (.bool true) ∧ w = w' := by
  go_enter Tryz.func48, Tryz.ntmps48
  go_wp2_with fail
  refine (rcomp_le _).mono ?_
  rintro e w' ⟨rfl, rfl⟩
  go_wp2
  go_ret
  exact ⟨rfl, rfl⟩
theorem comparesF_gt : comparesF ⟨#[62]⟩ = true := by unfold comparesF; rw [sign_gt]; decide
set_option maxHeartbeats 1000000 in
theorem rcomp_gt (w : World) : Calls Tryz.prog 50 #[.string ⟨#[62]⟩] w fun e w' => e = .returned (.bool true) ∧ w = w' := by
  go_enter Tryz.func50, Tryz.ntmps50
  go_wp2
  go_ret
  exact ⟨rfl, rfl⟩
set_option maxHeartbeats 1000000 in
theorem rop_gt (w : World) : Calls Tryz.prog 48 #[.string ⟨#[62]⟩] w fun e w' => e = .returned (.bool true) ∧ w = w' := by
  go_enter Tryz.func48, Tryz.ntmps48
  go_wp2_with fail
  refine (rcomp_gt _).mono ?_
  rintro e w' ⟨rfl, rfl⟩
  go_wp2
  go_ret
  exact ⟨rfl, rfl⟩
theorem comparesF_ge : comparesF ⟨#[62, 61]⟩ = true := by unfold comparesF; rw [sign_ge]; decide
set_option maxHeartbeats 1000000 in
theorem rcomp_ge (w : World) : Calls Tryz.prog 50 #[.string ⟨#[62, 61]⟩] w fun e w' => e = .returned (.bool true) ∧ w = w' := by
  go_enter Tryz.func50, Tryz.ntmps50
  go_wp2
  go_ret
  exact ⟨rfl, rfl⟩
set_option maxHeartbeats 1000000 in
theorem rop_ge (w : World) : Calls Tryz.prog 48 #[.string ⟨#[62, 61]⟩] w fun e w' => e = .returned (.bool true) ∧ w = w' := by
  go_enter Tryz.func48, Tryz.ntmps48
  go_wp2_with fail
  refine (rcomp_ge _).mono ?_
  rintro e w' ⟨rfl, rfl⟩
  go_wp2
  go_ret
  exact ⟨rfl, rfl⟩
set_option maxHeartbeats 1000000 in
theorem rcomp_none (s : ByteArray) (w : World) (h : NoSign s) : Calls Tryz.prog 50 #[.string s] w fun e w' => e = .returned (.bool false) ∧ w = w' := by
  obtain ⟨n0, n1, n2, n3, n4, n5, n6, n7, n8, n9, n10⟩ := h
  go_enter Tryz.func50, Tryz.ntmps50
  go_wp2
  go_ret
  exact ⟨by simp [*], rfl⟩
set_option maxHeartbeats 1000000 in
theorem rop_none (s : ByteArray) (w : World) (h : NoSign s) : Calls Tryz.prog 48 #[.string s] w fun e w' => e = .returned (.bool false) ∧ w = w' := by
  have HC := Lib.hid (fun W => rcomp_none s W h)
  obtain ⟨n0, n1, n2, n3, n4, n5, n6, n7, n8, n9, n10⟩ := h
  go_enter Tryz.func48, Tryz.ntmps48
  go_wp2_with fail
  refine (HC.out _).mono ?_
  rintro e w' ⟨rfl, rfl⟩
  go_wp2
  go_ret
  exact ⟨by simp [*], rfl⟩
end Go.Proofs.YtbdnonphkobkoaaGreat.Fix
