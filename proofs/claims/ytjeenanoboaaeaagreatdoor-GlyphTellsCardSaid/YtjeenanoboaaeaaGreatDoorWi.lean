/- A walk: the first answers that the document fixes. -/
import Derived.Test.YtjeenanoboaaeaaGreatDoorWh
namespace Go.Proofs.YtjeenanoboaaeaaGreatDoor
open Go.RowKit

theorem c_unq : unquoteL [34, 97, 92, 34, 98, 34] = some [97, 34, 98] := by decide +kernel
theorem c_quo : quoteL [97, 34, 98] = [34, 97, 92, 34, 98, 34] := by decide +kernel
theorem c_nam1 : nameB [104, 111, 115, 116, 95, 49] = true := by decide +kernel
theorem c_nam2 : nameB [49, 97] = false := by decide +kernel
theorem c_cnt : countOf [97, 195, 169] = 2 := by decide +kernel

theorem alive_unq (ev : Value) (w : World) (h0 : 0 < w.heap.size) (hG : w.cell? ⟨0, 0, none⟩ = some ev) (hev : ev = .nilIface ∨ ∃ te pe, ev = .iface te pe) :
    Calls Tryz.prog 16 #[.string ⟨#[34, 97, 92, 34, 98, 34]⟩] w fun e w' => e = .returned (.tuple #[.string ⟨#[97, 34, 98]⟩, .bool true]) ∧ Below w.heap.size w w' :=
  (unquote_any ⟨#[34, 97, 92, 34, 98, 34]⟩ (by show (6 : Nat) ≤ _; omega) ev w h0 hG hev).mono fun e w' ⟨h, hb⟩ => ⟨by
    have : unquoteL (⟨#[34, 97, 92, 34, 98, 34]⟩ : ByteArray).data.toList = some [97, 34, 98] := c_unq
    rw [this] at h; exact h, hb⟩
theorem alive_quo (w : World) : Calls Tryz.prog 17 #[.string ⟨#[97, 34, 98]⟩] w fun e w' => e = .returned (.string ⟨#[34, 97, 92, 34, 98, 34]⟩) ∧ Below w.heap.size w w' :=
  (quote_any ⟨#[97, 34, 98]⟩ w (by show (3 : Nat) ≤ _; omega)).mono fun e w' ⟨h, hb⟩ => ⟨by
    have : quoteL (⟨#[97, 34, 98]⟩ : ByteArray).data.toList = [34, 97, 92, 34, 98, 34] := c_quo
    rw [this] at h; exact h, hb⟩
theorem alive_nam1 (w : World) : Calls Tryz.prog 11 #[.string ⟨#[104, 111, 115, 116, 95, 49]⟩] w fun e w' => e = .returned (.bool true) ∧ Below w.heap.size w w' :=
  (name_any ⟨#[104, 111, 115, 116, 95, 49]⟩ w).mono fun e w' ⟨h, hb⟩ => ⟨by
    have : nameB (⟨#[104, 111, 115, 116, 95, 49]⟩ : ByteArray).data.toList = true := c_nam1
    rw [this] at h; exact h, hb⟩
theorem alive_nam2 (w : World) : Calls Tryz.prog 11 #[.string ⟨#[49, 97]⟩] w fun e w' => e = .returned (.bool false) ∧ Below w.heap.size w w' :=
  (name_any ⟨#[49, 97]⟩ w).mono fun e w' ⟨h, hb⟩ => ⟨by
    have : nameB (⟨#[49, 97]⟩ : ByteArray).data.toList = false := c_nam2
    rw [this] at h; exact h, hb⟩
theorem alive_cnt (w : World) : Calls Tryz.prog 13 #[.string ⟨#[97, 195, 169]⟩] w fun e w' => e = .returned (.int .i64 2) ∧ Below w.heap.size w w' :=
  (count_any ⟨#[97, 195, 169]⟩ w (by show (3 : Nat) ≤ _; unfold maxLen; omega)).mono fun e w' ⟨h, hb⟩ => ⟨by
    have : countOf (⟨#[97, 195, 169]⟩ : ByteArray).data.toList = 2 := c_cnt
    rw [this] at h; exact h, hb⟩

set_option maxHeartbeats 2000000 in
set_option maxRecDepth 100000 in
theorem alive_any (ev : Value) (w : World) (h0 : 0 < w.heap.size) (hG : w.cell? ⟨0, 0, none⟩ = some ev) (hev : ev = .nilIface ∨ ∃ te pe, ev = .iface te pe) :
    Calls Tryz.prog 4 #[] w fun e w' => e = .returned (.bool true) ∧ Below w.heap.size w w' := by
  have c1 := Lib.hid (alive_unq ev w h0 hG hev)
  clear hev hG
  go_enter Tryz.func4, Tryz.ntmps4
  go_wp2_with (go_at_call 16; refine c1.out.mono ?_; rintro e w1 ⟨rfl, b1⟩)
  go_wp2_with fail
  refine (alive_quo _).mono ?_
  rintro e w2 ⟨rfl, b2⟩
  go_wp2_with fail
  refine (alive_nam1 _).mono ?_
  rintro e w3 ⟨rfl, b3⟩
  go_wp2_with fail
  refine (alive_nam2 _).mono ?_
  rintro e w4 ⟨rfl, b4⟩
  go_wp2_with fail
  refine (alive_cnt _).mono ?_
  rintro e w5 ⟨rfl, b5⟩
  go_wp2_with fail
  go_ret
  have z1 := b1.size
  have z2 := b2.size
  have z3 := b3.size
  have z4 := b4.size
  exact ⟨rfl, (((b1.trans (b2.mono (by omega))).trans (b3.mono (by omega))).trans (b4.mono (by omega))).trans (b5.mono (by omega))⟩
end Go.Proofs.YtjeenanoboaaeaaGreatDoor
