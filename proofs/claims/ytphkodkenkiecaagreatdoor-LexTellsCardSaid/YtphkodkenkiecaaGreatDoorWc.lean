/- Walks: how a byte that is none is written; how a text is quoted. -/
import Derived.Test.YtphkodkenkiecaaGreatDoorShelf
import Derived.Test.YtphkodkenkiecaaGreatDoorWb
namespace Go.Proofs.YtphkodkenkiecaaGreatDoor
open Go.RowKit

def hexd (n : Nat) : UInt8 := if n < 10 then (48 + n).toUInt8 else (87 + n).toUInt8

theorem digit_at (i : Nat) (h : i < (⟨#[48, 49, 50, 51, 52, 53, 54, 55, 56, 57, 97, 98, 99, 100, 101, 102]⟩ : ByteArray).size) : (⟨#[48, 49, 50, 51, 52, 53, 54, 55, 56, 57, 97, 98, 99, 100, 101, 102]⟩ : ByteArray)[i]'h = hexd i := by
  have h16 : i < 16 := h
  have : i = 0 ∨ i = 1 ∨ i = 2 ∨ i = 3 ∨ i = 4 ∨ i = 5 ∨ i = 6 ∨ i = 7 ∨ i = 8 ∨ i = 9 ∨ i = 10 ∨ i = 11 ∨ i = 12 ∨ i = 13 ∨ i = 14 ∨ i = 15 := by omega
  rcases this with rfl | rfl | rfl | rfl | rfl | rfl | rfl | rfl | rfl | rfl | rfl | rfl | rfl | rfl | rfl | rfl <;> rfl
theorem byteCell (c : UInt8) : Lib.byteCells [c] = [.int .u8 c.toNat] := rfl

set_option maxHeartbeats 1000000 in
set_option maxRecDepth 100000 in
theorem writeByte_any (B b : Nat) (acc : List UInt8) (c : Nat) (hc : c < 256) (w : World) (h : Lib.IsBuilderF 133 5 B b (Lib.byteCells acc) w) (hlen : acc.length + 4 ≤ 140737488355328) (hBw : B ≤ w.heap.size) :
    Calls Tryz.prog 112 #[.pointer (some ⟨b, 0, none⟩), .int .u8 c] w fun e w' => e = .returned (.tuple #[]) ∧ (Lib.IsBuilderF 133 5 B b (Lib.byteCells (acc ++ [92, 120, hexd (c / 16), hexd (c % 16)])) w' ∧ Below B w w' ∧ Lib.OthersKept 5 (some b) w w') := by
  go_enter Tryz.func112, Tryz.ntmps112
  have L0 : (Lib.byteCells acc).length + (⟨#[92, 120]⟩ : ByteArray).size ≤ 140737488355328 := by rw [Lib.byteCells_length]; show _ + 2 ≤ _; omega
  go_wp2_with (go_at_call 110; refine (Tryz.Builder_WriteString_k B b _ ⟨#[92, 120]⟩ _ h L0 hBw).mono ?_)
  rintro e W1 ⟨rfl, h1, b1, k1⟩
  go_wp2_with fail
  rw [digit_at]
  refine (Tryz.Builder_WriteByte_k B b _ _ _ (.inr h1) (by rw [List.length_append, Lib.byteCells_length]; show _ + 2 + 1 ≤ _; omega) (by have := b1.size; omega)).mono ?_
  rintro e W2 ⟨rfl, h2, b2, k2⟩
  go_wp2_with fail
  rw [digit_at]
  refine (Tryz.Builder_WriteByte_k B b _ _ _ (.inr h2) (by rw [List.length_append, List.length_append, Lib.byteCells_length]; show _ + 2 + 1 + 1 ≤ _; omega) (by have := b1.size; have := b2.size; omega)).mono ?_
  rintro e W3 ⟨rfl, h3, b3, k3⟩
  go_wp2_with fail
  go_end0
  have e1 : Lib.byteCells acc ++ Lib.strCells ⟨#[92, 120]⟩ ++ [Value.int .u8 (hexd (c / 16)).toNat] ++ [Value.int .u8 (hexd (c % 16)).toNat] = Lib.byteCells (acc ++ [92, 120, hexd (c / 16), hexd (c % 16)]) := by
    rw [Lib.byteCells_append, List.append_assoc, List.append_assoc]; rfl
  rw [e1] at h3
  exact ⟨rfl, .inr h3, (b1.trans b2).trans b3, (k1.trans k2).trans k3⟩
end Go.Proofs.YtphkodkenkiecaaGreatDoor
