/- The book of texts: the names of its marks. -/
import Derived.Test.YtbcdgccmokgmhaaKxa
import Derived.Laws.IdiomStrings
namespace Go.Proofs.Ytbcdgccmokgmhaa.BkX
open Go.RowKit

def by8 (n : Nat) : UInt8 := n.toUInt8
/-- The name of a mark. -/
def nameB (i k : Nat) : ByteArray := ⟨#[109, by8 (65 + i % 26), by8 (65 + i / 26 % 26), by8 (48 + k % 10), by8 (48 + k / 10 % 10), by8 (48 + k / 100 % 10)]⟩
theorem by8_is {n : Nat} (h : n < 256) : ((by8 n).toNat : Int) = n := by
  unfold by8; simp; omega

set_option maxHeartbeats 1000000 in
set_option maxRecDepth 100000 in
theorem name_any (i k : Nat) (hi : i ≤ 250) (hk : k ≤ 2000000) (w : World) : Calls Try.prog 86 #[.int .i64 i, .int .i64 k] w fun e w' => e = .returned (.string (nameB i k)) ∧ Below w.heap.size w w' := by
  have e1 := by8_is (n := 65 + i % 26) (by omega)
  have e2 := by8_is (n := 65 + i / 26 % 26) (by omega)
  have e3 := by8_is (n := 48 + k % 10) (by omega)
  have e4 := by8_is (n := 48 + k / 10 % 10) (by omega)
  have e5 := by8_is (n := 48 + k / 100 % 10) (by omega)
  unfold nameB
  generalize by8 (65 + i % 26) = b1 at e1 ⊢
  generalize by8 (65 + i / 26 % 26) = b2 at e2 ⊢
  generalize by8 (48 + k % 10) = b3 at e3 ⊢
  generalize by8 (48 + k / 10 % 10) = b4 at e4 ⊢
  generalize by8 (48 + k / 100 % 10) = b5 at e5 ⊢
  have t1 : 65 + (i : Int) % 26 = b1.toNat := by omega
  have t2 : 65 + (i : Int) / 26 % 26 = b2.toNat := by omega
  have t3 : 48 + (k : Int) % 10 = b3.toNat := by omega
  have t4 : 48 + (k : Int) / 10 % 10 = b4.toNat := by omega
  have t5 : 48 + (k : Int) / 100 % 10 = b5.toNat := by omega
  have l1 := b1.toNat_lt
  have l2 := b2.toNat_lt
  have l3 := b3.toNat_lt
  have l4 := b4.toNat_lt
  have l5 := b5.toNat_lt
  clear e1 e2 e3 e4 e5
  have hcv : (convert 50 9 (.slice (some ⟨w.heap.size, 0, none⟩) 6 6)).run Try.prog (w.alloc (Obj.cells #[.int .u8 109, .int .u8 b1.toNat, .int .u8 b2.toNat, .int .u8 b3.toNat, .int .u8 b4.toNat, .int .u8 b5.toNat] 5)) = .ok (.string ⟨#[109, b1, b2, b3, b4, b5]⟩) _ := run_convert_bytes_back (P := Try.prog) (w.alloc (Obj.cells #[.int .u8 109, .int .u8 b1.toNat, .int .u8 b2.toNat, .int .u8 b3.toNat, .int .u8 b4.toNat, .int .u8 b5.toNat] 5)) 50 9 5 ⟨w.heap.size, 0, none⟩ 6 [109, b1, b2, b3, b4, b5] Try.underlying50 Try.underlying5 Try.underlying9 (by
    intro j hj
    match j, hj with
    | 0, _ => simp [Addr.add]
    | 1, _ => simp [Addr.add]
    | 2, _ => simp [Addr.add]
    | 3, _ => simp [Addr.add]
    | 4, _ => simp [Addr.add]
    | 5, _ => simp [Addr.add]
    | j + 6, hj => simp at hj; omega)
  go_enter Try.func86, Try.ntmps86
  go_wp2
  go_ret
  exact ⟨rfl, (Below.refl _ _).alloc (Nat.le_refl _) _⟩
end Go.Proofs.Ytbcdgccmokgmhaa.BkX
