/- Names, plain: their runes. -/
import Derived.Test.YtjeenanoboaaeaaWb
namespace Go.Proofs.Ytjeenanoboaaeaa
open Go.RowKit

/-- Runes that are runes: nothing in the text is a wrong byte. -/
def Right (l : List UInt8) : Prop := ∀ t ∈ sufs l, ¬ ((Lib.decodeL t).1 = 65533 ∧ (Lib.decodeL t).2 = 1)

theorem nameGo_kinds : ∀ (xs : List Int) (k : Nat), nameGo k xs = true → ∀ x ∈ xs, kindZ x = 1 ∨ kindZ x = 2
  | [], _, _ => by simp
  | x :: xs, k, h => by
    by_cases hb : k = 30 ∨ (kindZ x ≠ 1 ∧ (kindZ x ≠ 2 ∨ k = 0))
    · rw [name_bad _ _ _ hb] at h; cases h
    · rw [name_good _ _ _ hb] at h
      intro y hy
      rcases List.mem_cons.1 hy with rfl | hy
      · omega
      · exact nameGo_kinds xs (k + 1) h y hy
theorem name_right (l : List UInt8) (h : nameB l = true) : Right l := by
  intro t ht hbad
  have hk := nameGo_kinds _ _ h (rune t) (by unfold spell; exact List.mem_map_of_mem ht)
  have : rune t = 65533 := by unfold rune; rw [hbad.1]; rfl
  rw [this] at hk
  revert hk; decide

end Go.Proofs.Ytjeenanoboaaeaa
