/- The law on the six comparisons, put together. -/
import Derived.Test.YtooibjanlmlidaaOb
namespace Go.Proofs.Ytooibjanlmlidaa
open Go.RowKit Go.Maps Go.WideMaps

theorem order_any (a b : Int) (w : World) : Calls Try.prog 7 #[.int .i64 a, .int .i64 b] w fun e w' => e = .returned (.bool true) ∧ Below w.heap.size w w' := by
  by_cases h : rgt a ∧ rgt b
  case neg => exact order_arg a b h w
  obtain ⟨ha, hb⟩ := h
  have c (n : Bool) := oneI_bd n
  have HP : ∀ v0 v1 v2 v3 v4 v5, v0 = oneI (decide (a = b)) → v1 = oneI (decide (a ≠ b)) → v2 = oneI (decide (a < b)) → v3 = oneI (decide (a ≤ b)) → v4 = oneI (decide (b < a)) → v5 = oneI (decide (b ≤ a)) →
      ∀ p ∈ six v0 v1 v2 v3 v4 v5, SixAt a b p := by
    rintro _ _ _ _ _ _ rfl rfl rfl rfl rfl rfl p hp
    simp only [List.mem_cons, List.not_mem_nil, or_false] at hp
    rcases hp with rfl | rfl | rfl | rfl | rfl | rfl
    · exact .mk' (by decide) (do_eq ha hb) (c _) (by unfold comparesF; rw [sign_eq]; decide)
    · exact .mk' (by decide) (do_ne ha hb) (c _) (by unfold comparesF; rw [sign_ne]; decide)
    · exact .mk' (by decide) (do_lt ha hb) (c _) (by unfold comparesF; rw [sign_lt]; decide)
    · exact .mk' (by decide) (do_le ha hb) (c _) (by unfold comparesF; rw [sign_le]; decide)
    · exact .mk' (by decide) (do_gt ha hb) (c _) (by unfold comparesF; rw [sign_gt]; decide)
    · exact .mk' (by decide) (do_ge ha hb) (c _) (by unfold comparesF; rw [sign_ge]; decide)
  rcases Int.lt_trichotomy a b with h | h | h
  · exact order_six a b ha hb 0 1 1 1 0 0 (HP _ _ _ _ _ _ (by simp [oneI]; omega) (by simp [oneI]; omega) (by simp [oneI, h]) (by simp [oneI]; omega) (by simp [oneI]; omega) (by simp [oneI]; omega))
      (by decide) (by decide) (by decide) (by decide) (by decide) (by decide) (by decide) (by decide) (by simp [h]) w
  · exact order_six a b ha hb 1 0 0 1 0 1 (HP _ _ _ _ _ _ (by simp [oneI]; omega) (by simp [oneI]; omega) (by simp [oneI]; omega) (by simp [oneI]; omega) (by simp [oneI]; omega) (by simp [oneI]; omega))
      (by decide) (by decide) (by decide) (by decide) (by decide) (by decide) (by decide) (by decide) (by simp; omega) w
  · exact order_six a b ha hb 0 1 0 0 1 1 (HP _ _ _ _ _ _ (by simp [oneI]; omega) (by simp [oneI]; omega) (by simp [oneI]; omega) (by simp [oneI]; omega) (by simp [oneI]; omega) (by simp [oneI]; omega))
      (by decide) (by decide) (by decide) (by decide) (by decide) (by decide) (by decide) (by decide) (by simp; omega) w
end Go.Proofs.Ytooibjanlmlidaa
