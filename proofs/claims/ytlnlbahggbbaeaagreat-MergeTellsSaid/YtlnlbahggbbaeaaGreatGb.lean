import Derived.Test.YtlnlbahggbbaeaaGreatGa
import Derived.OneCell
import Derived.Deep.RegionHeld3
import Derived.Deep.RegionWith
import Derived.Deep.DeepMust
import Derived.Outline
section
/- Walks: whether a number may be; signs. -/

namespace Go.Proofs.YtlnlbahggbbaeaaGreat.Fix
open Go.RowKit

end Go.Proofs.YtlnlbahggbbaeaaGreat.Fix
end

section
/- Walks: products, signs. -/

namespace Go.Proofs.YtlnlbahggbbaeaaGreat.Fix
open Go.RowKit

end Go.Proofs.YtlnlbahggbbaeaaGreat.Fix
end

section
/- Walks: a text is read as a sign. -/

namespace Go.Proofs.YtlnlbahggbbaeaaGreat.Fix
open Go.RowKit

/-- What has been read of runes, and what is left. -/
def ReadSt (l : List Int) (n : Nat) (f : Int) (q : Bool) (r : List Int) : Prop :=
  (n = 0 ∧ f = 0 ∧ q = false ∧ l = r) ∨ (n = 1 ∧ q = false ∧ l = f :: r) ∨ (n = 2 ∧ q = true ∧ l = f :: 61 :: r)
theorem ReadSt.done {l : List Int} {n : Nat} {f : Int} {q : Bool} (h : ReadSt l n f q []) : readF l = (f, q, reckB f q || cmpB f q) := by
  rcases h with ⟨_, rfl, rfl, rfl⟩ | ⟨_, rfl, rfl⟩ | ⟨_, rfl, rfl⟩
  · rfl
  · rfl
  · simp [readF]
theorem ReadSt.le {l : List Int} {n : Nat} {f : Int} {q : Bool} {r : List Int} (h : ReadSt l n f q r) : n ≤ 2 := by
  rcases h with ⟨h, _⟩ | ⟨h, _⟩ | ⟨h, _⟩ <;> omega
theorem ReadSt.zero {l : List Int} {f : Int} {q : Bool} {x : Int} {r : List Int} (h : ReadSt l 0 f q (x :: r)) : q = false ∧ ReadSt l 1 x false r := by
  rcases h with ⟨_, rfl, rfl, rfl⟩ | ⟨h, _⟩ | ⟨h, _⟩
  · exact ⟨rfl, .inr (.inl ⟨rfl, rfl, rfl⟩)⟩
  all_goals omega
theorem ReadSt.one {l : List Int} {f : Int} {q : Bool} {r : List Int} (h : ReadSt l 1 f q (61 :: r)) : ReadSt l 2 f true r := by
  rcases h with ⟨h, _⟩ | ⟨_, rfl, rfl⟩ | ⟨h, _⟩
  · omega
  · exact .inr (.inr ⟨rfl, rfl, rfl⟩)
  · omega

theorem keep_set {w : World} {B : Nat} {u v x y : Value} (h0 : w.cell? ⟨B + 1, 0, none⟩ = some x) (h1 : w.cell? ⟨B + 1, 1, none⟩ = some y) :
    ((w.setCell ⟨B, 0, none⟩ u).setCell ⟨B, 1, none⟩ v).cell? ⟨B + 1, 0, none⟩ = some x ∧ ((w.setCell ⟨B, 0, none⟩ u).setCell ⟨B, 1, none⟩ v).cell? ⟨B + 1, 1, none⟩ = some y := by
  have hb : ((w.setCell ⟨B, 0, none⟩ u).setCell ⟨B, 1, none⟩ v).heap[B + 1]? = w.heap[B + 1]? := (heap_setCell_other _ ⟨B, 1, none⟩ (B + 1) v (by show B + 1 ≠ B; omega)).trans (heap_setCell_other _ ⟨B, 0, none⟩ (B + 1) u (by show B + 1 ≠ B; omega))
  exact ⟨(World.cell?_of_block (a := ⟨B + 1, 0, none⟩) hb).trans h0, (World.cell?_of_block (a := ⟨B + 1, 1, none⟩) hb).trans h1⟩

end Go.Proofs.YtlnlbahggbbaeaaGreat.Fix
end

section
/- Walks: two numbers reckoned with; which texts compare. -/

namespace Go.Proofs.YtlnlbahggbbaeaaGreat.Fix
open Go.RowKit

end Go.Proofs.YtlnlbahggbbaeaaGreat.Fix
end

section
/- Walks: which texts compare. -/

namespace Go.Proofs.YtlnlbahggbbaeaaGreat.Fix
open Go.RowKit

end Go.Proofs.YtlnlbahggbbaeaaGreat.Fix
end
