import Derived.Test.YtldlfmeppcdbbaaGa
import Derived.OneCell
import Derived.Deep.RegionHeld3
import Derived.Deep.RegionWith
import Derived.Deep.DeepMust
import Derived.Outline
section
/- Walks: whether a number may be; signs. -/

namespace Go.Proofs.Ytldlfmeppcdbbaa.Fix
open Go.RowKit

set_option maxHeartbeats 400000 in
theorem right_any (v : Int) (w : World) : Calls Try.prog 56 #[.int .i64 v] w fun e w' => e = .returned (.bool (rgtB v)) ∧ w = w' := by
  by_cases h1 : -1000000000000 ≤ v
  · by_cases h2 : v ≤ 1000000000000
    · have H := Lib.hid (show true = rgtB v by unfold rgtB rgt; simp [h1, h2])
      have t1 : decide (-1000000000000 ≤ v) = true := by simpa using h1
      have t2 : decide (v ≤ 1000000000000) = true := by simpa using h2
      go_enter Try.func56, Try.ntmps56
      go_wp2
      go_ret
      exact ⟨ret_bool H.out, rfl⟩
    · have H := Lib.hid (show false = rgtB v by unfold rgtB rgt; simp [h2])
      have t1 : decide (-1000000000000 ≤ v) = true := by simpa using h1
      have t2 : decide (v ≤ 1000000000000) = false := by simpa using h2
      clear h2
      go_enter Try.func56, Try.ntmps56
      go_wp2
      go_ret
      exact ⟨ret_bool H.out, rfl⟩
  · have H := Lib.hid (show false = rgtB v by unfold rgtB rgt; simp [h1])
    have t1 : decide (-1000000000000 ≤ v) = false := by simpa using h1
    clear h1
    go_enter Try.func56, Try.ntmps56
    go_wp2
    go_ret
    exact ⟨ret_bool H.out, rfl⟩

set_option maxHeartbeats 400000 in
theorem value_any (v : Int) (w : World) : Calls Try.prog 35 #[.int .i64 v] w fun e w' => e = .returned (.bool (rgtB v)) ∧ w = w' := by
  by_cases h1 : -1000000000000 ≤ v
  · by_cases h2 : v ≤ 1000000000000
    · have H := Lib.hid (show true = rgtB v by unfold rgtB rgt; simp [h1, h2])
      have t1 : decide (-1000000000000 ≤ v) = true := by simpa using h1
      have t2 : decide (v ≤ 1000000000000) = true := by simpa using h2
      go_enter Try.func35, Try.ntmps35
      go_wp2
      go_ret
      exact ⟨ret_bool H.out, rfl⟩
    · have H := Lib.hid (show false = rgtB v by unfold rgtB rgt; simp [h2])
      have t1 : decide (-1000000000000 ≤ v) = true := by simpa using h1
      have t2 : decide (v ≤ 1000000000000) = false := by simpa using h2
      clear h2
      go_enter Try.func35, Try.ntmps35
      go_wp2
      go_ret
      exact ⟨ret_bool H.out, rfl⟩
  · have H := Lib.hid (show false = rgtB v by unfold rgtB rgt; simp [h1])
    have t1 : decide (-1000000000000 ≤ v) = false := by simpa using h1
    clear h1
    go_enter Try.func35, Try.ntmps35
    go_wp2
    go_ret
    exact ⟨ret_bool H.out, rfl⟩

end Go.Proofs.Ytldlfmeppcdbbaa.Fix
end

section
/- Walks: products, signs. -/

namespace Go.Proofs.Ytldlfmeppcdbbaa.Fix
open Go.RowKit

end Go.Proofs.Ytldlfmeppcdbbaa.Fix
end

section
/- Walks: a text is read as a sign. -/

namespace Go.Proofs.Ytldlfmeppcdbbaa.Fix
open Go.RowKit

/-- What has been read of runes, and what is left. -/
def ReadSt (l : List Int) (n : Nat) (f : Int) (q : Bool) (r : List Int) : Prop :=
  (n = 0 ∧ f = 0 ∧ q = false ∧ l = r) ∨ (n = 1 ∧ q = false ∧ l = f :: r) ∨ (n = 2 ∧ q = true ∧ l = f :: 61 :: r)
theorem ReadSt.done {l : List Int} {n : Nat} {f : Int} {q : Bool} (h : ReadSt l n f q []) : readF l = (f, q, reckB f q || cmpB f q) := by
  rcases h with ⟨_, rfl, rfl, rfl⟩ | ⟨_, rfl, rfl⟩ | ⟨_, rfl, rfl⟩
  · rfl
  · rfl
  · simp [readF]
theorem ReadSt.le {l : List Int} {n : Nat} {f : Int} {q : Bool} {r : List Int} (h : ReadSt l n f q r) : n ≤ 2 := by
  rcases h with ⟨h, _⟩ | ⟨h, _⟩ | ⟨h, _⟩ <;> omega
theorem ReadSt.zero {l : List Int} {f : Int} {q : Bool} {x : Int} {r : List Int} (h : ReadSt l 0 f q (x :: r)) : q = false ∧ ReadSt l 1 x false r := by
  rcases h with ⟨_, rfl, rfl, rfl⟩ | ⟨h, _⟩ | ⟨h, _⟩
  · exact ⟨rfl, .inr (.inl ⟨rfl, rfl, rfl⟩)⟩
  all_goals omega
theorem ReadSt.one {l : List Int} {f : Int} {q : Bool} {r : List Int} (h : ReadSt l 1 f q (61 :: r)) : ReadSt l 2 f true r := by
  rcases h with ⟨h, _⟩ | ⟨_, rfl, rfl⟩ | ⟨h, _⟩
  · omega
  · exact .inr (.inr ⟨rfl, rfl, rfl⟩)
  · omega

end Go.Proofs.Ytldlfmeppcdbbaa.Fix
end

section
/- Walks: two numbers reckoned with; which texts compare. -/

namespace Go.Proofs.Ytldlfmeppcdbbaa.Fix
open Go.RowKit

end Go.Proofs.Ytldlfmeppcdbbaa.Fix
end

section
/- Walks: which texts compare. -/

namespace Go.Proofs.Ytldlfmeppcdbbaa.Fix
open Go.RowKit

end Go.Proofs.Ytldlfmeppcdbbaa.Fix
end
