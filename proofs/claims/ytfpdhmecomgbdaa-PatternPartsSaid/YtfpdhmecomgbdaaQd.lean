/- Patterns, plain: as much of a text as its beginning says is taken whole, and no more. No program in it. -/
import Derived.Test.YtfpdhmecomgbdaaQc
namespace Go.Proofs.Ytfpdhmecomgbdaa

theorem begGo_bounds (g : Gr) (last : Nat) : ∀ (rs : List Int) (op c : Nat) (m : Int), m ≤ c → (begGo g last op c m rs = m ∨ (c : Int) + 1 ≤ begGo g last op c m rs) ∧ begGo g last op c m rs ≤ c + rs.length ∧ m ≤ begGo g last op c m rs
  | [], op, c, m, h => by simp [begGo]; exact h
  | r :: rs, op, c, m, h => by
    rw [begGo]
    by_cases h0 : hitF g op r = 0
    · rw [if_pos h0]
      refine ⟨.inl rfl, ?_, Int.le_refl _⟩
      simp only [List.length_cons]
      omega
    · rw [if_neg h0]
      by_cases h1 : hitF g op r &&& last = 0
      · rw [if_pos h1]
        have ih := begGo_bounds g last rs (behF g (hitF g op r)) (c + 1) m (by omega)
        simp only [List.length_cons]
        refine ⟨?_, by omega, ih.2.2⟩
        rcases ih.1 with e | e
        · exact .inl e
        · exact .inr (by omega)
      · rw [if_neg h1]
        have ih := begGo_bounds g last rs (behF g (hitF g op r)) (c + 1) ((c + 1 : Nat) : Int) (Int.le_refl _)
        simp only [List.length_cons]
        exact ⟨.inr (by omega), by omega, by omega⟩
theorem begGo_take (g : Gr) (last : Nat) : ∀ (rs : List Int) (op c : Nat) (m : Int) (k : Nat), m ≤ c → k ≤ rs.length →
    (begGo g last op c m (rs.take k) = (c + k : Nat) → ((c + k : Nat) : Int) ≤ begGo g last op c m rs) ∧ (begGo g last op c m rs = (c + k : Nat) → begGo g last op c m (rs.take k) = (c + k : Nat))
  | [], op, c, m, k, h, hk => by
    simp at hk; subst hk
    simp [begGo]
    omega
  | r :: rs, op, c, m, 0, h, hk => by
    have hb := begGo_bounds g last (r :: rs) op c m h
    simp only [List.take_zero, begGo, Nat.add_zero]
    rw [begGo] at hb
    exact ⟨fun e => by omega, fun e => by rcases hb.1 with e1 | e1 <;> omega⟩
  | r :: rs, op, c, m, k + 1, h, hk => by
    simp only [List.length_cons] at hk
    rw [List.take_succ_cons, begGo, begGo]
    by_cases h0 : hitF g op r = 0
    · rw [if_pos h0, if_pos h0]
      exact ⟨fun e => by omega, fun e => e⟩
    · rw [if_neg h0, if_neg h0]
      have e : c + 1 + k = c + (k + 1) := by omega
      by_cases h1 : hitF g op r &&& last = 0
      · rw [if_pos h1]
        have ih := begGo_take g last rs (behF g (hitF g op r)) (c + 1) m k (by omega) (by omega)
        rwa [e] at ih
      · rw [if_neg h1]
        have ih := begGo_take g last rs (behF g (hitF g op r)) (c + 1) ((c + 1 : Nat) : Int) k (Int.le_refl _) (by omega)
        rwa [e] at ih
def wholeF (p : Eg × Gr) (rs : List Int) : Bool := begF p rs == (rs.length : Int)
theorem beg_law (p : Eg × Gr) (rs : List Int) : -1 ≤ begF p rs ∧ begF p rs ≤ rs.length ∧ ∀ k, k ≤ rs.length → (wholeF p (rs.take k) = true → (k : Int) ≤ begF p rs) ∧ (begF p rs = (k : Int) → wholeF p (rs.take k) = true) := by
  have hm : (if p.1.none then (0 : Int) else -1) ≤ ((0 : Nat) : Int) ∧ -1 ≤ (if p.1.none then (0 : Int) else -1) := by split <;> omega
  have hb := begGo_bounds p.2 p.1.last rs p.1.first 0 _ hm.1
  unfold wholeF begF
  refine ⟨by omega, by have := hb.2.1; simpa using this, fun k hk => ?_⟩
  have ht := begGo_take p.2 p.1.last rs p.1.first 0 _ k hm.1 hk
  rw [List.length_take, Nat.min_eq_left hk]
  simp only [Nat.zero_add] at ht
  exact ⟨fun e => ht.1 (by simpa using e), fun e => by simpa using ht.2 e⟩
end Go.Proofs.Ytfpdhmecomgbdaa
