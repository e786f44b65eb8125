/- Vectors: how many rows come of them, and how long these are, plain. -/
import Derived.Test.YtbdnonphkobkoaaGreatGk
import Derived.Test.YtbdnonphkobkoaaGreatVdd
namespace Go.Proofs.YtbdnonphkobkoaaGreat.Vec
open Go.RowKit

theorem order_sm {xs : List Rw} (h : SmR xs) : SmR (orderR xs).1 := by
  rcases order_cases xs with e | ⟨_, hp, _⟩
  · rw [e]; exact fun x hx => by cases hx
  · exact fun x hx => h x (hp.mem_iff.1 hx)
theorem sm_snoc {xs : List Rw} {x : Rw} (h : SmR xs) (hx : SmL x.1) : SmR (xs ++ [x]) := fun y hy => by
  rcases List.mem_append.1 hy with hy | hy
  · exact h y hy
  · rw [List.mem_singleton.1 hy]; exact hx
theorem sm_nil : SmR [] := fun x hx => by cases hx
theorem reck_sm (op : ByteArray) : ∀ (ps : List Pr) (acc : List Rw), SmR acc → SmP ps → SmR (reckA op acc ps).1 ∧ (reckA op acc ps).1.length ≤ acc.length + ps.length
  | [], acc, h, _ => ⟨order_sm h, order_len acc⟩
  | p :: ps, acc, h, hp => by
    have h1 := hp p List.mem_cons_self
    have h2 : SmP ps := fun q hq => hp q (List.mem_cons_of_mem _ hq)
    have ha : SmR (putP op p acc) ∧ (putP op p acc).length ≤ acc.length + 1 := by
      unfold putP
      split
      · split
        · exact ⟨sm_snoc h h1.1, by simp⟩
        · exact ⟨h, Nat.le_succ _⟩
      · exact ⟨sm_snoc h h1.2, by simp⟩
    rw [reck_cons]
    split
    · have ih := reck_sm op ps (putP op p acc) ha.1 h2
      exact ⟨ih.1, Nat.le_trans ih.2 (by rw [List.length_cons]; have := ha.2; omega)⟩
    · exact ⟨sm_nil, Nat.zero_le _⟩
theorem tidy_sm {xs : List Rw} (h : SmR xs) : SmR (tidyR xs).1 ∧ (tidyR xs).1.length ≤ xs.length := by
  unfold tidyR
  split
  · exact ⟨order_sm h, order_len xs⟩
  · exact ⟨sm_nil, Nat.zero_le _⟩
theorem scale_sm (op : ByteArray) {xs : List Rw} (v : Int) (left : Bool) (h : SmR xs) : SmR (scaleR op xs v left).1 ∧ (scaleR op xs v left).1.length ≤ xs.length := by
  unfold scaleR
  split
  · have := reck_sm op (xs.map (pairS v left)) [] sm_nil (pairS_sm v left h)
    rw [List.length_map] at this
    exact ⟨this.1, by simpa using this.2⟩
  · exact ⟨sm_nil, Nat.zero_le _⟩
theorem match_sm (op : ByteArray) {a : List Rw} (b : List Rw) (mode : Int) (ns : List ByteArray) (h : SmR a) : SmR (matchR op a b mode ns).1 ∧ (matchR op a b mode ns).1.length ≤ a.length := by
  unfold matchR
  split
  · split
    · have := reck_sm op (a.filterMap (pairM mode ns b)) [] sm_nil (pairM_sm mode ns h)
      have h2 := List.length_filterMap_le (pairM mode ns b) a
      exact ⟨this.1, Nat.le_trans this.2 (by simpa using h2)⟩
    · exact ⟨sm_nil, Nat.zero_le _⟩
  · exact ⟨sm_nil, Nat.zero_le _⟩
end Go.Proofs.YtbdnonphkobkoaaGreat.Vec
