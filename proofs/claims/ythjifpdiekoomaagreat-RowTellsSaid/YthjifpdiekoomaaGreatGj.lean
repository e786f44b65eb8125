import Derived.Test.YthjifpdiekoomaaGreatGh
import Derived.Test.YthjifpdiekoomaaGreatGf
section
/- The document's order of labels, without a change; rows laid into a list, plain. -/

namespace Go.Proofs.YthjifpdiekoomaaGreat.Vec
open Go.RowKit Go.Lib

def insR {α : Type} (S : List α) (x : α) (k : Nat) : List α := S.take k ++ x :: S.drop k
theorem insR_len {α : Type} (S : List α) (x : α) (k : Nat) : (insR S x k).length = S.length + 1 := by
  unfold insR
  rw [List.length_append, List.length_cons, ← Nat.add_assoc, ← List.length_append, List.take_append_drop]
theorem insR_perm {α : Type} (S : List α) (x : α) (k : Nat) : (insR S x k).Perm (S ++ [x]) := by
  unfold insR
  have h1 : (S.take k ++ x :: S.drop k).Perm (x :: (S.take k ++ S.drop k)) := List.perm_middle
  rw [List.take_append_drop] at h1
  exact h1.trans (List.perm_append_comm (l₁ := [x]) (l₂ := S))
structure LaidR (S xs : List Rw) (i : Nat) : Prop where
  len : S.length = i
  rises : risesR S = true
  perm : S.Perm (xs.take i)
theorem LaidR.nil (xs : List Rw) : LaidR [] xs 0 := ⟨rfl, rfl, List.Perm.refl _⟩
theorem LaidR.step {S xs : List Rw} {x : Rw} {i : Nat} (h : LaidR S xs i) (k : Nat) (hk : k ≤ i) (h1 : ∀ y ∈ S.drop k, cmpL x.1 y.1 < 0) (h2 : ∀ m y, k = m + 1 → S[m]? = some y → cmpL y.1 x.1 < 0) (hx : xs[i]? = some x) : LaidR (insR S x k) xs (i + 1) := by
  refine ⟨by rw [insR_len, h.len], ?_, ?_⟩
  · have hp := (rises_iff S).1 h.rises
    have hlow : ∀ y ∈ S.take k, cmpL y.1 x.1 < 0 := by
      intro y hy
      obtain ⟨j, hj, rfl⟩ := List.getElem_of_mem hy
      rw [List.length_take] at hj
      rw [List.getElem_take]
      cases k with
      | zero => omega
      | succ m =>
        have hm : m < S.length := by have := h.len; omega
        have hl := h2 m S[m] rfl (List.getElem?_eq_getElem hm)
        by_cases e : j = m
        · subst e; exact hl
        · exact cmpL_lt_trans ((List.pairwise_iff_getElem.1 hp) j m (by omega) hm (by omega)) hl
    unfold insR
    rw [rises_iff, List.pairwise_append]
    refine ⟨hp.take, List.pairwise_cons.2 ⟨h1, hp.drop⟩, fun a ha b hb => ?_⟩
    rcases List.mem_cons.1 hb with rfl | hb
    · exact hlow a ha
    · exact cmpL_lt_trans (hlow a ha) (h1 b hb)
  · rw [List.take_add_one, hx]
    exact (insR_perm S x k).trans (h.perm.append_right _)
theorem LaidR.done {S xs : List Rw} {n : Nat} (h : LaidR S xs n) (hn : xs.length = n) : orderR xs = (S, 0) := by
  have hp := h.perm
  rw [List.take_of_length_le (by omega)] at hp
  rw [order_any hp (rises_sorted h.rises), if_pos h.rises]
end Go.Proofs.YthjifpdiekoomaaGreat.Vec
end

section
/- The document's order of rows: the walk. -/

namespace Go.Proofs.YthjifpdiekoomaaGreat.Vec
open Go.RowKit

end Go.Proofs.YthjifpdiekoomaaGreat.Vec
end
