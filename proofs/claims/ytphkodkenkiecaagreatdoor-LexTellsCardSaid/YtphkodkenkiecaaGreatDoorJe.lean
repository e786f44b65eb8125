/- Plain: digits with zeros ahead and a unit behind. -/
import Derived.Test.YtphkodkenkiecaaGreatDoorJd
namespace Go.Proofs.YtphkodkenkiecaaGreatDoor
open Go.Lib

def zdL (z v : Nat) : List UInt8 := List.replicate z 48 ++ decDigits v
theorem zd_dig (z v : Nat) : ∀ c ∈ zdL z v, digB c = true := by
  intro c hc
  rcases List.mem_append.1 hc with hc | hc
  · rw [(List.mem_replicate.1 hc).2]; decide
  · exact dec_dig v c hc
theorem zd_ne (z v : Nat) : zdL z v ≠ [] := fun h => dec_ne v (List.append_eq_nil_iff.1 h).2
theorem zd_val (z v : Nat) : valL (zdL z v) = v := by
  unfold zdL valL
  rw [valGo_app, show valGo 0 (List.replicate z 48) = 0 from val_zeros z]
  exact val_dec v
theorem zd_len (z v : Nat) : (zdL z v).length = z + (decDigits v).length := by unfold zdL; simp
theorem lexL_first (l : List UInt8) (hne : l ≠ []) (hk : kindZ (rune l) = 2) (o : Option Tk) (hf : firstL l = o) (ho : ∀ t, o = some t → t.2.2 = l.length) : lexL l = o.map fun t => [(t.1, 0, t.2.1)] := by
  rw [lexL_at]
  cases o with
  | none => rw [lexAt_none 0 hne (by rw [hk]; decide) hf]; rfl
  | some t => rw [lexAt_tok 0 hne (by rw [hk]; decide) hf, ho t rfl, List.drop_length]; rfl
theorem numbers_great (z v : Nat) (u : List UInt8) (h : 13 < (zdL z v).length ∨ 1000000000000 < v) : lexL (zdL z v ++ u) = none := by
  have hk := kind_digits (zdL z v) u (zd_ne z v) (zd_dig z v)
  rw [lexL_at]
  refine lexAt_none 0 (by simp [zd_ne]) (by rw [hk]; decide) ?_
  rw [first_digits _ u (zd_ne z v) (zd_dig z v)]
  exact num_great _ _ (zd_dig z v) (by rw [zd_val]; exact h)
theorem numbers_plain (z v : Nat) (h1 : (zdL z v).length ≤ 13) (h2 : v ≤ 1000000000000) : lexL (zdL z v) = some [(2, 0, decDigits v)] := by
  have hk := kind_digits (zdL z v) [] (zd_ne z v) (zd_dig z v)
  rw [List.append_nil] at hk
  have hf := first_digits (zdL z v) [] (zd_ne z v) (zd_dig z v)
  rw [List.append_nil, List.take_nil, List.append_nil, num_plain _ (zd_dig z v) h1 (by rw [zd_val]; exact h2), zd_val] at hf
  rw [lexL_first _ (zd_ne z v) hk _ hf (by intro t ht; cases ht; rfl)]; rfl
theorem numbers_unit (z v k : Nat) (c : UInt8) (hc : digB c = false) (hch : chainL [c] = 1) (hs : secsL [c] = k) (hk0 : k ≠ 0) (h1 : (zdL z v).length ≤ 13) (h2 : v ≤ 1000000000000) :
    lexL (zdL z v ++ [c]) = if 1000000000 < v * k then none else some [(4, 0, decDigits (v * k))] := by
  have hk := kind_digits (zdL z v) [c] (zd_ne z v) (zd_dig z v)
  have hf := first_digits (zdL z v) [c] (zd_ne z v) (zd_dig z v)
  rw [hch, List.take_one, show ([c] : List UInt8).head?.toList = [c] from rfl, num_unit _ c k hc hs (zd_dig z v) h1 (by rw [zd_val]; exact h2), zd_val] at hf
  by_cases hb : 1000000000 < v * k
  · rw [if_pos hb]
    rw [if_pos (.inr hb)] at hf
    exact lexL_first _ (by simp) hk none hf (by intro t ht; cases ht)
  · rw [if_neg hb]
    rw [if_neg (by omega)] at hf
    exact lexL_first _ (by simp) hk _ hf (by intro t ht; cases ht; simp)
end Go.Proofs.YtphkodkenkiecaaGreatDoor
