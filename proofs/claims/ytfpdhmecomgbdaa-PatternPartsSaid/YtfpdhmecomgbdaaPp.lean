/- Patterns: whether a rune is what an atom says. -/
import Derived.Test.YtfpdhmecomgbdaaPo
import Derived.Test.YtfpdhmecomgbdaaQc
namespace Go.Proofs.Ytfpdhmecomgbdaa
open Go.RowKit

theorem SeesI.below {w w' : World} {P : Nat → Prop} {o : Option Addr} {xs : List (Int × Int)} (h : SeesI w P o xs) (hb : Below w.heap.size w w') : SeesI w' P o xs :=
  h.keep fun b hp hl => ⟨hb.block b hl, hp⟩
theorem hasF_to (xs : List (Int × Int)) (r : Int) (k : Nat) (h : k < xs.length) (h0 : hasF (xs.take k) r = false) : hasF xs r = ((decide (xs[k].1 ≤ r) && decide (r ≤ xs[k].2)) || hasF (xs.drop (k + 1)) r) := by
  have e : xs = xs.take k ++ xs[k] :: xs.drop (k + 1) := by rw [← List.drop_eq_getElem_cons h]; exact (List.take_append_drop k xs).symm
  have h1 : hasF xs r = (hasF (xs.take k) r || hasF (xs[k] :: xs.drop (k + 1)) r) := by
    conv => lhs; rw [e]
    exact List.any_append
  rw [h1, h0]
  rfl
theorem hasF_take (xs : List (Int × Int)) (r : Int) (k : Nat) (x : Int × Int) (h : xs[k]? = some x) (h0 : hasF (xs.take k) r = false) (h1 : (decide (x.1 ≤ r) && decide (r ≤ x.2)) = false) : hasF (xs.take (k + 1)) r = false := by
  rw [List.take_add_one, h]
  simp only [hasF, List.any_append, Option.toList_some, List.any_cons, List.any_nil, Bool.or_false] at h0 ⊢
  rw [h0, h1]; rfl

set_option maxHeartbeats 4000000 in
set_option maxRecDepth 100000 in
theorem has_any (neg : Bool) (o : Option Addr) (n cap : Nat) (xs : List (Int × Int)) (r : Int) (P : Nat → Prop) (w : World) (hn : xs.length = n) (hm : n ≤ 2000000) (hS : SeesI w P o xs) :
    Calls Try.prog 33 #[.agg #[.bool neg, .slice o n cap], .int .i32 r] w fun e w' => e = .returned (.bool (hasF xs r)) ∧ Below w.heap.size w w' := by
  have HN := Lib.hid hn
  have HS := Lib.hid hS
  obtain ⟨R, hR⟩ : ∃ R, hasF xs r = R := ⟨_, rfl⟩
  rw [hR]
  have HR := Lib.hid hR
  clear hn hS hR
  go_enter Try.func33, Try.ntmps33
  go_wp2_with fail
  go_loopg [10] n (fun k v wr => ∃ i : Nat, k + i = n ∧ v = .int .i64 i ∧ Hid (Below w.heap.size w wr ∧ hasF (xs.take i) r = false))
  case atStart => exact ⟨0, rfl, rfl, (Below.refl _ _).alloc (Nat.le_refl _) _, by simp [hasF]⟩
  case round =>
    obtain ⟨i, hgk, rfl, H⟩ := hrel
    have HGK := Lib.hid hgk
    by_cases hin : i < n
    · have i1 : (i : Int) < n := by omega
      obtain ⟨x, hx⟩ : ∃ x, xs[i]? = some x := ⟨_, List.getElem?_eq_getElem (by rw [HN.out]; exact hin)⟩
      rcases HS.out.keep (w' := wr) (Q := P) (fun b hp hl => ⟨H.out.1.block b hl, hp⟩) with h0 | ⟨b, off, rfl, hp, hl, hs⟩
      · rw [h0] at hx; simp at hx
      obtain ⟨c0, c1⟩ := hs i x hx
      have hB := H.out.1.alloc H.out.1.size (Obj.cells #[.int .i32 x.1, .int .i32 x.2] 92)
      have HB := Lib.hid hB
      have HX := Lib.hid hx
      obtain ⟨x1, x2⟩ := x
      dsimp only at c0 c1
      clear hs hx hB hgk
      by_cases h1 : x1 ≤ r
      · have d1 : decide (x1 ≤ r) = true := by simpa using h1
        by_cases h2 : r ≤ x2
        · have d2 : decide (r ≤ x2) = true := by simpa using h2
          have HT := Lib.hid (show R = true by
            rw [← HR.out, hasF_to xs r i (by rw [HN.out]; exact hin) H.out.2, (List.getElem?_eq_some_iff.1 HX.out).2]
            simp [h1, h2])
          go_wp2_with fail
          go_ret
          exact ⟨ret_bool HT.out.symm, HB.out⟩
        · have d2 : decide (r ≤ x2) = false := by simpa using h2
          have HT := Lib.hid (hasF_take xs r i _ HX.out H.out.2 (by simp [h2]))
          go_wp2_with fail
          go_roundg (gk - 1)
          case measure => have := HGK.out; omega
          case rel => exact ⟨i + 1, by have := HGK.out; omega, by go_num, HB.out, HT.out⟩
      · have d1 : decide (x1 ≤ r) = false := by simpa using h1
        have HT := Lib.hid (hasF_take xs r i _ HX.out H.out.2 (by simp [h1]))
        go_wp2_with fail
        go_roundg (gk - 1)
        case measure => have := HGK.out; omega
        case rel => exact ⟨i + 1, by have := HGK.out; omega, by go_num, HB.out, HT.out⟩
    · have i1 : (n : Int) ≤ i := by omega
      have HT := Lib.hid (show R = false by rw [← HR.out]; have := H.out.2; rwa [List.take_of_length_le (by rw [HN.out]; omega)] at this)
      clear hgk
      go_wp2_with fail
      go_ret
      exact ⟨ret_bool HT.out.symm, H.out.1⟩
end Go.Proofs.Ytfpdhmecomgbdaa
