/- The document's patterns read: a part, again and again. -/
import Derived.Test.YtmidpekkomhogaaDa
import Derived.Deep.LoopGhost
namespace Go.Proofs.Ytmidpekkomhogaa.Dpt
open Go.RowKit Go.Lib
open Go.Proofs.Ytmidpekkomhogaa.Pat

/-- What is left, as the plain reader has it: bad where it takes none. -/
def LeftD (rs : List Int) : Option (List Int) → Bool → Nat → Prop
  | none, b, _ => b = true
  | some m, b, a => b = false ∧ rs.drop a = m ∧ a ≤ rs.length
/-- How a reader ends: where it is, whether it is bad, how many parts more. -/
def RdEnd (w : World) (bp : Nat) (rs : List Int) (a k c d lo top : Nat) (res : Option (List Int)) (e : Ending) (w' : World) : Prop :=
  ∃ (v : Int) (a' : Nat) (b' : Bool) (k' : Nat), e = .returned (.int .i64 v) ∧ DP w' bp rs a' b' k' ∧ Below bp w w' ∧ lo ≤ a' ∧ a' ≤ top ∧ k' + 3 * a + c ≤ k + 3 * a' + d ∧ LeftD rs res b' a'
def AtOK (bp : Nat) (rs : List Int) (n : Nat) : Prop := ∀ (a k : Nat) (W : World), DP W bp rs a false k → k ≤ 20000 + 3 * a + 1 → a < rs.length → 3 * (rs.length - a) + 1 ≤ n →
  Calls Try.prog 62 #[.pointer (some ⟨bp, 0, none⟩)] W (RdEnd W bp rs a k 2 0 (a + 1) (rs.length + 2 + 2 * n) ((atR n (rs.drop a)).map Prod.snd))
def AgOK (bp : Nat) (rs : List Int) (n : Nat) : Prop := ∀ (a k : Nat) (W : World), DP W bp rs a false k → k ≤ 20000 + 3 * a + 1 → a < rs.length → 3 * (rs.length - a) + 1 ≤ n →
  Calls Try.prog 51 #[.pointer (some ⟨bp, 0, none⟩)] W (RdEnd W bp rs a k 2 0 (a + 1) (rs.length + 3 + 2 * n) ((atR n (rs.drop a)).map fun p => tmR p.2))
theorem DP.mono {w : World} {bp : Nat} {rs : List Int} {a : Nat} {bad : Bool} {k k' : Nat} (h : DP w bp rs a bad k) (hk : k ≤ k') : DP w bp rs a bad k' := by
  obtain ⟨vp, root, o, c, N, xs, h1, h2, h3, h4⟩ := h
  exact ⟨vp, root, o, c, N, xs, h1, h2, h3, by omega⟩
theorem drop_tail (rs : List Int) (a : Nat) : rs.drop (a + 1) = (rs.drop a).tail := by rw [List.tail_drop]
theorem hd_lt {rs : List Int} {a : Nat} (h : hd (rs.drop a) ≠ -1) : a < rs.length := by
  apply Decidable.byContradiction
  intro hc
  exact h (hd_none (by omega))
theorem left_tm {rs : List Int} {q : Option (Pt × List Int)} {b : Bool} {a : Nat} (h : LeftD rs (q.map Prod.snd) b a) (hx : hd (rs.drop a) = 42 ∨ hd (rs.drop a) = 43 ∨ hd (rs.drop a) = 63) : LeftD rs (q.map fun p => tmR p.2) b (a + 1) := by
  cases q with
  | none => exact h
  | some p =>
    obtain ⟨h1, h2, h3⟩ := h
    refine ⟨h1, ?_, ?_⟩
    · rw [drop_tail, h2]
      rw [h2] at hx
      show p.2.tail = tmR p.2
      unfold tmR
      rw [if_pos hx]
    · have := hd_lt (rs := rs) (a := a) (by rcases hx with hx | hx | hx <;> rw [hx] <;> decide)
      omega
theorem left_no {rs : List Int} {q : Option (Pt × List Int)} {b : Bool} {a : Nat} (h : LeftD rs (q.map Prod.snd) b a) (hx : ¬ (hd (rs.drop a) = 42 ∨ hd (rs.drop a) = 43 ∨ hd (rs.drop a) = 63)) : LeftD rs (q.map fun p => tmR p.2) b a := by
  cases q with
  | none => exact h
  | some p =>
    obtain ⟨h1, h2, h3⟩ := h
    refine ⟨h1, ?_, h3⟩
    rw [h2] at hx
    show rs.drop a = tmR p.2
    rw [h2]
    unfold tmR
    rw [if_neg hx]

set_option maxHeartbeats 4000000 in
set_option maxRecDepth 100000 in
theorem again_ok (bp : Nat) (rs : List Int) (n : Nat) (hl : rs.length ≤ 1000) (hn : n ≤ 4000) (HA : AtOK bp rs n) : AgOK bp rs n := by
  intro a k w h hk ha hf
  have HAT := Lib.hid (HA a k w h hk ha hf)
  obtain ⟨q, hq⟩ : ∃ q, atR n (rs.drop a) = q := ⟨_, rfl⟩
  rw [hq] at HAT ⊢
  have HADD := Lib.hid (fun a' b' k' W (h : DP W bp rs a' b' k') (hk : k' ≤ 100000) => add_any bp rs a' b' k' W h hk)
  have HNX := Lib.hid (fun a' b' k' W (h : DP W bp rs a' b' k') (ha : a' ≤ 1000000) => next_any bp rs a' b' k' W h (by omega) ha)
  clear h hq HA
  go_enter Try.func51, Try.ntmps51
  go_wp2_with fail
  refine HAT.out.mono ?_
  rintro e w1 ⟨v, a1, b1, k1, rfl, hd1, hb1, hlo, htop, hk1, hres⟩
  have HR := Lib.hid hres
  have HB := Lib.hid hb1
  have HD := Lib.hid hd1
  obtain ⟨x, hx⟩ : ∃ x, hd (rs.drop a1) = x := ⟨_, rfl⟩
  have HX := Lib.hid hx
  have HN1 := Lib.hid (HNX.out a1 b1 k1 w1 hd1 (by omega))
  rw [hx] at HN1
  clear hx hres hb1 hd1
  have HKK := Lib.hid hk1
  clear hk1
  go_wp2_with fail
  refine HN1.out.mono ?_
  rintro e w2 ⟨rfl, q2, rfl⟩
  have hd2 : DP (w1.drewN q2) bp rs a1 b1 k1 := HD.out
  have HB2 := Lib.hid (show Below bp w (w1.drewN q2) from ⟨HB.out.os, HB.out.tape, HB.out.output, HB.out.size, HB.out.block⟩)
  have HA2 := Lib.hid (HADD.out a1 b1 k1 (w1.drewN q2) hd2 (by have := HKK.out; omega))
  obtain ⟨w2, hw2⟩ : ∃ w2, w1.drewN q2 = w2 := ⟨_, rfl⟩
  rw [hw2] at HB2 HA2
  have HD2 := Lib.hid (show DP w2 bp rs a1 b1 k1 by rw [← hw2]; exact hd2)
  have HW2 := Lib.hid hw2
  clear hd2 hw2
  by_cases h42 : x = 42
  · subst h42
    rw [HW2.out]
    go_wp2_with fail
    refine (HA2.out _ _ _ _ _ _ _ _ _ _ _ _ _).mono ?_
    rintro e w3 ⟨⟨m, rfl⟩, hd3, hb3⟩
    have HE := Lib.hid (And.intro (hd3.setAt (a1 + 1) ((a1 : Int) + 1) (by omega)) (below_set (HB2.out.trans hb3) (Nat.le_refl _) 3 (.int .i64 ((a1 : Int) + 1))))
    obtain ⟨vp, root, o, c, N, xs, h1, -⟩ := hd3
    obtain ⟨⟨c0, c1, c2, c3, c4⟩, f0, f1, f2, f3, f4⟩ := cells5 h1
    clear h1 hb3
    go_wp2
    go_ret
    exact ⟨m, a1 + 1, b1, k1 + 1, rfl, HE.out.1, HE.out.2, by omega, by omega, by have := HKK.out; omega, left_tm HR.out (.inl HX.out)⟩
  have e42 : (x == 42) = false := by simp [h42]
  by_cases h43 : x = 43
  · subst h43
    rw [HW2.out]
    go_wp2_with fail
    refine (HA2.out _ _ _ _ _ _ _ _ _ _ _ _ _).mono ?_
    rintro e w3 ⟨⟨m, rfl⟩, hd3, hb3⟩
    have HE := Lib.hid (And.intro (hd3.setAt (a1 + 1) ((a1 : Int) + 1) (by omega)) (below_set (HB2.out.trans hb3) (Nat.le_refl _) 3 (.int .i64 ((a1 : Int) + 1))))
    obtain ⟨vp, root, o, c, N, xs, h1, -⟩ := hd3
    obtain ⟨⟨c0, c1, c2, c3, c4⟩, f0, f1, f2, f3, f4⟩ := cells5 h1
    clear h1 hb3
    go_wp2
    go_ret
    exact ⟨m, a1 + 1, b1, k1 + 1, rfl, HE.out.1, HE.out.2, by omega, by omega, by have := HKK.out; omega, left_tm HR.out (.inr (.inl HX.out))⟩
  have e43 : (x == 43) = false := by simp [h43]
  by_cases h63 : x = 63
  · subst h63
    rw [HW2.out]
    go_wp2_with fail
    refine (HA2.out _ _ _ _ _ _ _ _ _ _ _ _ _).mono ?_
    rintro e w3 ⟨⟨m, rfl⟩, hd3, hb3⟩
    have HE := Lib.hid (And.intro (hd3.setAt (a1 + 1) ((a1 : Int) + 1) (by omega)) (below_set (HB2.out.trans hb3) (Nat.le_refl _) 3 (.int .i64 ((a1 : Int) + 1))))
    obtain ⟨vp, root, o, c, N, xs, h1, -⟩ := hd3
    obtain ⟨⟨c0, c1, c2, c3, c4⟩, f0, f1, f2, f3, f4⟩ := cells5 h1
    clear h1 hb3
    go_wp2
    go_ret
    exact ⟨m, a1 + 1, b1, k1 + 1, rfl, HE.out.1, HE.out.2, by omega, by omega, by have := HKK.out; omega, left_tm HR.out (.inr (.inr HX.out))⟩
  have e63 : (x == 63) = false := by simp [h63]
  have HNO := Lib.hid (show ¬ (hd (rs.drop a1) = 42 ∨ hd (rs.drop a1) = 43 ∨ hd (rs.drop a1) = 63) by rw [HX.out]; simp [h42, h43, h63])
  rw [HW2.out]
  go_wp2
  go_ret
  exact ⟨v, a1, b1, k1, rfl, HD2.out, HB2.out, hlo, by omega, by have := HKK.out; omega, left_no HR.out HNO.out⟩
end Go.Proofs.Ytmidpekkomhogaa.Dpt
