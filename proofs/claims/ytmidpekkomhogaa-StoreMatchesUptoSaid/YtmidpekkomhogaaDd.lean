/- The document's patterns read: one or the other. -/
import Derived.Test.YtmidpekkomhogaaDc
namespace Go.Proofs.Ytmidpekkomhogaa.Dpt
open Go.RowKit Go.Lib
open Go.Proofs.Ytmidpekkomhogaa.Pat

def EiOK (bp : Nat) (rs : List Int) (n : Nat) : Prop := ∀ (a k : Nat) (W : World), DP W bp rs a false k → k ≤ 20000 + 3 * a → a ≤ rs.length → 3 * (rs.length - a) + 3 ≤ n →
  Calls Try.prog 27 #[.pointer (some ⟨bp, 0, none⟩)] W (RdEnd W bp rs a k 0 1 a (rs.length + 3 + 2 * n) ((chR n (rs.drop a) []).map Prod.snd))
/-- What is to come of a choice. -/
def EiI (rs : List Int) (n : Nat) (R : Option (List Pt × List Int)) (kx a1 : Nat) (b1 : Bool) : Prop :=
  (b1 = true ∧ R = none) ∨ (b1 = false ∧ a1 ≤ rs.length ∧ 3 * (rs.length - a1) + 2 ≤ kx ∧ kx + 1 ≤ n ∧ ∃ acc, R = if hd (rs.drop a1) = 124 then chR kx (rs.drop a1).tail acc else some (acc, rs.drop a1))
theorem EiI.of {rs : List Int} {n g a1 a2 : Nat} {b2 : Bool} {R : Option (List Pt × List Int)} {acc : List Pt} (h : R = chR (g + 1) (rs.drop a1) acc) (hk : 3 * (rs.length - a1) + 3 ≤ g + 1) (hn : g + 1 ≤ n) (ha : a1 ≤ a2)
    (hr : LeftD rs ((cnR g (rs.drop a1) []).map Prod.snd) b2 a2) : EiI rs n R g a2 b2 := by
  rw [chR] at h
  cases hq : cnR g (rs.drop a1) [] with
  | none =>
    rw [hq] at h hr
    exact .inl ⟨hr, h⟩
  | some p =>
    rw [hq] at h hr
    obtain ⟨h1, h2, h3⟩ := hr
    exact .inr ⟨h1, h3, by omega, by omega, _, by rw [h2]; exact h⟩
theorem EiI.done {rs : List Int} {n kx a1 : Nat} {b1 : Bool} {R : Option (List Pt × List Int)} (h : EiI rs n R kx a1 b1) (hs : b1 = true ∨ hd (rs.drop a1) ≠ 124) : LeftD rs (R.map Prod.snd) b1 a1 := by
  rcases h with ⟨h1, h2⟩ | ⟨h1, h2, h3, _, acc, h4⟩
  · subst h2; exact h1
  · rw [if_neg (hs.resolve_left (by rw [h1]; exact Bool.false_ne_true))] at h4
    rw [h4]
    exact ⟨h1, rfl, h2⟩
/-- The loop's state. -/
def EiL (w : World) (bp : Nat) (rs : List Int) (a k n : Nat) (R : Option (List Pt × List Int)) (kx : Nat) (v : Value) (wr : World) : Prop := ∃ (z : Int) (a1 k1 : Nat) (b1 : Bool), v = .int .i64 z ∧ DP wr bp rs a1 b1 k1 ∧ Below bp w wr ∧ a ≤ a1 ∧ a1 ≤ rs.length + 3 + 2 * n ∧ k1 + 3 * a ≤ k + 3 * a1 + 1 ∧ EiI rs n R kx a1 b1

set_option maxHeartbeats 4000000 in
set_option maxRecDepth 100000 in
theorem either_ok (bp : Nat) (rs : List Int) (n : Nat) (hl : rs.length ≤ 1000) (hn : n ≤ 4000) (HG : ∀ m, m < n → BeOK bp rs m) : EiOK bp rs n := by
  intro a k w h hk ha hf
  obtain ⟨g0, rfl⟩ : ∃ g, n = g + 1 := ⟨n - 1, by omega⟩
  have HBE := Lib.hid (HG g0 (by omega) a k w h hk ha (by omega))
  have HADD := Lib.hid (fun a' b' k' W (h : DP W bp rs a' b' k') (hk : k' ≤ 100000) => add_any bp rs a' b' k' W h hk)
  have HNX := Lib.hid (fun a' b' k' W (h : DP W bp rs a' b' k') (ha : a' ≤ 1000000) => next_any bp rs a' b' k' W h (by omega) ha)
  have HAG := Lib.hid HG
  obtain ⟨L, hL⟩ : ∃ L, rs.length = L := ⟨_, rfl⟩
  have HL := Lib.hid hL
  obtain ⟨R, hR⟩ : ∃ R, chR (g0 + 1) (rs.drop a) [] = R := ⟨_, rfl⟩
  have HR := Lib.hid hR
  rw [hR]
  clear h HG hR
  rw [hL] at hl ha hf
  clear hL
  go_enter Try.func27, Try.ntmps27
  go_wp2_with fail
  refine HBE.out.mono ?_
  rintro e w1 ⟨z0, a0, b0, k0, rfl, hd1, hb1, hlo, htop, hk0, hres⟩
  have HST : EiL w bp rs a k (g0 + 1) R g0 (.int .i64 z0) w1 := ⟨z0, a0, k0, b0, rfl, hd1, hb1, hlo, by omega, by omega, EiI.of HR.out.symm (by rw [HL.out]; omega) (Nat.le_refl _) hlo hres⟩
  have HST2 := Lib.hid HST
  clear hd1 hb1 HST hlo htop hk0 hres
  go_wp2_with fail
  go_loopg [3] g0 (fun kx v wr => EiL w bp rs a k (g0 + 1) R kx v wr)
  case atStart => exact HST2.out
  case round =>
    clear HST2
    obtain ⟨z, a1, k1, b1, rfl, hd1, hb1, hlo, htop, hk1, HI⟩ := hrel
    rw [HL.out] at htop
    have HKK := Lib.hid (And.intro hlo (And.intro htop hk1))
    have HI2 := Lib.hid HI
    have HD := Lib.hid hd1
    have HB := Lib.hid hb1
    obtain ⟨x, hx⟩ : ∃ x, hd (rs.drop a1) = x := ⟨_, rfl⟩
    have HX := Lib.hid hx
    have C := Lib.hid (HNX.out a1 b1 k1 wr hd1 (by omega))
    rw [hx] at C
    by_cases h124 : x = 124
    · subst h124
      cases b1 with
      | true =>
        clear hd1 hb1 HI hlo htop hk1 hx
        go_wp2_with fail
        refine C.out.mono ?_
        rintro e w2 ⟨rfl, q2, rfl⟩
        have hd2 : DP (wr.drewN q2) bp rs a1 true k1 := HD.out
        have HD2 := Lib.hid (And.intro hd2 (show Below bp w (wr.drewN q2) from ⟨HB.out.os, HB.out.tape, HB.out.output, HB.out.size, HB.out.block⟩))
        obtain ⟨vp, root, o, c, N, xs, h1, -⟩ := hd2
        obtain ⟨⟨c0, c1, c2, c3, c4⟩, -⟩ := cells5 h1
        obtain ⟨w2, hw2⟩ : ∃ w2, wr.drewN q2 = w2 := ⟨_, rfl⟩
        have HW2 := Lib.hid hw2
        rw [hw2] at c4 HD2
        clear h1 c0 c1 c2 c3 hw2
        rw [HW2.out]
        go_wp2
        go_ret
        have H := HKK.out
        exact ⟨z, a1, true, k1, rfl, HD2.out.1, HD2.out.2, by omega, by rw [HL.out]; omega, by omega, HI2.out.done (.inl rfl)⟩
      | false =>
        obtain ⟨_, _, g3, g4, acc, g5⟩ := HI.resolve_left (fun h => Bool.false_ne_true h.1)
        rw [if_pos hx] at g5
        have hlt := hd_lt (rs := rs) (a := a1) (by rw [hx]; decide)
        rw [HL.out] at hlt
        obtain ⟨g, rfl⟩ : ∃ g, gk = g + 1 := ⟨gk - 1, by omega⟩
        rw [← drop_tail] at g5
        have HAC := Lib.hid g5
        have HGG := Lib.hid (And.intro g3 g4)
        have HLT := Lib.hid hlt
        clear hd1 hb1 HI hx g3 g4 g5
        go_wp2_with fail
        refine C.out.mono ?_
        rintro e w2 ⟨rfl, q2, rfl⟩
        have hd2 : DP (wr.drewN q2) bp rs a1 false k1 := HD.out
        have HB2 := Lib.hid (show Below bp w (wr.drewN q2) from ⟨HB.out.os, HB.out.tape, HB.out.output, HB.out.size, HB.out.block⟩)
        obtain ⟨w2, hw2⟩ : ∃ w2, wr.drewN q2 = w2 := ⟨_, rfl⟩
        have HW2 := Lib.hid hw2
        rw [hw2] at hd2 HB2
        have hd3 := hd2.setAt (a1 + 1) ((a1 : Int) + 1) (by omega)
        have HB3 := Lib.hid (below_set HB2.out (Nat.le_refl _) 3 (.int .i64 ((a1 : Int) + 1)))
        have HBE2 := Lib.hid (HAG.out g (by have := HGG.out; omega) (a1 + 1) k1 _ hd3 (by omega) (by rw [HL.out]; omega) (by have := HGG.out; rw [HL.out] at this ⊢; omega))
        obtain ⟨vp, root, o, c, N, xs, h1, -⟩ := hd2
        obtain ⟨⟨c0, c1, c2, c3, c4⟩, f0, f1, f2, f3, f4⟩ := cells5 h1
        clear h1 hw2 hd3 hlo htop hk1
        rw [HW2.out]
        go_wp2_with fail
        refine HBE2.out.mono ?_
        rintro e w3 ⟨v3, a3, b3, k3, rfl, hd3, hb3, hlo3, htop3, hk3, hres3⟩
        have HA3 := Lib.hid (HADD.out a3 b3 k3 w3 hd3 (by have := HKK.out; rw [HL.out] at htop3; have := HGG.out; omega))
        have HE := Lib.hid (And.intro (HB3.out.trans hb3) (And.intro hlo3 (And.intro htop3 (And.intro hk3 hres3))))
        clear hd3 hb3 hlo3 htop3 hk3 hres3 c0 c1 c2 c3 c4 f0 f1 f2 f3 f4
        go_wp2_with fail
        refine (HA3.out _ _ _ _ _ _ _ _ _ _ _ _ _).mono ?_
        rintro e w4 ⟨⟨z4, rfl⟩, hd4, hb4⟩
        have H4 := Lib.hid (And.intro hd4 hb4)
        clear hd4 hb4
        go_wp2_with fail
        go_roundg g
        case measure => omega
        case rel =>
          obtain ⟨E1, E2, E3, E4, E5⟩ := HE.out
          have H := HKK.out
          have HG2 := HGG.out
          have HLT2 := HLT.out
          rw [HL.out] at E3 HG2
          exact ⟨z4, a3, k3 + 1, b3, rfl, H4.out.1, E1.trans H4.out.2, by omega, by rw [HL.out]; omega, by omega, EiI.of HAC.out (by rw [HL.out]; omega) (by omega) E2 E5⟩
    · have e124 : (x == 124) = false := by simp [h124]
      clear hd1 hb1 HI hlo htop hk1 hx
      go_wp2_with fail
      refine C.out.mono ?_
      rintro e w2 ⟨rfl, q2, rfl⟩
      have HD2 := Lib.hid (show DP (wr.drewN q2) bp rs a1 b1 k1 ∧ Below bp w (wr.drewN q2) from ⟨HD.out, HB.out.os, HB.out.tape, HB.out.output, HB.out.size, HB.out.block⟩)
      obtain ⟨w2, hw2⟩ : ∃ w2, wr.drewN q2 = w2 := ⟨_, rfl⟩
      have HW2 := Lib.hid hw2
      rw [hw2] at HD2
      clear hw2
      rw [HW2.out]
      go_wp2
      go_ret
      have H := HKK.out
      exact ⟨z, a1, b1, k1, rfl, HD2.out.1, HD2.out.2, by omega, by rw [HL.out]; omega, by omega, HI2.out.done (.inr (by rw [HX.out]; exact h124))⟩
end Go.Proofs.Ytmidpekkomhogaa.Dpt
