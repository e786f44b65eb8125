/- The document's patterns read: one part behind the other. -/
import Derived.Test.YtmidpekkomhogaaDb
namespace Go.Proofs.Ytmidpekkomhogaa.Dpt
open Go.RowKit Go.Lib
open Go.Proofs.Ytmidpekkomhogaa.Pat

def BeOK (bp : Nat) (rs : List Int) (n : Nat) : Prop := ∀ (a k : Nat) (W : World), DP W bp rs a false k → k ≤ 20000 + 3 * a → a ≤ rs.length → 3 * (rs.length - a) + 2 ≤ n →
  Calls Try.prog 36 #[.pointer (some ⟨bp, 0, none⟩)] W (RdEnd W bp rs a k 0 1 a (rs.length + 3 + 2 * n) ((cnR n (rs.drop a) []).map Prod.snd))
/-- What is to come of a row of parts. -/
def BeI (rs : List Int) (n : Nat) (R : Option (List Pt × List Int)) (kx a1 : Nat) (b1 : Bool) : Prop :=
  (b1 = true ∧ R = none) ∨ (b1 = false ∧ a1 ≤ rs.length ∧ 3 * (rs.length - a1) + 2 ≤ kx ∧ kx ≤ n ∧ ∃ acc, R = cnR kx (rs.drop a1) acc)
theorem BeI.done {rs : List Int} {n kx a1 : Nat} {b1 : Bool} {R : Option (List Pt × List Int)} (h : BeI rs n R kx a1 b1) (hs : b1 = true ∨ rs.drop a1 = [] ∨ hd (rs.drop a1) = 124 ∨ hd (rs.drop a1) = 41) : LeftD rs (R.map Prod.snd) b1 a1 := by
  rcases h with ⟨h1, h2⟩ | ⟨h1, h2, h3, _, acc, h4⟩
  · subst h2; exact h1
  · have hs2 := hs.resolve_left (by rw [h1]; exact Bool.false_ne_true)
    obtain ⟨g, rfl⟩ : ∃ g, kx = g + 1 := ⟨kx - 1, by omega⟩
    rw [cnR, if_pos hs2] at h4
    rw [h4]
    exact ⟨h1, rfl, h2⟩
theorem BeI.step {rs : List Int} {n g a1 a2 : Nat} {b2 : Bool} {R : Option (List Pt × List Int)} {acc : List Pt} (h : R = cnR (g + 1) (rs.drop a1) acc) (hs : ¬ (rs.drop a1 = [] ∨ hd (rs.drop a1) = 124 ∨ hd (rs.drop a1) = 41)) (hk : 3 * (rs.length - a1) + 2 ≤ g + 1) (hn : g + 1 ≤ n) (ha : a1 + 1 ≤ a2) (hl : a1 < rs.length)
    (hr : LeftD rs ((atR g (rs.drop a1)).map fun p => tmR p.2) b2 a2) : BeI rs n R g a2 b2 := by
  rw [cnR, if_neg hs] at h
  cases hq : atR g (rs.drop a1) with
  | none =>
    rw [hq] at h hr
    exact .inl ⟨hr, h⟩
  | some p =>
    rw [hq] at h hr
    obtain ⟨h1, h2, h3⟩ := hr
    exact .inr ⟨h1, h3, by omega, by omega, _, by rw [h2]; exact h⟩
/-- The loop's state. -/
def BeL (w : World) (bp : Nat) (rs : List Int) (a k n : Nat) (R : Option (List Pt × List Int)) (kx : Nat) (v : Value) (wr : World) : Prop := ∃ (z : Int) (a1 k1 : Nat) (b1 : Bool), v = .int .i64 z ∧ DP wr bp rs a1 b1 k1 ∧ Below bp w wr ∧ a ≤ a1 ∧ a1 ≤ rs.length + 3 + 2 * n ∧ k1 + 3 * a ≤ k + 3 * a1 + 1 ∧ 1 ≤ kx ∧ BeI rs n R kx a1 b1

set_option maxHeartbeats 4000000 in
set_option maxRecDepth 100000 in
theorem behind_ok (bp : Nat) (rs : List Int) (n : Nat) (hl : rs.length ≤ 1000) (hn : n ≤ 4000) (HG : ∀ m, m < n → AgOK bp rs m) : BeOK bp rs n := by
  intro a k w h hk ha hf
  have HA1 := Lib.hid (add_any bp rs a false k w h (by omega))
  have HADD := Lib.hid (fun a' b' k' W (h : DP W bp rs a' b' k') (hk : k' ≤ 100000) => add_any bp rs a' b' k' W h hk)
  have HNX := Lib.hid (fun a' k' W (h : DP W bp rs a' false k') (ha : a' ≤ 1000000) => next_any bp rs a' false k' W h (by omega) ha)
  have HAG := Lib.hid HG
  obtain ⟨L, hL⟩ : ∃ L, rs.length = L := ⟨_, rfl⟩
  have HL := Lib.hid hL
  obtain ⟨R, hR⟩ : ∃ R, cnR n (rs.drop a) [] = R := ⟨_, rfl⟩
  have HR := Lib.hid hR
  rw [hR]
  clear h HG hR
  rw [hL] at hl ha hf
  clear hL
  go_enter Try.func36, Try.ntmps36
  go_wp2_with fail
  refine (HA1.out _ _ _ _ _ _ _ _ _ _ _ _ _).mono ?_
  rintro e w1 ⟨⟨z0, rfl⟩, hd1, hb1⟩
  have HST : BeL w bp rs a k n R n (.int .i64 z0) w1 := ⟨z0, a, k + 1, false, rfl, hd1, hb1, Nat.le_refl _, by rw [HL.out]; omega, by omega, by omega, .inr ⟨rfl, by rw [HL.out]; omega, by rw [HL.out]; omega, Nat.le_refl _, [], HR.out.symm⟩⟩
  have HST2 := Lib.hid HST
  clear hd1 hb1 HST
  go_wp2_with fail
  go_loopg [3] n (fun kx v wr => BeL w bp rs a k n R kx v wr)
  case atStart => exact HST2.out
  case round =>
    clear HST2
    obtain ⟨z, a1, k1, b1, rfl, hd1, hb1, hlo, htop, hk1, hkx, HI⟩ := hrel
    rw [HL.out] at htop
    have HKK := Lib.hid (And.intro hlo (And.intro htop (And.intro hk1 hkx)))
    have HI2 := Lib.hid HI
    have HD := Lib.hid hd1
    have HB := Lib.hid hb1
    cases b1 with
    | true =>
      obtain ⟨vp, root, o, c, N, xs, h1, -⟩ := hd1
      obtain ⟨⟨c0, c1, c2, c3, c4⟩, -⟩ := cells5 h1
      clear h1 hb1 HI hlo htop hk1 hkx
      go_wp2_with fail
      go_quiet (fail)
      go_wp2
      go_ret
      have H := HKK.out
      exact ⟨z, a1, true, k1, rfl, HD.out, ⟨HB.out.os, HB.out.tape, HB.out.output, HB.out.size, HB.out.block⟩, by omega, by rw [HL.out]; omega, by omega, HI2.out.done (.inl rfl)⟩
    | false =>
      by_cases hlt : a1 < L
      · have j1 : (a1 : Int) < L := by omega
        obtain ⟨x, hx⟩ : ∃ x, hd (rs.drop a1) = x := ⟨_, rfl⟩
        have HX := Lib.hid hx
        have C := Lib.hid (fun m => HNX.out a1 k1 (wr.drewN m) (hd1.drewN m) (by omega))
        rw [hx] at C
        have hd1' := hd1
        obtain ⟨vp, root, o, c, N, xs, h1, -⟩ := hd1
        rw [HL.out] at h1
        obtain ⟨⟨c0, c1, c2, c3, c4⟩, -⟩ := cells5 h1
        by_cases h124 : x = 124
        · subst h124
          clear h1 hb1 HI hlo htop hk1 hkx hx hd1'
          go_wp2_with fail
          go_quiet ((go_at_call 37; exact Calls.quiet_of (C.out _)))
          go_wp2
          go_ret
          have H := HKK.out
          exact ⟨z, a1, false, k1, rfl, HD.out, ⟨HB.out.os, HB.out.tape, HB.out.output, HB.out.size, HB.out.block⟩, by omega, by rw [HL.out]; omega, by omega, HI2.out.done (.inr (.inr (.inl HX.out)))⟩
        have e124 : (x != 124) = true := by simp [h124]
        by_cases h41 : x = 41
        · subst h41
          clear h1 hb1 HI hlo htop hk1 hkx hx hd1'
          go_wp2_with fail
          go_quiet ((go_at_call 37; exact Calls.quiet_of (C.out _)))
          go_wp2
          go_ret
          have H := HKK.out
          exact ⟨z, a1, false, k1, rfl, HD.out, ⟨HB.out.os, HB.out.tape, HB.out.output, HB.out.size, HB.out.block⟩, by omega, by rw [HL.out]; omega, by omega, HI2.out.done (.inr (.inr (.inr HX.out)))⟩
        have e41 : (x != 41) = true := by simp [h41]
        obtain ⟨_, _, g3, g4, acc, g5⟩ := HI.resolve_left (fun h => Bool.false_ne_true h.1)
        obtain ⟨g, rfl⟩ : ∃ g, gk = g + 1 := ⟨gk - 1, by omega⟩
        have HAC := Lib.hid g5
        have HG := Lib.hid (And.intro g3 g4)
        have HNS := Lib.hid (show ¬ (rs.drop a1 = [] ∨ hd (rs.drop a1) = 124 ∨ hd (rs.drop a1) = 41) by
          rw [hx]
          rintro (h | h | h)
          · have := congrArg List.length h
            rw [List.length_drop, HL.out] at this
            simp at this; omega
          · exact h124 h
          · exact h41 h)
        have HAT := Lib.hid (fun m => HAG.out g (by omega) a1 k1 (wr.drewN m) (hd1'.drewN m) (by omega) (by rw [HL.out]; exact hlt) (by omega))
        clear h1 hb1 HI hlo htop hk1 hkx hx hd1' g3 g4 g5
        go_wp2_with fail
        go_quiet ((go_at_call 37; exact Calls.quiet_of (C.out _)))
        go_wp2_with fail
        refine (HAT.out _).mono ?_
        rintro e w3 ⟨v3, a3, b3, k3, rfl, hd3, hb3, hlo3, htop3, hk3, hres3⟩
        have HA3 := Lib.hid (HADD.out a3 b3 k3 w3 hd3 (by have := HKK.out; rw [HL.out] at htop3; have := HG.out; omega))
        have HE := Lib.hid (And.intro (show Below bp w w3 from (show Below bp w wr from HB.out).trans ⟨hb3.os, hb3.tape, hb3.output, hb3.size, hb3.block⟩) (And.intro hlo3 (And.intro htop3 (And.intro hk3 hres3))))
        clear hd3 hb3 hlo3 htop3 hk3 hres3 c0 c1 c2 c3 c4
        go_wp2_with fail
        refine (HA3.out _ _ _ _ _ _ _ _ _ _ _ _ _).mono ?_
        rintro e w4 ⟨⟨z4, rfl⟩, hd4, hb4⟩
        have H4 := Lib.hid (And.intro hd4 hb4)
        clear hd4 hb4
        go_wp2_with fail
        go_roundg g
        case measure => omega
        case rel =>
          obtain ⟨E1, E2, E3, E4, E5⟩ := HE.out
          have H := HKK.out
          have HG2 := HG.out
          rw [HL.out] at E3 HG2
          exact ⟨z4, a3, k3 + 1, b3, rfl, H4.out.1, E1.trans H4.out.2, by omega, by rw [HL.out]; omega, by omega, by omega, BeI.step HAC.out HNS.out HG.out.1 HG.out.2 E2 (by rw [HL.out]; exact hlt) E5⟩
      · have j1 : ¬ (a1 : Int) < L := by omega
        obtain ⟨vp, root, o, c, N, xs, h1, -⟩ := hd1
        rw [HL.out] at h1
        obtain ⟨⟨c0, c1, c2, c3, c4⟩, -⟩ := cells5 h1
        clear h1 hb1 HI hlo htop hk1 hkx
        go_wp2_with fail
        go_quiet (fail)
        go_wp2
        go_ret
        have H := HKK.out
        exact ⟨z, a1, false, k1, rfl, HD.out, ⟨HB.out.os, HB.out.tape, HB.out.output, HB.out.size, HB.out.block⟩, by omega, by rw [HL.out]; omega, by omega, HI2.out.done (.inr (.inl (List.drop_eq_nil_of_le (by rw [HL.out]; omega))))⟩
end Go.Proofs.Ytmidpekkomhogaa.Dpt
