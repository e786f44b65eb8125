import Derived.Test.YtbcemjhaecelnaaGreatDoorMg27
import Derived.Deep.LoopGhost
section
set_option maxHeartbeats 4000000
set_option maxRecDepth 100000
namespace Go.Proofs.YtbcemjhaecelnaaGreatDoor.Dpt
open Go.RowKit Go.Lib
open Go.Proofs.YtbcemjhaecelnaaGreatDoor.Pat
def LeftD (rs : List Int) : Option (List Int) -> Bool -> Nat -> Prop
 | none, b, _ => b = true
 | some m, b, a => b = false /\ rs.drop a = m /\ a <= rs.length
def zh0 (w : World) (bp : Nat) (rs : List Int) (a k c d lo top : Nat) (res : Option (List Int)) (e : Ending) (w' : World) : Prop :=
 ∃ (v : Int) (a' : Nat) (b' : Bool) (k' : Nat), e = .returned (.int .i64 v) /\ DP w' bp rs a' b' k' /\ Below bp w w' /\ lo <= a' /\ a' <= top /\ k' + 3 * a + c <= k + 3 * a' + d /\ LeftD rs res b' a'
def AtOK (bp : Nat) (rs : List Int) (n : Nat) : Prop := ∀ (a k : Nat) (W : World), DP W bp rs a false k -> k <= 20000 + 3 * a + 1 -> a < rs.length -> 3 * (rs.length - a) + 1 <= n ->
 Calls Tryz.prog 177 #[.pointer (some ⟨bp, 0, none⟩)] W (zh0 W bp rs a k 2 0 (a + 1) (rs.length + 2 + 2 * n) ((atR n (rs.drop a)).map Prod.snd))
def AgOK (bp : Nat) (rs : List Int) (n : Nat) : Prop := ∀ (a k : Nat) (W : World), DP W bp rs a false k -> k <= 20000 + 3 * a + 1 -> a < rs.length -> 3 * (rs.length - a) + 1 <= n ->
 Calls Tryz.prog 173 #[.pointer (some ⟨bp, 0, none⟩)] W (zh0 W bp rs a k 2 0 (a + 1) (rs.length + 3 + 2 * n) ((atR n (rs.drop a)).map fun p => tmR p.2))
theorem DP.mono {w : World} {bp : Nat} {rs : List Int} {a : Nat} {bad : Bool} {k k' : Nat} (h : DP w bp rs a bad k) (hk : k <= k') : DP w bp rs a bad k' := by
 obtain ⟨vp, root, o, c, N, xs, h1, h2, h3, h4⟩ := h
 exact ⟨vp, root, o, c, N, xs, h1, h2, h3, by omega⟩
theorem zbg (rs : List Int) (a : Nat) : rs.drop (a + 1) = (rs.drop a).tail := by rw [List.tail_drop]
theorem zh1 {rs : List Int} {a : Nat} (h : hd (rs.drop a) ≠ -1) : a < rs.length := by
 apply Decidable.byContradiction
 intro hc
 exact h (zfv (by omega))
theorem zg1 {rs : List Int} {q : Option (Pt × List Int)} {b : Bool} {a : Nat} (h : LeftD rs (q.map Prod.snd) b a) (hx : hd (rs.drop a) = 42 \/ hd (rs.drop a) = 43 \/ hd (rs.drop a) = 63) : LeftD rs (q.map fun p => tmR p.2) b (a + 1) := by
 cases q with
 | none => exact h
 | some p =>
   obtain ⟨h1, h2, h3⟩ := h
   refine ⟨h1, ?_, ?_⟩
   ·rw [zbg, h2]
    rw [h2] at hx
    show p.2.tail = tmR p.2
    unfold tmR
    rw [if_pos hx]
   ·have := zh1 (rs := rs) (a := a) (by rcases hx with hx | hx | hx <;> rw [hx] <;> decide)
    omega
theorem left_no {rs : List Int} {q : Option (Pt × List Int)} {b : Bool} {a : Nat} (h : LeftD rs (q.map Prod.snd) b a) (hx : ¬ (hd (rs.drop a) = 42 \/ hd (rs.drop a) = 43 \/ hd (rs.drop a) = 63)) : LeftD rs (q.map fun p => tmR p.2) b a := by
 cases q with
 | none => exact h
 | some p =>
   obtain ⟨h1, h2, h3⟩ := h
   refine ⟨h1, ?_, h3⟩
   rw [h2] at hx
   show rs.drop a = tmR p.2
   rw [h2]
   unfold tmR
   rw [if_neg hx]
theorem again_ok (bp : Nat) (rs : List Int) (n : Nat) (hl : rs.length <= 1000) (hn : n <= 4000) (HA : AtOK bp rs n) : AgOK bp rs n := by
 intro a k w h hk ha hf
 have HAT := zh (HA a k w h hk ha hf)
 obtain ⟨q, hq⟩ : ∃ q, atR n (rs.drop a) = q := ⟨_, rfl⟩
 rw [hq] at HAT ⊢
 have HADD := zh (fun a' b' k' W (h : DP W bp rs a' b' k') (hk : k' <= 100000) => zcl bp rs a' b' k' W h hk)
 have HNX := zh (fun a' b' k' W (h : DP W bp rs a' b' k') (ha : a' <= 1000000) => next_any bp rs a' b' k' W h (by omega) ha)
 clear h hq HA
 go_enter Tryz.func173, Tryz.ntmps173
 go_wp2_with fail
 refine HAT.out.mono ?_
 rintro e w1 ⟨v, a1, b1, k1, rfl, hd1, hb1, hlo, htop, hk1, hres⟩
 have HR := zh hres
 have HB := zh hb1
 have HD := zh hd1
 obtain ⟨x, hx⟩ : ∃ x, hd (rs.drop a1) = x := ⟨_, rfl⟩
 have HX := zh hx
 have HN1 := zh (HNX.out a1 b1 k1 w1 hd1 (by omega))
 rw [hx] at HN1
 clear hx hres hb1 hd1
 have HKK := zh hk1
 clear hk1
 go_wp2_with fail
 refine HN1.out.mono ?_
 rintro e w2 ⟨rfl, q2, rfl⟩
 have hd2 : DP (w1.drewN q2) bp rs a1 b1 k1 := HD.out
 have HB2 := zh (show Below bp w (w1.drewN q2) from ⟨HB.out.os, HB.out.tape, HB.out.output, HB.out.size, HB.out.block⟩)
 have HA2 := zh (HADD.out a1 b1 k1 (w1.drewN q2) hd2 (by have := HKK.out; omega))
 obtain ⟨w2, hw2⟩ : ∃ w2, w1.drewN q2 = w2 := ⟨_, rfl⟩
 rw [hw2] at HB2 HA2
 have HD2 := zh (show DP w2 bp rs a1 b1 k1 by rw [<- hw2]; exact hd2)
 have HW2 := zh hw2
 clear hd2 hw2
 by_cases h42 : x = 42
 ·subst h42
  rw [HW2.out]
  go_wp2_with fail
  refine (HA2.out _ _ _ _ _ _ _ _ _ _ _ _ _).mono ?_
  rintro e w3 ⟨⟨m, rfl⟩, hd3, hb3⟩
  have HE := zh (And.intro (hd3.setAt (a1 + 1) ((a1 : Int) + 1) (by omega)) (below_set (HB2.out.trans hb3) (Nat.le_refl _) 3 (.int .i64 ((a1 : Int) + 1))))
  obtain ⟨vp, root, o, c, N, xs, h1, -⟩ := hd3
  obtain ⟨⟨c0, c1, c2, c3, c4⟩, f0, f1, f2, f3, f4⟩ := zaG h1
  clear h1 hb3
  go_wp2
  go_ret
  exact ⟨m, a1 + 1, b1, k1 + 1, rfl, HE.out.1, HE.out.2, by omega, by omega, by have := HKK.out; omega, zg1 HR.out (.inl HX.out)⟩
 have e42 : (x == 42) = false := by simp [h42]
 by_cases h43 : x = 43
 ·subst h43
  rw [HW2.out]
  go_wp2_with fail
  refine (HA2.out _ _ _ _ _ _ _ _ _ _ _ _ _).mono ?_
  rintro e w3 ⟨⟨m, rfl⟩, hd3, hb3⟩
  have HE := zh (And.intro (hd3.setAt (a1 + 1) ((a1 : Int) + 1) (by omega)) (below_set (HB2.out.trans hb3) (Nat.le_refl _) 3 (.int .i64 ((a1 : Int) + 1))))
  obtain ⟨vp, root, o, c, N, xs, h1, -⟩ := hd3
  obtain ⟨⟨c0, c1, c2, c3, c4⟩, f0, f1, f2, f3, f4⟩ := zaG h1
  clear h1 hb3
  go_wp2
  go_ret
  exact ⟨m, a1 + 1, b1, k1 + 1, rfl, HE.out.1, HE.out.2, by omega, by omega, by have := HKK.out; omega, zg1 HR.out (.inr (.inl HX.out))⟩
 have e43 : (x == 43) = false := by simp [h43]
 by_cases h63 : x = 63
 ·subst h63
  rw [HW2.out]
  go_wp2_with fail
  refine (HA2.out _ _ _ _ _ _ _ _ _ _ _ _ _).mono ?_
  rintro e w3 ⟨⟨m, rfl⟩, hd3, hb3⟩
  have HE := zh (And.intro (hd3.setAt (a1 + 1) ((a1 : Int) + 1) (by omega)) (below_set (HB2.out.trans hb3) (Nat.le_refl _) 3 (.int .i64 ((a1 : Int) + 1))))
  obtain ⟨vp, root, o, c, N, xs, h1, -⟩ := hd3
  obtain ⟨⟨c0, c1, c2, c3, c4⟩, f0, f1, f2, f3, f4⟩ := zaG h1
  clear h1 hb3
  go_wp2
  go_ret
  exact ⟨m, a1 + 1, b1, k1 + 1, rfl, HE.out.1, HE.out.2, by omega, by omega, by have := HKK.out; omega, zg1 HR.out (.inr (.inr HX.out))⟩
 have e63 : (x == 63) = false := by simp [h63]
 have HNO := zh (show ¬ (hd (rs.drop a1) = 42 \/ hd (rs.drop a1) = 43 \/ hd (rs.drop a1) = 63) by rw [HX.out]; simp [h42, h43, h63])
 rw [HW2.out]
 go_wp2
 go_ret
 exact ⟨v, a1, b1, k1, rfl, HD2.out, HB2.out, hlo, by omega, by have := HKK.out; omega, left_no HR.out HNO.out⟩
end Go.Proofs.YtbcemjhaecelnaaGreatDoor.Dpt
end

section
set_option maxHeartbeats 4000000
set_option maxRecDepth 100000
namespace Go.Proofs.YtbcemjhaecelnaaGreatDoor.Dpt
open Go.RowKit Go.Lib
open Go.Proofs.YtbcemjhaecelnaaGreatDoor.Pat
def BeOK (bp : Nat) (rs : List Int) (n : Nat) : Prop := ∀ (a k : Nat) (W : World), DP W bp rs a false k -> k <= 20000 + 3 * a -> a <= rs.length -> 3 * (rs.length - a) + 2 <= n ->
 Calls Tryz.prog 169 #[.pointer (some ⟨bp, 0, none⟩)] W (zh0 W bp rs a k 0 1 a (rs.length + 3 + 2 * n) ((cnR n (rs.drop a) []).map Prod.snd))
def BeI (rs : List Int) (n : Nat) (R : Option (List Pt × List Int)) (kx a1 : Nat) (b1 : Bool) : Prop :=
 (b1 = true /\ R = none) \/ (b1 = false /\ a1 <= rs.length /\ 3 * (rs.length - a1) + 2 <= kx /\ kx <= n /\ ∃ acc, R = cnR kx (rs.drop a1) acc)
theorem BeI.done {rs : List Int} {n kx a1 : Nat} {b1 : Bool} {R : Option (List Pt × List Int)} (h : BeI rs n R kx a1 b1) (hs : b1 = true \/ rs.drop a1 = [] \/ hd (rs.drop a1) = 124 \/ hd (rs.drop a1) = 41) : LeftD rs (R.map Prod.snd) b1 a1 := by
 rcases h with ⟨h1, h2⟩ | ⟨h1, h2, h3, _, acc, h4⟩
 ·subst h2; exact h1
 ·have hs2 := hs.resolve_left (by rw [h1]; exact Bool.false_ne_true)
  obtain ⟨g, rfl⟩ : ∃ g, kx = g + 1 := ⟨kx - 1, by omega⟩
  rw [cnR, if_pos hs2] at h4
  rw [h4]
  exact ⟨h1, rfl, h2⟩
theorem BeI.step {rs : List Int} {n g a1 a2 : Nat} {b2 : Bool} {R : Option (List Pt × List Int)} {acc : List Pt} (h : R = cnR (g + 1) (rs.drop a1) acc) (hs : ¬ (rs.drop a1 = [] \/ hd (rs.drop a1) = 124 \/ hd (rs.drop a1) = 41)) (hk : 3 * (rs.length - a1) + 2 <= g + 1) (hn : g + 1 <= n) (ha : a1 + 1 <= a2) (hl : a1 < rs.length)
 (hr : LeftD rs ((atR g (rs.drop a1)).map fun p => tmR p.2) b2 a2) : BeI rs n R g a2 b2 := by
 rw [cnR, if_neg hs] at h
 cases hq : atR g (rs.drop a1) with
 | none =>
   rw [hq] at h hr
   exact .inl ⟨hr, h⟩
 | some p =>
   rw [hq] at h hr
   obtain ⟨h1, h2, h3⟩ := hr
   exact .inr ⟨h1, h3, by omega, by omega, _, by rw [h2]; exact h⟩
def BeL (w : World) (bp : Nat) (rs : List Int) (a k n : Nat) (R : Option (List Pt × List Int)) (kx : Nat) (v : Value) (wr : World) : Prop := ∃ (z : Int) (a1 k1 : Nat) (b1 : Bool), v = .int .i64 z /\ DP wr bp rs a1 b1 k1 /\ Below bp w wr /\ a <= a1 /\ a1 <= rs.length + 3 + 2 * n /\ k1 + 3 * a <= k + 3 * a1 + 1 /\ 1 <= kx /\ BeI rs n R kx a1 b1
theorem behind_ok (bp : Nat) (rs : List Int) (n : Nat) (hl : rs.length <= 1000) (hn : n <= 4000) (HG : ∀ m, m < n -> AgOK bp rs m) : BeOK bp rs n := by
 intro a k w h hk ha hf
 have HA1 := zh (zcl bp rs a false k w h (by omega))
 have HADD := zh (fun a' b' k' W (h : DP W bp rs a' b' k') (hk : k' <= 100000) => zcl bp rs a' b' k' W h hk)
 have HNX := zh (fun a' k' W (h : DP W bp rs a' false k') (ha : a' <= 1000000) => next_any bp rs a' false k' W h (by omega) ha)
 have HAG := zh HG
 obtain ⟨L, hL⟩ : ∃ L, rs.length = L := ⟨_, rfl⟩
 have HL := zh hL
 obtain ⟨R, hR⟩ : ∃ R, cnR n (rs.drop a) [] = R := ⟨_, rfl⟩
 have HR := zh hR
 rw [hR]
 clear h HG hR
 rw [hL] at hl ha hf
 clear hL
 go_enter Tryz.func169, Tryz.ntmps169
 go_wp2_with fail
 refine (HA1.out _ _ _ _ _ _ _ _ _ _ _ _ _).mono ?_
 rintro e w1 ⟨⟨z0, rfl⟩, hd1, hb1⟩
 have HST : BeL w bp rs a k n R n (.int .i64 z0) w1 := ⟨z0, a, k + 1, false, rfl, hd1, hb1, Nat.le_refl _, by rw [HL.out]; omega, by omega, by omega, .inr ⟨rfl, by rw [HL.out]; omega, by rw [HL.out]; omega, Nat.le_refl _, [], HR.out.symm⟩⟩
 have HST2 := zh HST
 clear hd1 hb1 HST
 go_wp2_with fail
 go_loopg [3] n (fun kx v wr => BeL w bp rs a k n R kx v wr)
 case atStart => exact HST2.out
 case round =>
  clear HST2
  obtain ⟨z, a1, k1, b1, rfl, hd1, hb1, hlo, htop, hk1, hkx, HI⟩ := hrel
  rw [HL.out] at htop
  have HKK := zh (And.intro hlo (And.intro htop (And.intro hk1 hkx)))
  have HI2 := zh HI
  have HD := zh hd1
  have HB := zh hb1
  cases b1 with
  | true =>
    obtain ⟨vp, root, o, c, N, xs, h1, -⟩ := hd1
    obtain ⟨⟨c0, c1, c2, c3, c4⟩, -⟩ := zaG h1
    clear h1 hb1 HI hlo htop hk1 hkx
    go_wp2_with fail
    go_quiet (fail)
    go_wp2
    go_ret
    have H := HKK.out
    exact ⟨z, a1, true, k1, rfl, HD.out, ⟨HB.out.os, HB.out.tape, HB.out.output, HB.out.size, HB.out.block⟩, by omega, by rw [HL.out]; omega, by omega, HI2.out.done (.inl rfl)⟩
  | false =>
    by_cases hlt : a1 < L
    ·have j1 : (a1 : Int) < L := by omega
     obtain ⟨x, hx⟩ : ∃ x, hd (rs.drop a1) = x := ⟨_, rfl⟩
     have HX := zh hx
     have C := zh (fun m => HNX.out a1 k1 (wr.drewN m) (hd1.drewN m) (by omega))
     rw [hx] at C
     have hd1' := hd1
     obtain ⟨vp, root, o, c, N, xs, h1, -⟩ := hd1
     rw [HL.out] at h1
     obtain ⟨⟨c0, c1, c2, c3, c4⟩, -⟩ := zaG h1
     by_cases h124 : x = 124
     ·subst h124
      clear h1 hb1 HI hlo htop hk1 hkx hx hd1'
      go_wp2_with fail
      go_quiet ((go_at_call 170; exact Calls.quiet_of (C.out _)))
      go_wp2
      go_ret
      have H := HKK.out
      exact ⟨z, a1, false, k1, rfl, HD.out, ⟨HB.out.os, HB.out.tape, HB.out.output, HB.out.size, HB.out.block⟩, by omega, by rw [HL.out]; omega, by omega, HI2.out.done (.inr (.inr (.inl HX.out)))⟩
     have e124 : (x != 124) = true := by simp [h124]
     by_cases h41 : x = 41
     ·subst h41
      clear h1 hb1 HI hlo htop hk1 hkx hx hd1'
      go_wp2_with fail
      go_quiet ((go_at_call 170; exact Calls.quiet_of (C.out _)))
      go_wp2
      go_ret
      have H := HKK.out
      exact ⟨z, a1, false, k1, rfl, HD.out, ⟨HB.out.os, HB.out.tape, HB.out.output, HB.out.size, HB.out.block⟩, by omega, by rw [HL.out]; omega, by omega, HI2.out.done (.inr (.inr (.inr HX.out)))⟩
     have e41 : (x != 41) = true := by simp [h41]
     obtain ⟨_, _, g3, g4, acc, g5⟩ := HI.resolve_left (fun h => Bool.false_ne_true h.1)
     obtain ⟨g, rfl⟩ : ∃ g, gk = g + 1 := ⟨gk - 1, by omega⟩
     have HAC := zh g5
     have HG := zh (And.intro g3 g4)
     have HNS := zh (show ¬ (rs.drop a1 = [] \/ hd (rs.drop a1) = 124 \/ hd (rs.drop a1) = 41) by
      rw [hx]
      rintro (h | h | h)
      ·have := congrArg List.length h
       rw [List.length_drop, HL.out] at this
       simp at this; omega
      ·exact h124 h
      ·exact h41 h)
     have HAT := zh (fun m => HAG.out g (by omega) a1 k1 (wr.drewN m) (hd1'.drewN m) (by omega) (by rw [HL.out]; exact hlt) (by omega))
     clear h1 hb1 HI hlo htop hk1 hkx hx hd1' g3 g4 g5
     go_wp2_with fail
     go_quiet ((go_at_call 170; exact Calls.quiet_of (C.out _)))
     go_wp2_with fail
     refine (HAT.out _).mono ?_
     rintro e w3 ⟨v3, a3, b3, k3, rfl, hd3, hb3, hlo3, htop3, hk3, hres3⟩
     have HA3 := zh (HADD.out a3 b3 k3 w3 hd3 (by have := HKK.out; rw [HL.out] at htop3; have := HG.out; omega))
     have HE := zh (And.intro (show Below bp w w3 from (show Below bp w wr from HB.out).trans ⟨hb3.os, hb3.tape, hb3.output, hb3.size, hb3.block⟩) (And.intro hlo3 (And.intro htop3 (And.intro hk3 hres3))))
     clear hd3 hb3 hlo3 htop3 hk3 hres3 c0 c1 c2 c3 c4
     go_wp2_with fail
     refine (HA3.out _ _ _ _ _ _ _ _ _ _ _ _ _).mono ?_
     rintro e w4 ⟨⟨z4, rfl⟩, hd4, hb4⟩
     have H4 := zh (And.intro hd4 hb4)
     clear hd4 hb4
     go_wp2_with fail
     go_roundg g
     case measure => omega
     case rel =>
      obtain ⟨E1, E2, E3, E4, E5⟩ := HE.out
      have H := HKK.out
      have HG2 := HG.out
      rw [HL.out] at E3 HG2
      exact ⟨z4, a3, k3 + 1, b3, rfl, H4.out.1, E1.trans H4.out.2, by omega, by rw [HL.out]; omega, by omega, by omega, BeI.step HAC.out HNS.out HG.out.1 HG.out.2 E2 (by rw [HL.out]; exact hlt) E5⟩
    ·have j1 : ¬ (a1 : Int) < L := by omega
     obtain ⟨vp, root, o, c, N, xs, h1, -⟩ := hd1
     rw [HL.out] at h1
     obtain ⟨⟨c0, c1, c2, c3, c4⟩, -⟩ := zaG h1
     clear h1 hb1 HI hlo htop hk1 hkx
     go_wp2_with fail
     go_quiet (fail)
     go_wp2
     go_ret
     have H := HKK.out
     exact ⟨z, a1, false, k1, rfl, HD.out, ⟨HB.out.os, HB.out.tape, HB.out.output, HB.out.size, HB.out.block⟩, by omega, by rw [HL.out]; omega, by omega, HI2.out.done (.inr (.inl (List.drop_eq_nil_of_le (by rw [HL.out]; omega))))⟩
end Go.Proofs.YtbcemjhaecelnaaGreatDoor.Dpt
end

section
set_option maxHeartbeats 4000000
set_option maxRecDepth 100000
namespace Go.Proofs.YtbcemjhaecelnaaGreatDoor.Dpt
open Go.RowKit Go.Lib
open Go.Proofs.YtbcemjhaecelnaaGreatDoor.Pat
def EiOK (bp : Nat) (rs : List Int) (n : Nat) : Prop := ∀ (a k : Nat) (W : World), DP W bp rs a false k -> k <= 20000 + 3 * a -> a <= rs.length -> 3 * (rs.length - a) + 3 <= n ->
 Calls Tryz.prog 165 #[.pointer (some ⟨bp, 0, none⟩)] W (zh0 W bp rs a k 0 1 a (rs.length + 3 + 2 * n) ((chR n (rs.drop a) []).map Prod.snd))
def EiI (rs : List Int) (n : Nat) (R : Option (List Pt × List Int)) (kx a1 : Nat) (b1 : Bool) : Prop :=
 (b1 = true /\ R = none) \/ (b1 = false /\ a1 <= rs.length /\ 3 * (rs.length - a1) + 2 <= kx /\ kx + 1 <= n /\ ∃ acc, R = if hd (rs.drop a1) = 124 then chR kx (rs.drop a1).tail acc else some (acc, rs.drop a1))
theorem EiI.of {rs : List Int} {n g a1 a2 : Nat} {b2 : Bool} {R : Option (List Pt × List Int)} {acc : List Pt} (h : R = chR (g + 1) (rs.drop a1) acc) (hk : 3 * (rs.length - a1) + 3 <= g + 1) (hn : g + 1 <= n) (ha : a1 <= a2)
 (hr : LeftD rs ((cnR g (rs.drop a1) []).map Prod.snd) b2 a2) : EiI rs n R g a2 b2 := by
 rw [chR] at h
 cases hq : cnR g (rs.drop a1) [] with
 | none =>
   rw [hq] at h hr
   exact .inl ⟨hr, h⟩
 | some p =>
   rw [hq] at h hr
   obtain ⟨h1, h2, h3⟩ := hr
   exact .inr ⟨h1, h3, by omega, by omega, _, by rw [h2]; exact h⟩
theorem EiI.done {rs : List Int} {n kx a1 : Nat} {b1 : Bool} {R : Option (List Pt × List Int)} (h : EiI rs n R kx a1 b1) (hs : b1 = true \/ hd (rs.drop a1) ≠ 124) : LeftD rs (R.map Prod.snd) b1 a1 := by
 rcases h with ⟨h1, h2⟩ | ⟨h1, h2, h3, _, acc, h4⟩
 ·subst h2; exact h1
 ·rw [if_neg (hs.resolve_left (by rw [h1]; exact Bool.false_ne_true))] at h4
  rw [h4]
  exact ⟨h1, rfl, h2⟩
def EiL (w : World) (bp : Nat) (rs : List Int) (a k n : Nat) (R : Option (List Pt × List Int)) (kx : Nat) (v : Value) (wr : World) : Prop := ∃ (z : Int) (a1 k1 : Nat) (b1 : Bool), v = .int .i64 z /\ DP wr bp rs a1 b1 k1 /\ Below bp w wr /\ a <= a1 /\ a1 <= rs.length + 3 + 2 * n /\ k1 + 3 * a <= k + 3 * a1 + 1 /\ EiI rs n R kx a1 b1
theorem either_ok (bp : Nat) (rs : List Int) (n : Nat) (hl : rs.length <= 1000) (hn : n <= 4000) (HG : ∀ m, m < n -> BeOK bp rs m) : EiOK bp rs n := by
 intro a k w h hk ha hf
 obtain ⟨g0, rfl⟩ : ∃ g, n = g + 1 := ⟨n - 1, by omega⟩
 have HBE := zh (HG g0 (by omega) a k w h hk ha (by omega))
 have HADD := zh (fun a' b' k' W (h : DP W bp rs a' b' k') (hk : k' <= 100000) => zcl bp rs a' b' k' W h hk)
 have HNX := zh (fun a' b' k' W (h : DP W bp rs a' b' k') (ha : a' <= 1000000) => next_any bp rs a' b' k' W h (by omega) ha)
 have HAG := zh HG
 obtain ⟨L, hL⟩ : ∃ L, rs.length = L := ⟨_, rfl⟩
 have HL := zh hL
 obtain ⟨R, hR⟩ : ∃ R, chR (g0 + 1) (rs.drop a) [] = R := ⟨_, rfl⟩
 have HR := zh hR
 rw [hR]
 clear h HG hR
 rw [hL] at hl ha hf
 clear hL
 go_enter Tryz.func165, Tryz.ntmps165
 go_wp2_with fail
 refine HBE.out.mono ?_
 rintro e w1 ⟨z0, a0, b0, k0, rfl, hd1, hb1, hlo, htop, hk0, hres⟩
 have HST : EiL w bp rs a k (g0 + 1) R g0 (.int .i64 z0) w1 := ⟨z0, a0, k0, b0, rfl, hd1, hb1, hlo, by omega, by omega, EiI.of HR.out.symm (by rw [HL.out]; omega) (Nat.le_refl _) hlo hres⟩
 have HST2 := zh HST
 clear hd1 hb1 HST hlo htop hk0 hres
 go_wp2_with fail
 go_loopg [3] g0 (fun kx v wr => EiL w bp rs a k (g0 + 1) R kx v wr)
 case atStart => exact HST2.out
 case round =>
  clear HST2
  obtain ⟨z, a1, k1, b1, rfl, hd1, hb1, hlo, htop, hk1, HI⟩ := hrel
  rw [HL.out] at htop
  have HKK := zh (And.intro hlo (And.intro htop hk1))
  have HI2 := zh HI
  have HD := zh hd1
  have HB := zh hb1
  obtain ⟨x, hx⟩ : ∃ x, hd (rs.drop a1) = x := ⟨_, rfl⟩
  have HX := zh hx
  have C := zh (HNX.out a1 b1 k1 wr hd1 (by omega))
  rw [hx] at C
  by_cases h124 : x = 124
  ·subst h124
   cases b1 with
   | true =>
     clear hd1 hb1 HI hlo htop hk1 hx
     go_wp2_with fail
     refine C.out.mono ?_
     rintro e w2 ⟨rfl, q2, rfl⟩
     have hd2 : DP (wr.drewN q2) bp rs a1 true k1 := HD.out
     have HD2 := zh (And.intro hd2 (show Below bp w (wr.drewN q2) from ⟨HB.out.os, HB.out.tape, HB.out.output, HB.out.size, HB.out.block⟩))
     obtain ⟨vp, root, o, c, N, xs, h1, -⟩ := hd2
     obtain ⟨⟨c0, c1, c2, c3, c4⟩, -⟩ := zaG h1
     obtain ⟨w2, hw2⟩ : ∃ w2, wr.drewN q2 = w2 := ⟨_, rfl⟩
     have HW2 := zh hw2
     rw [hw2] at c4 HD2
     clear h1 c0 c1 c2 c3 hw2
     rw [HW2.out]
     go_wp2
     go_ret
     have H := HKK.out
     exact ⟨z, a1, true, k1, rfl, HD2.out.1, HD2.out.2, by omega, by rw [HL.out]; omega, by omega, HI2.out.done (.inl rfl)⟩
   | false =>
     obtain ⟨_, _, g3, g4, acc, g5⟩ := HI.resolve_left (fun h => Bool.false_ne_true h.1)
     rw [if_pos hx] at g5
     have hlt := zh1 (rs := rs) (a := a1) (by rw [hx]; decide)
     rw [HL.out] at hlt
     obtain ⟨g, rfl⟩ : ∃ g, gk = g + 1 := ⟨gk - 1, by omega⟩
     rw [<- zbg] at g5
     have HAC := zh g5
     have HGG := zh (And.intro g3 g4)
     have HLT := zh hlt
     clear hd1 hb1 HI hx g3 g4 g5
     go_wp2_with fail
     refine C.out.mono ?_
     rintro e w2 ⟨rfl, q2, rfl⟩
     have hd2 : DP (wr.drewN q2) bp rs a1 false k1 := HD.out
     have HB2 := zh (show Below bp w (wr.drewN q2) from ⟨HB.out.os, HB.out.tape, HB.out.output, HB.out.size, HB.out.block⟩)
     obtain ⟨w2, hw2⟩ : ∃ w2, wr.drewN q2 = w2 := ⟨_, rfl⟩
     have HW2 := zh hw2
     rw [hw2] at hd2 HB2
     have hd3 := hd2.setAt (a1 + 1) ((a1 : Int) + 1) (by omega)
     have HB3 := zh (below_set HB2.out (Nat.le_refl _) 3 (.int .i64 ((a1 : Int) + 1)))
     have HBE2 := zh (HAG.out g (by have := HGG.out; omega) (a1 + 1) k1 _ hd3 (by omega) (by rw [HL.out]; omega) (by have := HGG.out; rw [HL.out] at this ⊢; omega))
     obtain ⟨vp, root, o, c, N, xs, h1, -⟩ := hd2
     obtain ⟨⟨c0, c1, c2, c3, c4⟩, f0, f1, f2, f3, f4⟩ := zaG h1
     clear h1 hw2 hd3 hlo htop hk1
     rw [HW2.out]
     go_wp2_with fail
     refine HBE2.out.mono ?_
     rintro e w3 ⟨v3, a3, b3, k3, rfl, hd3, hb3, hlo3, htop3, hk3, hres3⟩
     have HA3 := zh (HADD.out a3 b3 k3 w3 hd3 (by have := HKK.out; rw [HL.out] at htop3; have := HGG.out; omega))
     have HE := zh (And.intro (HB3.out.trans hb3) (And.intro hlo3 (And.intro htop3 (And.intro hk3 hres3))))
     clear hd3 hb3 hlo3 htop3 hk3 hres3 c0 c1 c2 c3 c4 f0 f1 f2 f3 f4
     go_wp2_with fail
     refine (HA3.out _ _ _ _ _ _ _ _ _ _ _ _ _).mono ?_
     rintro e w4 ⟨⟨z4, rfl⟩, hd4, hb4⟩
     have H4 := zh (And.intro hd4 hb4)
     clear hd4 hb4
     go_wp2_with fail
     go_roundg g
     case measure => omega
     case rel =>
      obtain ⟨E1, E2, E3, E4, E5⟩ := HE.out
      have H := HKK.out
      have HG2 := HGG.out
      have HLT2 := HLT.out
      rw [HL.out] at E3 HG2
      exact ⟨z4, a3, k3 + 1, b3, rfl, H4.out.1, E1.trans H4.out.2, by omega, by rw [HL.out]; omega, by omega, EiI.of HAC.out (by rw [HL.out]; omega) (by omega) E2 E5⟩
  ·have e124 : (x == 124) = false := by simp [h124]
   clear hd1 hb1 HI hlo htop hk1 hx
   go_wp2_with fail
   refine C.out.mono ?_
   rintro e w2 ⟨rfl, q2, rfl⟩
   have HD2 := zh (show DP (wr.drewN q2) bp rs a1 b1 k1 /\ Below bp w (wr.drewN q2) from ⟨HD.out, HB.out.os, HB.out.tape, HB.out.output, HB.out.size, HB.out.block⟩)
   obtain ⟨w2, hw2⟩ : ∃ w2, wr.drewN q2 = w2 := ⟨_, rfl⟩
   have HW2 := zh hw2
   rw [hw2] at HD2
   clear hw2
   rw [HW2.out]
   go_wp2
   go_ret
   have H := HKK.out
   exact ⟨z, a1, b1, k1, rfl, HD2.out.1, HD2.out.2, by omega, by rw [HL.out]; omega, by omega, HI2.out.done (.inr (by rw [HX.out]; exact h124))⟩
end Go.Proofs.YtbcemjhaecelnaaGreatDoor.Dpt
end
