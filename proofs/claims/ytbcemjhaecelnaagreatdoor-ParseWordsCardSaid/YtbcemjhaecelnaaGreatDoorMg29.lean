import Derived.Test.YtbcemjhaecelnaaGreatDoorMg28
import Derived.StillTailTactics
import Derived.Test.YtbcemjhaecelnaaGreatDoorMg08
section
set_option maxHeartbeats 8000000
set_option maxRecDepth 100000
namespace Go.Proofs.YtbcemjhaecelnaaGreatDoor.Dpt
open Go.RowKit Go.Lib
open Go.Proofs.YtbcemjhaecelnaaGreatDoor.Pat
def ClOK (bp : Nat) (rs : List Int) : Prop := ∀ (a k : Nat) (W : World), DP W bp rs a false k -> k <= 20000 + 3 * a -> a <= rs.length ->
 Calls Tryz.prog 184 #[.pointer (some ⟨bp, 0, none⟩)] W (zh0 W bp rs a k 0 1 (a + 1) (rs.length + 2) ((clR (rs.drop a)).map Prod.snd))
theorem zfw {rs : List Int} {g a a1 : Nat} {b1 : Bool} (h : LeftD rs ((chR g (rs.drop (a + 1)) []).map Prod.snd) b1 a1) (h40 : hd (rs.drop a) = 40) {b2 : Bool} (hb : b2 = true ↔ b1 = true \/ hd (rs.drop a1) ≠ 41) : LeftD rs ((atR (g + 1) (rs.drop a)).map Prod.snd) b2 (a1 + 1) := by
 rw [atR, if_pos h40, <- zbg]
 cases hq : chR g (rs.drop (a + 1)) [] with
 | none =>
   rw [hq] at h
   exact hb.2 (.inl h)
 | some p =>
   obtain ⟨c, m⟩ := p
   rw [hq] at h
   obtain ⟨h1, h2, h3⟩ := h
   have h2 : rs.drop a1 = m := h2
   show LeftD rs ((if hd m = 41 then some (Pt.choice c, m.tail) else none).map Prod.snd) b2 (a1 + 1)
   by_cases h41 : hd m = 41
   ·rw [if_pos h41]
    have hlt := zh1 (rs := rs) (a := a1) (by rw [h2, h41]; decide)
    refine ⟨?_, by rw [zbg, h2], by omega⟩
    cases b2 with
    | false => rfl
    | true =>
      rcases hb.1 rfl with hc | hc
      ·rw [h1] at hc; cases hc
      ·exact absurd (by rw [h2]; exact h41) hc
   ·rw [if_neg h41]
    exact hb.2 (.inr (by rw [h2]; exact h41))
theorem left_cl {rs : List Int} {g a a1 : Nat} {b1 : Bool} (h : LeftD rs ((clR (rs.drop (a + 1))).map Prod.snd) b1 a1) (h91 : hd (rs.drop a) = 91) : LeftD rs ((atR (g + 1) (rs.drop a)).map Prod.snd) b1 a1 := by
 rw [atR, if_neg (by rw [h91]; decide), if_pos h91, <- zbg]
 exact h
theorem left_dot {rs : List Int} {g a : Nat} (h46 : hd (rs.drop a) = 46) (ha : a < rs.length) : LeftD rs ((atR (g + 1) (rs.drop a)).map Prod.snd) false (a + 1) := by
 rw [atR, if_neg (by rw [h46]; decide), if_neg (by rw [h46]; decide), if_pos h46]
 exact ⟨rfl, zbg _ _, ha⟩
theorem left_li {rs : List Int} {g a : Nat} {b : Bool} {a1 : Nat} (h1 : hd (rs.drop a) ≠ 40) (h2 : hd (rs.drop a) ≠ 91) (h3 : hd (rs.drop a) ≠ 46) (h : LeftD rs ((liR (rs.drop a)).map Prod.snd) b a1) : LeftD rs ((atR (g + 1) (rs.drop a)).map Prod.snd) b a1 := by
 rw [atR, if_neg h1, if_neg h2, if_neg h3]
 exact h
theorem DP.drew {w : World} {bp : Nat} {rs : List Int} {a : Nat} {bad : Bool} {k : Nat} (h : DP w bp rs a bad k) : DP w.drew bp rs a bad k := h
theorem zcz {rs : List Int} {a : Nat} {r : Int} (h : rs[a]? = some r) : rs.drop a = r :: rs.drop (a + 1) := by
 obtain ⟨hp, e⟩ := List.getElem?_eq_some_iff.1 h
 rw [List.drop_eq_getElem_cons hp, e]
theorem atom_ok (bp : Nat) (rs : List Int) (n : Nat) (hl : rs.length <= 1000) (hn : n <= 4000) (HG : ∀ m, m < n -> EiOK bp rs m) (HC : ClOK bp rs) : AtOK bp rs n := by
 intro a k w h hk ha hf
 obtain ⟨g, rfl⟩ : ∃ g, n = g + 1 := ⟨n - 1, by omega⟩
 have HADD := zh (fun a' b' k' W (h : DP W bp rs a' b' k') (hk : k' <= 100000) => zcl bp rs a' b' k' W h hk)
 have HNX := zh (fun a' b' k' W (h : DP W bp rs a' b' k') (ha : a' <= 1000000) => next_any bp rs a' b' k' W h (by omega) ha)
 obtain ⟨r, hr⟩ : ∃ r, rs[a]? = some r := ⟨_, List.getElem?_eq_getElem ha⟩
 have HR := zh hr
 have hx := zeo hr
 have HX := zh hx
 have HN1 := zh (HNX.out a false k w h (by omega))
 rw [hx] at HN1
 have HD := zh h
 have HEI := zh (HG g (by omega))
 have HCC := zh HC
 have HHK := zh (And.intro hk (And.intro hf ha))
 obtain ⟨L, hL⟩ : ∃ L, rs.length = L := ⟨_, rfl⟩
 have HL := zh hL
 rw [hL] at hl hf ha
 clear h HG HC hr hx hL
 go_enter Tryz.func177, Tryz.ntmps177
 go_wp2_with fail
 refine HN1.out.mono ?_
 rintro e w1 ⟨rfl, q1, hq1⟩
 have hd1 : DP w1 bp rs a false k := by rw [hq1]; exact HD.out
 have hb1 : Below bp w w1 := by rw [hq1]; exact ⟨rfl, rfl, rfl, Nat.le_refl _, fun _ _ => rfl⟩
 have HB1 := zh hb1
 have HD2 := zh (hd1.setAt (a + 1) ((a : Int) + 1) (by omega))
 have HB2 := zh (below_set hb1 (Nat.le_refl _) 3 (.int .i64 ((a : Int) + 1)))
 obtain ⟨vp, root, o, c, N, xs, h1, -⟩ := hd1
 obtain ⟨⟨c0, c1, c2, c3, c4⟩, f0, f1, f2, f3, f4⟩ := zaG h1
 clear h1 hq1 hb1
 by_cases h40 : r = 40
 ·subst h40
  have HE := zh (HEI.out (a + 1) k _ HD2.out (by omega) (by rw [HL.out]; omega) (by rw [HL.out]; omega))
  go_wp2_with fail
  refine HE.out.mono ?_
  rintro e w3 ⟨v3, a3, b3, k3, rfl, hd3, hb3, hlo3, htop3, hk3, hres3⟩
  have HE3 := zh (And.intro hlo3 (And.intro htop3 (And.intro hk3 hres3)))
  have HB3 := zh (HB2.out.trans hb3)
  have HD3 := zh hd3
  rw [HL.out] at htop3
  clear c0 c1 c2 c3 c4 f0 f1 f2 f3 f4 hb3 hlo3 hk3 hres3
  cases b3 with
  | true =>
    have HE4 := zh (And.intro ((hd3.setBad true).setAt (a3 + 1) ((a3 : Int) + 1) (by omega)) (below_set (below_set HB3.out (Nat.le_refl _) 4 (.bool true)) (Nat.le_refl _) 3 (.int .i64 ((a3 : Int) + 1))))
    obtain ⟨vp, root, o, c, N, xs, h1, -⟩ := hd3
    obtain ⟨⟨c0, c1, c2, c3, c4⟩, f0, f1, f2, f3, f4⟩ := zaG h1
    clear h1
    go_wp2
    go_ret
    obtain ⟨E1, E2, E3, E4⟩ := HE3.out
    exact ⟨v3, a3 + 1, true, k3, rfl, HE4.out.1, HE4.out.2, by omega, by omega, by omega, zfw E4 HX.out (by simp)⟩
  | false =>
    obtain ⟨y, hy⟩ : ∃ y, hd (rs.drop a3) = y := ⟨_, rfl⟩
    have HY := zh hy
    have HN3 := zh (HNX.out a3 false k3 w3 hd3 (by omega))
    rw [hy] at HN3
    obtain ⟨vp, root, o, c, N, xs, h1, -⟩ := hd3
    obtain ⟨⟨c0, c1, c2, c3, c4⟩, -⟩ := zaG h1
    clear h1 hy
    go_wp2_with fail
    refine HN3.out.mono ?_
    rintro e w4 ⟨rfl, q4, hq4⟩
    have hd4 : DP w4 bp rs a3 false k3 := by rw [hq4]; exact HD3.out
    have HB4 := zh (show Below bp w w4 by rw [hq4]; exact ⟨HB3.out.os, HB3.out.tape, HB3.out.output, HB3.out.size, HB3.out.block⟩)
    clear c0 c1 c2 c3 c4 hq4
    have HD4 := zh hd4
    obtain ⟨vp, root, o, c, N, xs, h1, -⟩ := hd4
    obtain ⟨⟨c0, c1, c2, c3, c4⟩, f0, f1, f2, f3, f4⟩ := zaG h1
    clear h1
    by_cases h41 : y = 41
    ·subst h41
     have HE4 := zh (And.intro ((HD4.out.setBad false).setAt (a3 + 1) ((a3 : Int) + 1) (by omega)) (below_set (below_set HB4.out (Nat.le_refl _) 4 (.bool false)) (Nat.le_refl _) 3 (.int .i64 ((a3 : Int) + 1))))
     go_wp2
     go_ret
     obtain ⟨E1, E2, E3, E4⟩ := HE3.out
     exact ⟨v3, a3 + 1, false, k3, rfl, HE4.out.1, HE4.out.2, by omega, by omega, by omega, zfw E4 HX.out (by rw [HY.out]; simp)⟩
    ·have e41 : (y != 41) = true := by simp [h41]
     have HE4 := zh (And.intro ((HD4.out.setBad true).setAt (a3 + 1) ((a3 : Int) + 1) (by omega)) (below_set (below_set HB4.out (Nat.le_refl _) 4 (.bool true)) (Nat.le_refl _) 3 (.int .i64 ((a3 : Int) + 1))))
     have HY4 := zh h41
     go_wp2
     go_ret
     obtain ⟨E1, E2, E3, E4⟩ := HE3.out
     exact ⟨v3, a3 + 1, true, k3, rfl, HE4.out.1, HE4.out.2, by omega, by omega, by omega, zfw E4 HX.out (by rw [HY.out]; simp [HY4.out])⟩
 have e40 : (r == 40) = false := by simp [h40]
 by_cases h91 : r = 91
 ·subst h91
  have HE := zh (HCC.out (a + 1) k _ HD2.out (by omega) (by rw [HL.out]; omega))
  go_wp2_with fail
  refine HE.out.mono ?_
  rintro e w3 ⟨v3, a3, b3, k3, rfl, hd3, hb3, hlo3, htop3, hk3, hres3⟩
  have HE3 := zh (And.intro hd3 (And.intro (HB2.out.trans hb3) (And.intro hlo3 (And.intro htop3 (And.intro hk3 hres3)))))
  clear hd3 hb3 hlo3 htop3 hk3 hres3 c0 c1 c2 c3 c4 f0 f1 f2 f3 f4
  go_wp2
  go_ret
  obtain ⟨E1, E2, E3, E4, E5, E6⟩ := HE3.out
  exact ⟨v3, a3, b3, k3, rfl, E1, E2, by omega, by omega, by omega, left_cl E6 HX.out⟩
 have e91 : (r == 91) = false := by simp [h91]
 by_cases h46 : r = 46
 ·subst h46
  have HA := zh (HADD.out (a + 1) false k _ HD2.out (by omega))
  go_wp2_with fail
  refine (HA.out _ _ _ _ _ _ _ _ _ _ _ _ _).mono ?_
  rintro e w4 ⟨⟨z4, rfl⟩, hd4, hb4⟩
  have H4 := zh (And.intro hd4 (HB2.out.trans hb4))
  clear hd4 hb4 c0 c1 c2 c3 c4 f0 f1 f2 f3 f4
  go_wp2
  go_ret
  exact ⟨z4, a + 1, false, k + 1, rfl, H4.out.1, H4.out.2, by omega, by rw [HL.out]; omega, by omega, left_dot HX.out (by rw [HL.out]; exact ha)⟩
 have e46 : (r == 46) = false := by simp [h46]
 have HLI := zh (fun (b : Bool) (a1 : Nat) (h : LeftD rs ((liR (rs.drop a)).map Prod.snd) b a1) => left_li (g := g) (by rw [HX.out]; exact h40) (by rw [HX.out]; exact h91) (by rw [HX.out]; exact h46) h)
 by_cases h92 : r = 92
 ·subst h92
  have HN2 := zh (HNX.out (a + 1) false k _ HD2.out (by omega))
  obtain ⟨y, hy⟩ : ∃ y, hd (rs.drop (a + 1)) = y := ⟨_, rfl⟩
  rw [hy] at HN2
  have HY := zh hy
  clear hy
  go_wp2_with fail
  refine HN2.out.mono ?_
  rintro e w3 ⟨rfl, q3, hq3⟩
  have hd3 : DP w3 bp rs (a + 1) false k := by rw [hq3]; exact HD2.out
  have HB3 := zh (show Below bp w w3 by rw [hq3]; exact ⟨HB2.out.os, HB2.out.tape, HB2.out.output, HB2.out.size, HB2.out.block⟩)
  clear c0 c1 c2 c3 c4 f0 f1 f2 f3 f4 hq3
  have HD3 := zh hd3
  obtain ⟨vp, root, o, c, N, xs, h1, -⟩ := hd3
  rw [HL.out] at h1
  obtain ⟨⟨c0, c1, c2, c3, c4⟩, f0, f1, f2, f3, f4⟩ := zaG h1
  have c3' : w3.cell? ⟨bp, 3, none⟩ = some (.int .i64 ((a : Int) + 1)) := by rw [c3]; simp
  clear h1 c3
  by_cases hlt : a + 1 < L
  ·have j1 : ¬ ((a : Int) + 1) >= L := by omega
   have j2 : ¬ (L : Int) <= (a : Int) + 1 := by omega
   have HE4 := zh (And.intro ((HD3.out.setBad (decide ((L : Int) <= (a : Int) + 1))).setAt (a + 2) ((a : Int) + 1 + 1) (by omega)) (below_set (below_set HB3.out (Nat.le_refl _) 4 (.bool (decide ((L : Int) <= (a : Int) + 1)))) (Nat.le_refl _) 3 (.int .i64 ((a : Int) + 1 + 1))))
   have HA := zh (HADD.out (a + 2) (decide ((L : Int) <= (a : Int) + 1)) k _ HE4.out.1.drew (by omega))
   go_wp2_with fail
   go_still_tail 19, (by kernel_rfl)
   change wpList _ _ _ _ _ w3.drew
   go_wp2_with fail
   refine (HA.out _ _ _ _ _ _ _ _ _ _ _ _ _).mono ?_
   rintro e w4 ⟨⟨z4, rfl⟩, hd4, hb4⟩
   have H4 := zh (And.intro hd4 (HE4.out.2.drew.trans hb4))
   clear hd4 hb4 c0 c1 c2 c3' c4 f0 f1 f2 f3 f4
   go_wp2
   go_ret
   refine ⟨z4, a + 2, _, k + 1, rfl, H4.out.1, H4.out.2, by omega, by rw [HL.out]; omega, by omega, HLI.out _ _ ?_⟩
   obtain ⟨y2, hy2⟩ : ∃ y, rs[a + 1]? = some y := ⟨_, List.getElem?_eq_getElem (by rw [HL.out]; exact hlt)⟩
   rw [zcz HR.out, zcz hy2]
   exact ⟨decide_eq_false (by omega), rfl, by rw [HL.out]; omega⟩
  ·have j1 : ((a : Int) + 1) >= L := by omega
   have j2 : (L : Int) <= (a : Int) + 1 := by omega
   have HE4 := zh (And.intro ((HD3.out.setBad true).setAt (a + 2) ((a : Int) + 1 + 1) (by omega)) (below_set (below_set HB3.out (Nat.le_refl _) 4 (.bool true)) (Nat.le_refl _) 3 (.int .i64 ((a : Int) + 1 + 1))))
   have HA := zh (HADD.out (a + 2) true k _ HE4.out.1.drew (by omega))
   go_wp2_with fail
   go_still_tail 19, (by kernel_rfl)
   change wpList _ _ _ _ _ w3.drew
   go_wp2_with fail
   refine (HA.out _ _ _ _ _ _ _ _ _ _ _ _ _).mono ?_
   rintro e w4 ⟨⟨z4, rfl⟩, hd4, hb4⟩
   have H4 := zh (And.intro hd4 (HE4.out.2.drew.trans hb4))
   clear hd4 hb4 c0 c1 c2 c3' c4 f0 f1 f2 f3 f4
   go_wp2
   go_ret
   refine ⟨z4, a + 2, true, k + 1, rfl, H4.out.1, H4.out.2, by omega, by rw [HL.out]; omega, by omega, HLI.out _ _ ?_⟩
   rw [zcz HR.out, List.drop_eq_nil_of_le (by rw [HL.out]; omega)]
   exact rfl
 have e92 : (r == 92) = false := by simp [h92]
 by_cases h42 : r = 42
 ·subst h42
  have HE4 := zh (And.intro (HD2.out.setBad true) (below_set HB2.out (Nat.le_refl _) 4 (.bool true)))
  have HA := zh (HADD.out (a + 1) true k _ HE4.out.1 (by omega))
  go_wp2_with fail
  refine (HA.out _ _ _ _ _ _ _ _ _ _ _ _ _).mono ?_
  rintro e w4 ⟨⟨z4, rfl⟩, hd4, hb4⟩
  have H4 := zh (And.intro hd4 (HE4.out.2.trans hb4))
  clear hd4 hb4 c0 c1 c2 c3 c4 f0 f1 f2 f3 f4
  go_wp2
  go_ret
  refine ⟨z4, a + 1, true, k + 1, rfl, H4.out.1, H4.out.2, by omega, by rw [HL.out]; omega, by omega, HLI.out _ _ ?_⟩
  rw [zcz HR.out]
  exact rfl
 by_cases h43 : r = 43
 ·subst h43
  have HE4 := zh (And.intro (HD2.out.setBad true) (below_set HB2.out (Nat.le_refl _) 4 (.bool true)))
  have HA := zh (HADD.out (a + 1) true k _ HE4.out.1 (by omega))
  go_wp2_with fail
  refine (HA.out _ _ _ _ _ _ _ _ _ _ _ _ _).mono ?_
  rintro e w4 ⟨⟨z4, rfl⟩, hd4, hb4⟩
  have H4 := zh (And.intro hd4 (HE4.out.2.trans hb4))
  clear hd4 hb4 c0 c1 c2 c3 c4 f0 f1 f2 f3 f4
  go_wp2
  go_ret
  refine ⟨z4, a + 1, true, k + 1, rfl, H4.out.1, H4.out.2, by omega, by rw [HL.out]; omega, by omega, HLI.out _ _ ?_⟩
  rw [zcz HR.out]
  exact rfl
 by_cases h63 : r = 63
 ·subst h63
  have HE4 := zh (And.intro (HD2.out.setBad true) (below_set HB2.out (Nat.le_refl _) 4 (.bool true)))
  have HA := zh (HADD.out (a + 1) true k _ HE4.out.1 (by omega))
  go_wp2_with fail
  refine (HA.out _ _ _ _ _ _ _ _ _ _ _ _ _).mono ?_
  rintro e w4 ⟨⟨z4, rfl⟩, hd4, hb4⟩
  have H4 := zh (And.intro hd4 (HE4.out.2.trans hb4))
  clear hd4 hb4 c0 c1 c2 c3 c4 f0 f1 f2 f3 f4
  go_wp2
  go_ret
  refine ⟨z4, a + 1, true, k + 1, rfl, H4.out.1, H4.out.2, by omega, by rw [HL.out]; omega, by omega, HLI.out _ _ ?_⟩
  rw [zcz HR.out]
  exact rfl
 by_cases h93 : r = 93
 ·subst h93
  have HE4 := zh (And.intro (HD2.out.setBad true) (below_set HB2.out (Nat.le_refl _) 4 (.bool true)))
  have HA := zh (HADD.out (a + 1) true k _ HE4.out.1 (by omega))
  go_wp2_with fail
  refine (HA.out _ _ _ _ _ _ _ _ _ _ _ _ _).mono ?_
  rintro e w4 ⟨⟨z4, rfl⟩, hd4, hb4⟩
  have H4 := zh (And.intro hd4 (HE4.out.2.trans hb4))
  clear hd4 hb4 c0 c1 c2 c3 c4 f0 f1 f2 f3 f4
  go_wp2
  go_ret
  refine ⟨z4, a + 1, true, k + 1, rfl, H4.out.1, H4.out.2, by omega, by rw [HL.out]; omega, by omega, HLI.out _ _ ?_⟩
  rw [zcz HR.out]
  exact rfl
 have e42 : (r == 42) = false := by simp [h42]
 have e43 : (r == 43) = false := by simp [h43]
 have e63 : (r == 63) = false := by simp [h63]
 have e93 : (r == 93) = false := by simp [h93]
 have HLF := zh (show liR (rs.drop a) = some (.only r, rs.drop (a + 1)) by rw [zcz HR.out]; unfold liR; dsimp only; rw [if_neg h92, if_neg (by simp [h42, h43, h63, h93])])
 have HA := zh (HADD.out (a + 1) false k _ HD2.out (by omega))
 go_wp2_with fail
 refine (HA.out _ _ _ _ _ _ _ _ _ _ _ _ _).mono ?_
 rintro e w4 ⟨⟨z4, rfl⟩, hd4, hb4⟩
 have H4 := zh (And.intro hd4 (HB2.out.trans hb4))
 clear hd4 hb4 c0 c1 c2 c3 c4 f0 f1 f2 f3 f4
 go_wp2
 go_ret
 refine ⟨z4, a + 1, false, k + 1, rfl, H4.out.1, H4.out.2, by omega, by rw [HL.out]; omega, by omega, HLI.out _ _ ?_⟩
 rw [HLF.out]
 exact ⟨rfl, rfl, by rw [HL.out]; omega⟩
end Go.Proofs.YtbcemjhaecelnaaGreatDoor.Dpt
end

section
namespace Go.Proofs.YtbcemjhaecelnaaGreatDoor.Dpt
open Go.RowKit Go.Lib
open Go.Proofs.YtbcemjhaecelnaaGreatDoor.Pat
theorem all_ok (bp : Nat) (rs : List Int) (hl : rs.length <= 1000) (HC : ClOK bp rs) (n : Nat) (hn : n <= 4000) : AtOK bp rs n /\ AgOK bp rs n /\ BeOK bp rs n /\ EiOK bp rs n := by
 induction n using Nat.strongRecOn with
 | _ n ih =>
   have h1 := atom_ok bp rs n hl hn (fun m hm => (ih m hm (by omega)).2.2.2) HC
   exact ⟨h1, again_ok bp rs n hl hn h1, behind_ok bp rs n hl hn fun m hm => (ih m hm (by omega)).2.1, either_ok bp rs n hl hn fun m hm => (ih m hm (by omega)).2.2.1⟩
theorem whole_ok (bp : Nat) (rs : List Int) (hl : rs.length <= 1000) (HC : ClOK bp rs) (k : Nat) (W : World) (h : DP W bp rs 0 false k) (hk : k <= 20000) :
 Calls Tryz.prog 165 #[.pointer (some ⟨bp, 0, none⟩)] W fun e w' => ∃ (v : Int) (a' : Nat) (b' : Bool) (k' : Nat), e = .returned (.int .i64 v) /\ DP w' bp rs a' b' k' /\ Below bp W w' /\ a' <= 10000 /\ ((b' = true \/ a' < rs.length) ↔ rawP rs = none) := by
 refine ((all_ok bp rs hl HC (3 * rs.length + 3) (by omega)).2.2.2 0 k W h (by omega) (Nat.zero_le _) (by omega)).mono ?_
 rintro e w' ⟨v, a', b', k', he, hd, hb, _, htop, _, hres⟩
 refine ⟨v, a', b', k', he, hd, hb, by omega, ?_⟩
 rw [List.drop_zero] at hres
 unfold rawP
 cases hq : chR (3 * rs.length + 3) rs [] with
 | none =>
   rw [hq] at hres
   exact ⟨fun _ => rfl, fun _ => .inl hres⟩
 | some p =>
   obtain ⟨c, m⟩ := p
   rw [hq] at hres
   obtain ⟨h1, h2, h3⟩ := hres
   have h2 : rs.drop a' = m := h2
   cases m with
   | nil =>
     have : rs.length <= a' := by
      have := congrArg List.length h2
      rw [List.length_drop] at this
      simp at this; omega
     refine ⟨fun hc => ?_, fun hc => nomatch hc⟩
     rcases hc with hc | hc
     ·rw [h1] at hc; cases hc
     ·omega
   | cons x t =>
     have : a' < rs.length := by
      have := congrArg List.length h2
      rw [List.length_drop] at this
      simp at this; omega
     exact ⟨fun _ => rfl, fun _ => .inr this⟩
end Go.Proofs.YtbcemjhaecelnaaGreatDoor.Dpt
end

section
set_option maxHeartbeats 4000000
set_option maxRecDepth 100000
namespace Go.Proofs.YtbcemjhaecelnaaGreatDoor.Dpt
open Go.RowKit Go.Lib
open Go.Proofs.YtbcemjhaecelnaaGreatDoor Go.Proofs.YtbcemjhaecelnaaGreatDoor.Pat
theorem spelt_open {B : Nat} {xs : List Int} {e : Ending} {w : World} (h : ziE B xs e w) : ∃ (oa : Option Addr) (cap : Nat), e = .returned (.slice oa xs.length cap) /\ xs.length <= cap /\ ((oa = none /\ xs = []) \/ ∃ g, oa = some ⟨g, 0, none⟩ /\ g < w.heap.size /\ ∀ j x, xs[j]? = some x -> w.cell? ⟨g, j, none⟩ = some (.int .i32 x)) := by
 obtain ⟨v, rfl, hl, h2⟩ := h
 rcases h2 with ⟨rfl, h0⟩ | ⟨g, cap, cur, rfl, hg, hh, hn, hcap, hsz, htake⟩
 ·have : xs = [] := by simpa using h0
  subst this
  exact ⟨none, 0, rfl, by simp, .inl ⟨rfl, rfl⟩⟩
 ·refine ⟨some ⟨g, 0, none⟩, cap, rfl, hn, .inr ⟨g, rfl, (Array.getElem?_eq_some_iff.1 hh).1, fun j x hx => ?_⟩⟩
  have hj : j < xs.length := (List.getElem?_eq_some_iff.1 hx).1
  have hown : w.ownsRow B 21 1 (.slice (some ⟨g, 0, none⟩) xs.length cap) xs.length (xs.map (Value.int .i32)) := ⟨hl, .inr ⟨g, cap, cur, rfl, hg, hh, hn, hcap, hsz, htake⟩⟩
  rw [hown.cellAt j (by omega)]
  simp [hx]
theorem compile_d (s : ByteArray) (w : World) (hs : s.size <= 1000000) (hl : (zai s.data.toList).length <= 1000) (HC : ∀ bp, ClOK bp (zai s.data.toList)) :
 Calls Tryz.prog 158 #[.string s] w fun e w' => (∃ o : Option Addr, e = .returned (.pointer o) /\ (o = none ↔ rawP (zai s.data.toList) = none)) /\ Below w.heap.size w w' := by
 obtain ⟨rs, hrs⟩ : ∃ rs, zai s.data.toList = rs := ⟨_, rfl⟩
 have HSP := zh (spell_any s w (by omega))
 rw [hrs] at hl HC HSP ⊢
 have HCC := zh HC
 clear HC hrs
 go_enter Tryz.func158, Tryz.ntmps158
 go_wp2_with fail
 refine HSP.out.mono ?_
 rintro e w1 ⟨hsp, hb1⟩
 obtain ⟨oa, cap, rfl, hcap, hrow⟩ := spelt_open hsp
 obtain ⟨W2, hW2⟩ : ∃ W2, w1.alloc (Obj.cells #[.slice none 0 0, .int .i64 0, .slice oa rs.length cap, .int .i64 0, .bool false] 200) = W2 := ⟨_, rfl⟩
 have hbW : Below w1.heap.size w1 W2 := by rw [<- hW2]; exact (Below.refl _ _).alloc (Nat.le_refl _) _
 have h1 : W2.heap[w1.heap.size]? = some (.cells #[.slice none 0 0, .int .i64 0, .slice oa rs.length cap, .int .i64 0, .bool false] 200 (0, 0)) := by rw [<- hW2]; exact Array.getElem?_push_size
 have hd2 : DP W2 w1.heap.size rs 0 false 0 := by
  refine ⟨_, 0, oa, cap, 0, [], h1, ?_, World.ownsRow_nil _ _ _ _, Nat.le_refl _⟩
  rcases hrow with ⟨_, h⟩ | ⟨g, h2, h3, h4⟩
  ·exact .inl h
  ·refine .inr ⟨g, 0, h2, h3, fun j r hj => ?_⟩
   rw [Nat.zero_add]
   exact (World.cell?_of_block (a := ⟨g, j, none⟩) (hbW.block g h3)).trans (h4 j r hj)
 have HEI := zh (whole_ok w1.heap.size rs hl (HCC.out _) 0 W2 hd2 (by omega))
 have HB2 := zh (show Below w.heap.size w W2 from hb1.trans (hbW.mono hb1.size))
 have HSZ := zh hb1.size
 have HW2 := zh hW2
 clear hsp hb1 hrow hbW h1 hd2 hW2
 go_wp2_with fail
 rw [HW2.out]
 refine HEI.out.mono ?_
 rintro e w3 ⟨v3, a3, b3, k3, rfl, hd3, hb3, htop, hiff⟩
 have HB3 := zh (HB2.out.trans (hb3.mono HSZ.out))
 have HF := zh hiff
 obtain ⟨vp, root, o, c, N, xs, h1, -⟩ := hd3
 obtain ⟨L, hL⟩ : ∃ L, rs.length = L := ⟨_, rfl⟩
 have HL := zh hL
 rw [hL] at h1 hl
 obtain ⟨⟨c0, c1, c2, c3, c4⟩, f0, f1, f2, f3, f4⟩ := zaG h1
 have HB4 := zh (below_set HB3.out HSZ.out 1 (.int .i64 v3))
 clear h1 hb3 hiff hL c0 f0 f2 f3 f4
 cases b3 with
 | true =>
   go_wp2_with fail
   go_quiet (fail)
   go_wp2
   go_ret
   exact ⟨⟨none, rfl, fun _ => HF.out.1 (.inl (by first | trivial | rfl)), fun _ => rfl⟩, HB4.out.os, HB4.out.tape, HB4.out.output, HB4.out.size, HB4.out.block⟩
 | false =>
   by_cases hlt : a3 < L
   ·have j1 : (a3 : Int) < L := by omega
    go_wp2_with fail
    go_quiet (fail)
    go_wp2
    go_ret
    exact ⟨⟨none, rfl, fun _ => HF.out.1 (.inr (by rw [HL.out]; exact hlt)), fun _ => rfl⟩, HB4.out.os, HB4.out.tape, HB4.out.output, HB4.out.size, HB4.out.block⟩
   ·have j1 : ¬ (a3 : Int) < L := by omega
    go_wp2_with fail
    go_quiet (fail)
    go_wp2
    go_ret
    have HNO : rawP rs ≠ none := fun h => by
     have h2 := HF.out.2 h
     rw [HL.out] at h2
     simp at h2
     omega
    exact ⟨⟨some ⟨w1.heap.size, 0, none⟩, rfl, by constructor; (intro h; cases h); (intro h; exact absurd h HNO)⟩, HB4.out.os, HB4.out.tape, HB4.out.output, HB4.out.size, HB4.out.block⟩
end Go.Proofs.YtbcemjhaecelnaaGreatDoor.Dpt
end

section
namespace Go.Proofs.YtbcemjhaecelnaaGreatDoor.Dpt
open Go.RowKit Go.Lib
open Go.Proofs.YtbcemjhaecelnaaGreatDoor.Pat
theorem zbF {w W : World} {B e sz n : Nat} {v : Value} {xs : List Value} (h : w.ownsRow B e sz v n xs) (hk : ∀ g, v.ownBlock = some g -> W.heap[g]? = w.heap[g]?) : W.ownsRow B e sz v n xs :=
 ⟨h.1, h.2.imp id fun ⟨g, cap, cur, h1, h2, h3⟩ => ⟨g, cap, cur, h1, h2, (hk g (by rw [h1]; rfl)).trans h3.1, h3.2⟩⟩
def Lo (w : World) (bp pb : Nat) : Prop := ∀ v, w.cell? ⟨bp, 0, none⟩ = some v -> ∀ g, v.ownBlock = some g -> g < pb
theorem DP.keepLo {w W : World} {bp pb : Nat} {rs : List Int} {a : Nat} {b : Bool} {k : Nat} (h : DP w bp rs a b k) (hl : Lo w bp pb) (hbp : bp < pb) (hk : ∀ j, j < pb -> W.heap[j]? = w.heap[j]?) : DP W bp rs a b k /\ Lo W bp pb := by
 obtain ⟨vp, root, o, c, N, xs, h1, h2, h3, h4⟩ := h
 have e0 : w.cell? ⟨bp, 0, none⟩ = some vp := by rw [zdY w bp 0 _ _ _ h1]; rfl
 have hc : W.cell? ⟨bp, 0, none⟩ = w.cell? ⟨bp, 0, none⟩ := World.cell?_of_block (a := ⟨bp, 0, none⟩) (hk bp hbp)
 refine ⟨⟨vp, root, o, c, N, xs, (hk bp hbp).trans h1, h2.keep fun j hj => hk j (by omega), zbF h3 fun g hg => hk g (hl vp e0 g hg), h4⟩, fun v hv => hl v (hc ▸ hv)⟩
def CP (w : World) (pb n : Nat) (nt : Bool) : Prop := ∃ ol cl oh ch xs ys, w.heap[pb]? = some (.cells #[.int .i64 3, .int .i32 0, .slice ol n cl, .slice oh n ch, .bool nt, .int .i64 0, .int .i64 0, .int .i64 0, .bool false] 213 (0, 0)) /\
 w.ownsRow (pb + 1) 21 1 (.slice ol n cl) n xs /\ w.ownsRow (pb + 1) 21 1 (.slice oh n ch) n ys /\ ((Value.slice ol n cl).ownBlock = none \/ (Value.slice ol n cl).ownBlock ≠ (Value.slice oh n ch).ownBlock)
theorem CP.keep {w W : World} {pb n : Nat} {nt : Bool} (h : CP w pb n nt) (hk : ∀ j, pb <= j -> j < w.heap.size -> W.heap[j]? = w.heap[j]?) : CP W pb n nt := by
 obtain ⟨ol, cl, oh, ch, xs, ys, h1, h2, h3, h4⟩ := h
 exact ⟨ol, cl, oh, ch, xs, ys, (hk pb (Nat.le_refl _) (Array.getElem?_eq_some_iff.1 h1).1).trans h1, zbF h2 fun g hg => hk g (by have := (h2.lt g hg).1; omega) (h2.lt g hg).2, zbF h3 fun g hg => hk g (by have := (h3.lt g hg).1; omega) (h3.lt g hg).2, h4⟩
structure St (w0 w : World) (bp pb : Nat) (rs : List Int) (a : Nat) (b : Bool) (k n : Nat) (nt : Bool) : Prop where
 dp : DP w bp rs a b k
 lo : Lo w bp pb
 cp : CP w pb n nt
 below : Below bp w0 w
 lt : bp < pb
theorem St.moved {w0 w W : World} {bp pb : Nat} {rs : List Int} {a a' : Nat} {b b' : Bool} {k n : Nat} {nt : Bool} (h : St w0 w bp pb rs a b k n nt) (hd : DP W bp rs a' b' k) (hb : Below bp w W) (hk : Kept1 bp w W) : St w0 W bp pb rs a' b' k n nt :=
 ⟨hd, fun v hv => h.lo v (hk.2.2 ▸ hv), h.cp.keep fun j hj _ => hk.2.1 j (by have := h.lt; omega), h.below.trans hb, h.lt⟩
theorem St.drewN {w0 w : World} {bp pb : Nat} {rs : List Int} {a : Nat} {b : Bool} {k n : Nat} {nt : Bool} (h : St w0 w bp pb rs a b k n nt) (m : Nat) : St w0 (w.drewN m) bp pb rs a b k n nt :=
 h.moved (h.dp.drewN m) ⟨rfl, rfl, rfl, Nat.le_refl _, fun _ _ => rfl⟩ ⟨rfl, fun _ _ => rfl, rfl⟩
theorem St.at {w0 w : World} {bp pb : Nat} {rs : List Int} {a : Nat} {b : Bool} {k n : Nat} {nt : Bool} (h : St w0 w bp pb rs a b k n nt) (a' : Nat) (z : Int) (hz : z = (a' : Nat)) : St w0 (w.setCell ⟨bp, 3, none⟩ (.int .i64 z)) bp pb rs a' b k n nt :=
 h.moved (h.dp.setAt a' z hz) (below_set (Below.refl _ _) (Nat.le_refl _) 3 _) (Kept1.set h.dp 3 (by decide) _)
theorem St.bad {w0 w : World} {bp pb : Nat} {rs : List Int} {a : Nat} {b : Bool} {k n : Nat} {nt : Bool} (h : St w0 w bp pb rs a b k n nt) (b' : Bool) : St w0 (w.setCell ⟨bp, 4, none⟩ (.bool b')) bp pb rs a b' k n nt :=
 h.moved (h.dp.setBad b') (below_set (Below.refl _ _) (Nat.le_refl _) 4 _) (Kept1.set h.dp 4 (by decide) _)
theorem zaq {w : World} {k T : Nat} {a b c d e f g h i : Value} (hh : w.heap[k]? = some (.cells #[a, b, c, d, e, f, g, h, i] T (0, 0))) : w.cell? ⟨k, 0, none⟩ = some a /\ w.cell? ⟨k, 1, none⟩ = some b /\ w.cell? ⟨k, 2, none⟩ = some c /\ w.cell? ⟨k, 3, none⟩ = some d /\ w.cell? ⟨k, 4, none⟩ = some e /\ w.cell? ⟨k, 5, none⟩ = some f /\ w.cell? ⟨k, 6, none⟩ = some g /\ w.cell? ⟨k, 7, none⟩ = some h /\ w.cell? ⟨k, 8, none⟩ = some i := by
 refine ⟨?_, ?_, ?_, ?_, ?_, ?_, ?_, ?_, ?_⟩ <;> simp [World.cell?, hh]
theorem zah {w : World} {k T i : Nat} {cs : Array Value} (hh : w.heap[k]? = some (.cells cs T (0, 0))) : w.frozen? ⟨k, i, none⟩ = false := by simp [World.frozen?, hh]
theorem St.not {w0 w : World} {bp pb : Nat} {rs : List Int} {a : Nat} {b : Bool} {k : Nat} {nt : Bool} (h : St w0 w bp pb rs a b k 0 nt) : St w0 (w.setCell ⟨pb, 4, none⟩ (.bool true)) bp pb rs a b k 0 true := by
 obtain ⟨ol, cl, oh, ch, xs, ys, h1, h2, h3, h4⟩ := h.cp
 have hk := h.dp.keepLo (W := w.setCell ⟨pb, 4, none⟩ (.bool true)) h.lo h.lt fun j hj => heap_setCell_other w ⟨pb, 4, none⟩ j _ (fun e => by have e2 : j = pb := e; omega)
 refine ⟨hk.1, hk.2, ⟨ol, cl, oh, ch, xs, ys, heap_setCell_same w pb 4 _ 213 _ h1, ?_, ?_, h4⟩, below_set h.below (Nat.le_of_lt h.lt) 4 _, h.lt⟩
 ·exact zbF h2 fun g hg => heap_setCell_other w ⟨pb, 4, none⟩ g _ (fun e => by have e2 : g = pb := e; have := (h2.lt g hg).1; omega)
 ·exact zbF h3 fun g hg => heap_setCell_other w ⟨pb, 4, none⟩ g _ (fun e => by have e2 : g = pb := e; have := (h3.lt g hg).1; omega)
theorem St.start {w : World} {bp : Nat} {rs : List Int} {a k : Nat} (h : DP w bp rs a false k) : St w (w.alloc (Obj.cells #[.int .i64 3, .int .i32 0, .slice none 0 0, .slice none 0 0, .bool false, .int .i64 0, .int .i64 0, .int .i64 0, .bool false] 213)) bp w.heap.size rs a false k 0 false := by
 have hlt := h.lt
 have hl : Lo w bp w.heap.size := by
  obtain ⟨vp, root, o, c, N, xs, h1, h2, h3, h4⟩ := h
  intro v hv g hg
  rw [zdY w bp 0 _ _ _ h1] at hv
  obtain rfl := Option.some.inj hv
  exact (h3.lt g hg).2
 have hk := h.keepLo (W := w.alloc (Obj.cells #[.int .i64 3, .int .i32 0, .slice none 0 0, .slice none 0 0, .bool false, .int .i64 0, .int .i64 0, .int .i64 0, .bool false] 213)) hl hlt fun j hj => Below.heap_alloc _ _ _ hj
 refine ⟨hk.1, hk.2, ⟨none, 0, none, 0, [], [], Array.getElem?_push_size, World.ownsRow_nil _ _ _ _, World.ownsRow_nil _ _ _ _, .inl rfl⟩, (Below.refl _ _).alloc (Nat.le_of_lt hlt) _, hlt⟩
def ClI (rs : List Int) (R : Option (List (Int × Int) × List Int)) (kx a1 : Nat) (b1 : Bool) (n : Nat) : Prop :=
 (b1 = true /\ R = none) \/ (b1 = false /\ a1 <= rs.length /\ rs.length - a1 + 1 <= kx /\ ∃ acc, acc.length = n /\ R = itsR kx (rs.drop a1) acc)
def ClT (rs : List Int) (R : Option (List (Int × Int) × List Int)) (g a3 : Nat) (b3 : Bool) (lo hi : Int) (n : Nat) : Prop :=
 (b3 = true /\ R = none) \/ (b3 = false /\ a3 <= rs.length /\ rs.length - a3 + 1 <= g /\ ∃ acc, acc.length = n /\ R = if hi < lo then none else itsR g (rs.drop a3) (acc ++ [(lo, hi)]))
theorem zgM {rs : List Int} {R : Option (List (Int × Int) × List Int)} {g a3 n : Nat} {b3 : Bool} {lo hi : Int} (h : ClT rs R g a3 b3 lo hi n) : ClI rs R g a3 (b3 || decide (hi < lo)) (n + 1) := by
 rcases h with ⟨rfl, h⟩ | ⟨rfl, h1, h2, acc, h3, h4⟩
 ·exact .inl ⟨rfl, h⟩
 ·by_cases hlt : hi < lo
  ·rw [if_pos hlt] at h4
   exact .inl ⟨by simp [hlt], h4⟩
  ·rw [if_neg hlt] at h4
   exact .inr ⟨by simp [hlt], h1, h2, acc ++ [(lo, hi)], by rw [List.length_append, h3]; rfl, h4⟩
theorem clI_bad {rs : List Int} {R : Option (List (Int × Int) × List Int)} {kx a1 n : Nat} (h : ClI rs R kx a1 true n) : R = none := by
 rcases h with ⟨_, h⟩ | ⟨h, _⟩
 ·exact h
 ·cases h
theorem clI_open {rs : List Int} {R : Option (List (Int × Int) × List Int)} {kx a1 n : Nat} (h : ClI rs R kx a1 false n) : a1 <= rs.length /\ rs.length - a1 + 1 <= kx /\ ∃ acc, acc.length = n /\ R = itsR kx (rs.drop a1) acc := by
 rcases h with ⟨h, _⟩ | ⟨_, h⟩
 ·cases h
 ·exact h
theorem cl_end {rs : List Int} {R : Option (List (Int × Int) × List Int)} {kx a1 n : Nat} (h : ClI rs R kx a1 false n) (hn : n ≠ 0) (h93 : hd (rs.drop a1) = 93) : LeftD rs (R.map Prod.snd) false (a1 + 1) := by
 obtain ⟨h1, h2, acc, h3, h4⟩ := clI_open h
 obtain ⟨g, rfl⟩ : ∃ g, kx = g + 1 := ⟨kx - 1, by omega⟩
 rw [itsR, if_pos ⟨h93, by rintro rfl; exact hn h3.symm⟩] at h4
 have hlt := zh1 (rs := rs) (a := a1) (by rw [h93]; decide)
 rw [h4]
 exact ⟨rfl, zbg _ _, by omega⟩
theorem zh2 {rs : List Int} {R : Option (List (Int × Int) × List Int)} {kx a1 n : Nat} (h : ClI rs R kx a1 false n) (hx : (n = 0 /\ hd (rs.drop a1) = 93) \/ (hd (rs.drop a1) ≠ 93 /\ rs.drop a1 = [])) : LeftD rs (R.map Prod.snd) true (a1 + 1) := by
 obtain ⟨h1, h2, acc, h3, h4⟩ := clI_open h
 obtain ⟨g, rfl⟩ : ∃ g, kx = g + 1 := ⟨kx - 1, by omega⟩
 rcases hx with ⟨rfl, h93⟩ | ⟨h93, hnil⟩
 ·obtain rfl := List.eq_nil_of_length_eq_zero h3
  rw [itsR, if_neg (fun h => h.2 rfl), if_pos (.inl h93)] at h4
  rw [h4]; exact rfl
 ·rw [itsR, if_neg (fun h => h93 h.1), if_pos (.inr hnil)] at h4
  rw [h4]; exact rfl
def ziL (g : Nat) (acc : List (Int × Int)) (lo : Int) : Option (Int × List Int) -> Option (List (Int × Int) × List Int)
 | none => none
 | some (h, u) => if h < lo then none else itsR g u (acc ++ [(lo, h)])
def zht (g : Nat) (acc : List (Int × Int)) : Option (Int × List Int) -> Option (List (Int × Int) × List Int)
 | none => none
 | some (lo, t) => if hd t = 45 /\ 1 < t.length /\ hd t.tail ≠ 93 then ziL g acc lo (itR t.tail) else itsR g t (acc ++ [(lo, lo)])
theorem cl_item {rs : List Int} {R : Option (List (Int × Int) × List Int)} {g a1 n : Nat} (h : ClI rs R (g + 1) a1 false n) (h93 : hd (rs.drop a1) ≠ 93) (hlt : a1 < rs.length) : ∃ acc, acc.length = n /\ R = zht g acc (itR (rs.drop a1)) := by
 obtain ⟨h1, h2, acc, h3, h4⟩ := clI_open h
 rw [itsR, if_neg (fun h => h93 h.1), if_neg (by
  rintro (h | h)
  ·exact h93 h
  ·have := congrArg List.length h
   rw [List.length_drop] at this
   simp at this; omega)] at h4
 refine ⟨acc, h3, h4.trans ?_⟩
 cases itR (rs.drop a1) with
 | none => rfl
 | some p =>
   obtain ⟨lo, t⟩ := p
   unfold zht ziL
   dsimp only
   split
   ·cases itR t.tail with
    | none => rfl
    | some q => rfl
   ·rfl
def ziD (rs : List Int) (a1 a2 : Nat) (lo : Int) (b2 : Bool) : Bool -> Prop
 | true => b2 = false /\ ∃ t, itR (rs.drop a1) = some (lo, t) /\ rs.drop a2 = t /\ (hd t = 45 /\ 1 < t.length /\ hd t.tail ≠ 93) /\ a2 <= rs.length
 | false => (b2 = true /\ True /\ itR (rs.drop a1) = none) \/ (b2 = false /\ True /\ ∃ t, itR (rs.drop a1) = some (lo, t) /\ rs.drop a2 = t /\ ¬ (hd t = 45 /\ 1 < t.length /\ hd t.tail ≠ 93) /\ a2 <= rs.length)
theorem clT_one {rs : List Int} {R : Option (List (Int × Int) × List Int)} {g a1 a2 n : Nat} {b2 : Bool} {lo : Int} {acc : List (Int × Int)} (hacc : acc.length = n) (hRR : R = zht g acc (itR (rs.drop a1))) (hq : ziD rs a1 a2 lo b2 false) (h12 : a1 < a2) (hg : rs.length - a1 + 1 <= g + 1) (ha : a1 < rs.length) : ClT rs R g a2 b2 lo lo n := by
 rcases hq with ⟨e, _, h⟩ | ⟨e, _, t, h1, h2, h3, h4⟩
 ·exact .inl ⟨e, by rw [hRR, h]; rfl⟩
 ·refine .inr ⟨e, h4, by omega, acc, hacc, ?_⟩
  rw [hRR, h1, if_neg (Int.lt_irrefl lo), h2]
  unfold zht
  dsimp only
  rw [if_neg h3]
theorem clT_two {rs : List Int} {R : Option (List (Int × Int) × List Int)} {g a1 a2 a3 n : Nat} {b2 b3 : Bool} {lo hi : Int} {acc : List (Int × Int)} (hacc : acc.length = n) (hRR : R = zht g acc (itR (rs.drop a1))) (hq : ziD rs a1 a2 lo b2 true) (h12 : a1 < a2) (h23 : a2 + 1 < a3) (hg : rs.length - a1 + 1 <= g + 1)
 (hn : itR (rs.drop (a2 + 1)) = none -> b3 = true) (hs : ∀ x m, itR (rs.drop (a2 + 1)) = some (x, m) -> b3 = false /\ hi = x /\ rs.drop a3 = m /\ a3 <= rs.length) : ClT rs R g a3 b3 lo hi n := by
 obtain ⟨rfl, t, h1, h2, h3, h4⟩ := hq
 rw [h1] at hRR
 unfold zht at hRR
 dsimp only at hRR
 rw [if_pos h3, <- h2, <- zbg] at hRR
 cases hm : itR (rs.drop (a2 + 1)) with
 | none =>
   rw [hm] at hRR
   exact .inl ⟨hn hm, hRR⟩
 | some p =>
   obtain ⟨x, m⟩ := p
   rw [hm] at hRR
   obtain ⟨e1, rfl, e3, e4⟩ := hs x m hm
   exact .inr ⟨e1, e4, by omega, acc, hacc, by rw [hRR, e3]; rfl⟩
theorem cl_res (rs : List Int) (a : Nat) : ∃ (_nt : Bool) (R : Option (List (Int × Int) × List Int)), (clR (rs.drop a)).map Prod.snd = R.map Prod.snd /\ ((hd (rs.drop a) = 94 /\ R = itsR ((rs.drop a).length + 1) (rs.drop (a + 1)) []) \/ (hd (rs.drop a) ≠ 94 /\ R = itsR ((rs.drop a).length + 1) (rs.drop a) [])) := by
 unfold clR
 by_cases h : hd (rs.drop a) = 94
 ·refine ⟨true, _, ?_, .inl ⟨h, rfl⟩⟩
  rw [if_pos h, zbg]
  cases itsR ((rs.drop a).length + 1) (rs.drop a).tail [] <;> rfl
 ·refine ⟨false, _, ?_, .inr ⟨h, rfl⟩⟩
  rw [if_neg h]
  cases itsR ((rs.drop a).length + 1) (rs.drop a) [] <;> rfl
theorem St.more {w0 w W : World} {bp pb : Nat} {rs : List Int} {a : Nat} {b : Bool} {k n : Nat} {nt : Bool} {ol oh o1 o2 : Option Addr} {cl ch d1 d2 : Nat} {xs ys : List Value} (h : St w0 w bp pb rs a b k n nt)
 (h1 : w.heap[pb]? = some (.cells #[.int .i64 3, .int .i32 0, .slice ol n cl, .slice oh n ch, .bool nt, .int .i64 0, .int .i64 0, .int .i64 0, .bool false] 213 (0, 0)))
 (hl1 : w.ownsRow (pb + 1) 21 1 (.slice ol n cl) n xs) (hl2 : w.ownsRow (pb + 1) 21 1 (.slice oh n ch) n ys)
 (hos : W.os = w.os) (htape : W.tape = w.tape) (hout : W.output = w.output) (hsz : w.heap.size <= W.heap.size)
 (hk : ∀ j, j < w.heap.size -> (Value.slice ol n cl).ownBlock ≠ some j -> (Value.slice oh n ch).ownBlock ≠ some j -> W.heap[j]? = w.heap[j]?)
 (xs' ys' : List Value) (r1 : W.ownsRow (pb + 1) 21 1 (.slice o1 (n + 1) d1) (n + 1) xs') (r2 : W.ownsRow (pb + 1) 21 1 (.slice o2 (n + 1) d2) (n + 1) ys') (hne : (Value.slice o1 (n + 1) d1).ownBlock = none \/ (Value.slice o1 (n + 1) d1).ownBlock ≠ (Value.slice o2 (n + 1) d2).ownBlock) :
 St w0 ((W.setCell ⟨pb, 2, none⟩ (.slice o1 (n + 1) d1)).setCell ⟨pb, 3, none⟩ (.slice o2 (n + 1) d2)) bp pb rs a b k (n + 1) nt := by
 have hpl : pb < w.heap.size := (Array.getElem?_eq_some_iff.1 h1).1
 have hlow : ∀ j, j <= pb -> W.heap[j]? = w.heap[j]? := fun j hj => hk j (by omega) (fun e => by have := (hl1.lt j e).1; omega) (fun e => by have := (hl2.lt j e).1; omega)
 have e1 := heap_setCell_same W pb 2 _ 213 (.slice o1 (n + 1) d1) ((hlow pb (Nat.le_refl _)).trans h1)
 have e2 := heap_setCell_same _ pb 3 _ 213 (.slice o2 (n + 1) d2) e1
 have hoth : ∀ j, j ≠ pb -> ((W.setCell ⟨pb, 2, none⟩ (.slice o1 (n + 1) d1)).setCell ⟨pb, 3, none⟩ (.slice o2 (n + 1) d2)).heap[j]? = W.heap[j]? := fun j hj => (heap_setCell_other _ ⟨pb, 3, none⟩ j _ hj).trans (heap_setCell_other W ⟨pb, 2, none⟩ j _ hj)
 have hkk := h.dp.keepLo (W := (W.setCell ⟨pb, 2, none⟩ (.slice o1 (n + 1) d1)).setCell ⟨pb, 3, none⟩ (.slice o2 (n + 1) d2)) h.lo h.lt fun j hj => (hoth j (by omega)).trans (hlow j (by omega))
 refine ⟨hkk.1, hkk.2, ⟨o1, d1, o2, d2, xs', ys', e2, ?_, ?_, hne⟩, ?_, h.lt⟩
 ·exact zbF r1 fun g hg => hoth g (by have := (r1.lt g hg).1; omega)
 ·exact zbF r2 fun g hg => hoth g (by have := (r2.lt g hg).1; omega)
 ·have := h.lt
  exact ((h.below.trans ⟨hos, htape, hout, hsz, fun j hj => hlow j (by omega)⟩).setCell (Nat.le_of_lt h.lt) _).setCell (Nat.le_of_lt h.lt) _
theorem zbl {w Wb w1 : World} {pb n : Nat} {ol oh : Option Addr} {cl ch : Nat} {ys : List Value} (hl2 : w.ownsRow (pb + 1) 21 1 (.slice oh n ch) n ys) (hne : (Value.slice ol n cl).ownBlock = none \/ (Value.slice ol n cl).ownBlock ≠ (Value.slice oh n ch).ownBlock) (b1 : Below w.heap.size w Wb) (g1s : Wb.grownBy w1 (Value.slice ol n cl).ownBlock) : w1.ownsRow (pb + 1) 21 1 (.slice oh n ch) n ys :=
 zbF hl2 fun g hg => (g1s.block g (Nat.lt_of_lt_of_le (hl2.lt g hg).2 b1.size) (fun e => by
  rcases hne with h | h
  ·rw [h] at e; cases e
  ·exact h (by rw [hg]; exact e.symm))).trans (b1.block g (hl2.lt g hg).2)
theorem zae {w Wb w1 : World} {pb n : Nat} {ol : Option Addr} {cl : Nat} {xs : List Value} (hl1 : w.ownsRow (pb + 1) 21 1 (.slice ol n cl) n xs) (b1 : Below w.heap.size w Wb) (g1s : Wb.grownBy w1 (Value.slice ol n cl).ownBlock) {j : Nat} (hj : j < w.heap.size) (hp : j <= pb) : w1.heap[j]? = w.heap[j]? :=
 (g1s.block j (Nat.lt_of_lt_of_le hj b1.size) (fun e => by have := (hl1.lt j e.symm).1; omega)).trans (b1.block j hj)
theorem zb3 {Wb w1 : World} {B k n : Nat} {v : Value} {xs : List Value} {u : Value} {T : TypeId} (_hl1 : Wb.ownsRow B 21 1 v n xs) (g1s : Wb.grownBy w1 v.ownBlock) (hn : v.ownBlock ≠ some k) (hb : Wb.heap[k]? = some (.cells #[u] T (0, 0))) : ∀ (j : Nat) (x : Value), [u][j]? = some x -> w1.cell? ((⟨k, 0, none⟩ : Addr).add j) = some x := fun j x hj => by
 have e : w1.heap[k]? = some (.cells #[u] T (0, 0)) := (g1s.block k (Array.getElem?_eq_some_iff.1 hb).1 (fun e => hn e.symm)).trans hb
 match j, hj with
 | 0, hj => simp at hj; subst hj; simp [Addr.add, World.cell?, e]
 | j + 1, hj => simp at hj
theorem zbB {W : World} {k : Nat} {u : Value} {T : TypeId} (hb : W.heap[k]? = some (.cells #[u] T (0, 0))) : ∀ (j : Nat) (x : Value), [u][j]? = some x -> W.cell? ((⟨k, 0, none⟩ : Addr).add j) = some x := fun j x hj => by
 match j, hj with
 | 0, hj => simp at hj; subst hj; simp [Addr.add, World.cell?, hb]
 | j + 1, hj => simp at hj
theorem St.two {w0 w Wb w1 Wb2 w2 : World} {bp pb : Nat} {rs : List Int} {a : Nat} {b : Bool} {k n : Nat} {nt : Bool} {ol oh : Option Addr} {cl ch d1 d2 g1 g2 : Nat} {xs ys xs' ys' : List Value} (h : St w0 w bp pb rs a b k n nt)
 (h1 : w.heap[pb]? = some (.cells #[.int .i64 3, .int .i32 0, .slice ol n cl, .slice oh n ch, .bool nt, .int .i64 0, .int .i64 0, .int .i64 0, .bool false] 213 (0, 0)))
 (hl1 : w.ownsRow (pb + 1) 21 1 (.slice ol n cl) n xs) (hl2 : w.ownsRow (pb + 1) 21 1 (.slice oh n ch) n ys) (hne : (Value.slice ol n cl).ownBlock = none \/ (Value.slice ol n cl).ownBlock ≠ (Value.slice oh n ch).ownBlock)
 (b1 : Below w.heap.size w Wb) (g1s : Wb.grownBy w1 (Value.slice ol n cl).ownBlock) (r1 : w1.ownsRow (pb + 1) 21 1 (.slice (some ⟨g1, 0, none⟩) (n + 1) d1) (n + 1) xs') (at1 : (Value.slice ol n cl).ownBlock = some g1 \/ g1 = Wb.heap.size) (lt1 : g1 < w1.heap.size)
 (b2 : Below w1.heap.size w1 Wb2) (g2s : Wb2.grownBy w2 (Value.slice oh n ch).ownBlock) (r2 : w2.ownsRow (pb + 1) 21 1 (.slice (some ⟨g2, 0, none⟩) (n + 1) d2) (n + 1) ys') (at2 : (Value.slice oh n ch).ownBlock = some g2 \/ g2 = Wb2.heap.size) :
 St w0 ((w2.setCell ⟨pb, 2, none⟩ (.slice (some ⟨g1, 0, none⟩) (n + 1) d1)).setCell ⟨pb, 3, none⟩ (.slice (some ⟨g2, 0, none⟩) (n + 1) d2)) bp pb rs a b k (n + 1) nt := by
 have z1 := b1.size
 have z2 := g1s.size
 have z3 := b2.size
 have z4 := g2s.size
 have hg1 : (Value.slice oh n ch).ownBlock ≠ some g1 := fun e => by
  rcases at1 with h | h
  ·rcases hne with h2 | h2
   ·rw [h2] at h; cases h
   ·exact h2 (h.trans e.symm)
  ·have := (hl2.lt g1 e).2; omega
 refine h.more (W := w2) h1 hl1 hl2 (g2s.os.trans (b2.os.trans (g1s.os.trans b1.os))) (g2s.tape.trans (b2.tape.trans (g1s.tape.trans b1.tape))) (g2s.output.trans (b2.output.trans (g1s.output.trans b1.output))) (by omega) (fun j hj n1 n2 => ?_) xs' ys' ?_ r2 ?_
 ·exact (g2s.block j (by omega) (fun e => n2 e.symm)).trans ((b2.block j (by omega)).trans ((g1s.block j (by omega) (fun e => n1 e.symm)).trans (b1.block j hj)))
 ·exact zbF r1 fun g hg => by
   obtain rfl : g1 = g := Option.some.inj hg
   exact (g2s.block g1 (by omega) (fun e => hg1 e.symm)).trans (b2.block g1 lt1)
 ·refine .inr fun e => ?_
  obtain rfl : g1 = g2 := Option.some.inj e
  rcases at2 with h | h
  ·exact hg1 h
  ·omega
end Go.Proofs.YtbcemjhaecelnaaGreatDoor.Dpt
end
