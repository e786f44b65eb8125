/- The document's patterns read: a part. -/
import Derived.Test.YtmidpekkomhogaaDd
import Derived.StillTailTactics
namespace Go.Proofs.Ytmidpekkomhogaa.Dpt
open Go.RowKit Go.Lib
open Go.Proofs.Ytmidpekkomhogaa.Pat

def ClOK (bp : Nat) (rs : List Int) : Prop := ∀ (a k : Nat) (W : World), DP W bp rs a false k → k ≤ 20000 + 3 * a → a ≤ rs.length →
  Calls Try.prog 73 #[.pointer (some ⟨bp, 0, none⟩)] W (RdEnd W bp rs a k 0 1 (a + 1) (rs.length + 2) ((clR (rs.drop a)).map Prod.snd))
theorem left_par {rs : List Int} {g a a1 : Nat} {b1 : Bool} (h : LeftD rs ((chR g (rs.drop (a + 1)) []).map Prod.snd) b1 a1) (h40 : hd (rs.drop a) = 40) {b2 : Bool} (hb : b2 = true ↔ b1 = true ∨ hd (rs.drop a1) ≠ 41) : LeftD rs ((atR (g + 1) (rs.drop a)).map Prod.snd) b2 (a1 + 1) := by
  rw [atR, if_pos h40, ← drop_tail]
  cases hq : chR g (rs.drop (a + 1)) [] with
  | none =>
    rw [hq] at h
    exact hb.2 (.inl h)
  | some p =>
    obtain ⟨c, m⟩ := p
    rw [hq] at h
    obtain ⟨h1, h2, h3⟩ := h
    have h2 : rs.drop a1 = m := h2
    show LeftD rs ((if hd m = 41 then some (Pt.choice c, m.tail) else none).map Prod.snd) b2 (a1 + 1)
    by_cases h41 : hd m = 41
    · rw [if_pos h41]
      have hlt := hd_lt (rs := rs) (a := a1) (by rw [h2, h41]; decide)
      refine ⟨?_, by rw [drop_tail, h2], by omega⟩
      cases b2 with
      | false => rfl
      | true =>
        rcases hb.1 rfl with hc | hc
        · rw [h1] at hc; cases hc
        · exact absurd (by rw [h2]; exact h41) hc
    · rw [if_neg h41]
      exact hb.2 (.inr (by rw [h2]; exact h41))
theorem left_cl {rs : List Int} {g a a1 : Nat} {b1 : Bool} (h : LeftD rs ((clR (rs.drop (a + 1))).map Prod.snd) b1 a1) (h91 : hd (rs.drop a) = 91) : LeftD rs ((atR (g + 1) (rs.drop a)).map Prod.snd) b1 a1 := by
  rw [atR, if_neg (by rw [h91]; decide), if_pos h91, ← drop_tail]
  exact h
theorem left_dot {rs : List Int} {g a : Nat} (h46 : hd (rs.drop a) = 46) (ha : a < rs.length) : LeftD rs ((atR (g + 1) (rs.drop a)).map Prod.snd) false (a + 1) := by
  rw [atR, if_neg (by rw [h46]; decide), if_neg (by rw [h46]; decide), if_pos h46]
  exact ⟨rfl, drop_tail _ _, ha⟩
theorem left_li {rs : List Int} {g a : Nat} {b : Bool} {a1 : Nat} (h1 : hd (rs.drop a) ≠ 40) (h2 : hd (rs.drop a) ≠ 91) (h3 : hd (rs.drop a) ≠ 46) (h : LeftD rs ((liR (rs.drop a)).map Prod.snd) b a1) : LeftD rs ((atR (g + 1) (rs.drop a)).map Prod.snd) b a1 := by
  rw [atR, if_neg h1, if_neg h2, if_neg h3]
  exact h
theorem DP.drew {w : World} {bp : Nat} {rs : List Int} {a : Nat} {bad : Bool} {k : Nat} (h : DP w bp rs a bad k) : DP w.drew bp rs a bad k := h
theorem cons_at {rs : List Int} {a : Nat} {r : Int} (h : rs[a]? = some r) : rs.drop a = r :: rs.drop (a + 1) := by
  obtain ⟨hp, e⟩ := List.getElem?_eq_some_iff.1 h
  rw [List.drop_eq_getElem_cons hp, e]

set_option maxHeartbeats 8000000 in
set_option maxRecDepth 100000 in
theorem atom_ok (bp : Nat) (rs : List Int) (n : Nat) (hl : rs.length ≤ 1000) (hn : n ≤ 4000) (HG : ∀ m, m < n → EiOK bp rs m) (HC : ClOK bp rs) : AtOK bp rs n := by
  intro a k w h hk ha hf
  obtain ⟨g, rfl⟩ : ∃ g, n = g + 1 := ⟨n - 1, by omega⟩
  have HADD := Lib.hid (fun a' b' k' W (h : DP W bp rs a' b' k') (hk : k' ≤ 100000) => add_any bp rs a' b' k' W h hk)
  have HNX := Lib.hid (fun a' b' k' W (h : DP W bp rs a' b' k') (ha : a' ≤ 1000000) => next_any bp rs a' b' k' W h (by omega) ha)
  obtain ⟨r, hr⟩ : ∃ r, rs[a]? = some r := ⟨_, List.getElem?_eq_getElem ha⟩
  have HR := Lib.hid hr
  have hx := hd_some hr
  have HX := Lib.hid hx
  have HN1 := Lib.hid (HNX.out a false k w h (by omega))
  rw [hx] at HN1
  have HD := Lib.hid h
  have HEI := Lib.hid (HG g (by omega))
  have HCC := Lib.hid HC
  have HHK := Lib.hid (And.intro hk (And.intro hf ha))
  obtain ⟨L, hL⟩ : ∃ L, rs.length = L := ⟨_, rfl⟩
  have HL := Lib.hid hL
  rw [hL] at hl hf ha
  clear h HG HC hr hx hL
  go_enter Try.func62, Try.ntmps62
  go_wp2_with fail
  refine HN1.out.mono ?_
  rintro e w1 ⟨rfl, q1, hq1⟩
  have hd1 : DP w1 bp rs a false k := by rw [hq1]; exact HD.out
  have hb1 : Below bp w w1 := by rw [hq1]; exact ⟨rfl, rfl, rfl, Nat.le_refl _, fun _ _ => rfl⟩
  have HB1 := Lib.hid hb1
  have HD2 := Lib.hid (hd1.setAt (a + 1) ((a : Int) + 1) (by omega))
  have HB2 := Lib.hid (below_set hb1 (Nat.le_refl _) 3 (.int .i64 ((a : Int) + 1)))
  obtain ⟨vp, root, o, c, N, xs, h1, -⟩ := hd1
  obtain ⟨⟨c0, c1, c2, c3, c4⟩, f0, f1, f2, f3, f4⟩ := cells5 h1
  clear h1 hq1 hb1
  by_cases h40 : r = 40
  · subst h40
    have HE := Lib.hid (HEI.out (a + 1) k _ HD2.out (by omega) (by rw [HL.out]; omega) (by rw [HL.out]; omega))
    go_wp2_with fail
    refine HE.out.mono ?_
    rintro e w3 ⟨v3, a3, b3, k3, rfl, hd3, hb3, hlo3, htop3, hk3, hres3⟩
    have HE3 := Lib.hid (And.intro hlo3 (And.intro htop3 (And.intro hk3 hres3)))
    have HB3 := Lib.hid (HB2.out.trans hb3)
    have HD3 := Lib.hid hd3
    rw [HL.out] at htop3
    clear c0 c1 c2 c3 c4 f0 f1 f2 f3 f4 hb3 hlo3 hk3 hres3
    cases b3 with
    | true =>
      have HE4 := Lib.hid (And.intro ((hd3.setBad true).setAt (a3 + 1) ((a3 : Int) + 1) (by omega)) (below_set (below_set HB3.out (Nat.le_refl _) 4 (.bool true)) (Nat.le_refl _) 3 (.int .i64 ((a3 : Int) + 1))))
      obtain ⟨vp, root, o, c, N, xs, h1, -⟩ := hd3
      obtain ⟨⟨c0, c1, c2, c3, c4⟩, f0, f1, f2, f3, f4⟩ := cells5 h1
      clear h1
      go_wp2
      go_ret
      obtain ⟨E1, E2, E3, E4⟩ := HE3.out
      exact ⟨v3, a3 + 1, true, k3, rfl, HE4.out.1, HE4.out.2, by omega, by omega, by omega, left_par E4 HX.out (by simp)⟩
    | false =>
      obtain ⟨y, hy⟩ : ∃ y, hd (rs.drop a3) = y := ⟨_, rfl⟩
      have HY := Lib.hid hy
      have HN3 := Lib.hid (HNX.out a3 false k3 w3 hd3 (by omega))
      rw [hy] at HN3
      obtain ⟨vp, root, o, c, N, xs, h1, -⟩ := hd3
      obtain ⟨⟨c0, c1, c2, c3, c4⟩, -⟩ := cells5 h1
      clear h1 hy
      go_wp2_with fail
      refine HN3.out.mono ?_
      rintro e w4 ⟨rfl, q4, hq4⟩
      have hd4 : DP w4 bp rs a3 false k3 := by rw [hq4]; exact HD3.out
      have HB4 := Lib.hid (show Below bp w w4 by rw [hq4]; exact ⟨HB3.out.os, HB3.out.tape, HB3.out.output, HB3.out.size, HB3.out.block⟩)
      clear c0 c1 c2 c3 c4 hq4
      have HD4 := Lib.hid hd4
      obtain ⟨vp, root, o, c, N, xs, h1, -⟩ := hd4
      obtain ⟨⟨c0, c1, c2, c3, c4⟩, f0, f1, f2, f3, f4⟩ := cells5 h1
      clear h1
      by_cases h41 : y = 41
      · subst h41
        have HE4 := Lib.hid (And.intro ((HD4.out.setBad false).setAt (a3 + 1) ((a3 : Int) + 1) (by omega)) (below_set (below_set HB4.out (Nat.le_refl _) 4 (.bool false)) (Nat.le_refl _) 3 (.int .i64 ((a3 : Int) + 1))))
        go_wp2
        go_ret
        obtain ⟨E1, E2, E3, E4⟩ := HE3.out
        exact ⟨v3, a3 + 1, false, k3, rfl, HE4.out.1, HE4.out.2, by omega, by omega, by omega, left_par E4 HX.out (by rw [HY.out]; simp)⟩
      · have e41 : (y != 41) = true := by simp [h41]
        have HE4 := Lib.hid (And.intro ((HD4.out.setBad true).setAt (a3 + 1) ((a3 : Int) + 1) (by omega)) (below_set (below_set HB4.out (Nat.le_refl _) 4 (.bool true)) (Nat.le_refl _) 3 (.int .i64 ((a3 : Int) + 1))))
        have HY4 := Lib.hid h41
        go_wp2
        go_ret
        obtain ⟨E1, E2, E3, E4⟩ := HE3.out
        exact ⟨v3, a3 + 1, true, k3, rfl, HE4.out.1, HE4.out.2, by omega, by omega, by omega, left_par E4 HX.out (by rw [HY.out]; simp [HY4.out])⟩
  have e40 : (r == 40) = false := by simp [h40]
  by_cases h91 : r = 91
  · subst h91
    have HE := Lib.hid (HCC.out (a + 1) k _ HD2.out (by omega) (by rw [HL.out]; omega))
    go_wp2_with fail
    refine HE.out.mono ?_
    rintro e w3 ⟨v3, a3, b3, k3, rfl, hd3, hb3, hlo3, htop3, hk3, hres3⟩
    have HE3 := Lib.hid (And.intro hd3 (And.intro (HB2.out.trans hb3) (And.intro hlo3 (And.intro htop3 (And.intro hk3 hres3)))))
    clear hd3 hb3 hlo3 htop3 hk3 hres3 c0 c1 c2 c3 c4 f0 f1 f2 f3 f4
    go_wp2
    go_ret
    obtain ⟨E1, E2, E3, E4, E5, E6⟩ := HE3.out
    exact ⟨v3, a3, b3, k3, rfl, E1, E2, by omega, by omega, by omega, left_cl E6 HX.out⟩
  have e91 : (r == 91) = false := by simp [h91]
  by_cases h46 : r = 46
  · subst h46
    have HA := Lib.hid (HADD.out (a + 1) false k _ HD2.out (by omega))
    go_wp2_with fail
    refine (HA.out _ _ _ _ _ _ _ _ _ _ _ _ _).mono ?_
    rintro e w4 ⟨⟨z4, rfl⟩, hd4, hb4⟩
    have H4 := Lib.hid (And.intro hd4 (HB2.out.trans hb4))
    clear hd4 hb4 c0 c1 c2 c3 c4 f0 f1 f2 f3 f4
    go_wp2
    go_ret
    exact ⟨z4, a + 1, false, k + 1, rfl, H4.out.1, H4.out.2, by omega, by rw [HL.out]; omega, by omega, left_dot HX.out (by rw [HL.out]; exact ha)⟩
  have e46 : (r == 46) = false := by simp [h46]
  have HLI := Lib.hid (fun (b : Bool) (a1 : Nat) (h : LeftD rs ((liR (rs.drop a)).map Prod.snd) b a1) => left_li (g := g) (by rw [HX.out]; exact h40) (by rw [HX.out]; exact h91) (by rw [HX.out]; exact h46) h)
  by_cases h92 : r = 92
  · subst h92
    have HN2 := Lib.hid (HNX.out (a + 1) false k _ HD2.out (by omega))
    obtain ⟨y, hy⟩ : ∃ y, hd (rs.drop (a + 1)) = y := ⟨_, rfl⟩
    rw [hy] at HN2
    have HY := Lib.hid hy
    clear hy
    go_wp2_with fail
    refine HN2.out.mono ?_
    rintro e w3 ⟨rfl, q3, hq3⟩
    have hd3 : DP w3 bp rs (a + 1) false k := by rw [hq3]; exact HD2.out
    have HB3 := Lib.hid (show Below bp w w3 by rw [hq3]; exact ⟨HB2.out.os, HB2.out.tape, HB2.out.output, HB2.out.size, HB2.out.block⟩)
    clear c0 c1 c2 c3 c4 f0 f1 f2 f3 f4 hq3
    have HD3 := Lib.hid hd3
    obtain ⟨vp, root, o, c, N, xs, h1, -⟩ := hd3
    rw [HL.out] at h1
    obtain ⟨⟨c0, c1, c2, c3, c4⟩, f0, f1, f2, f3, f4⟩ := cells5 h1
    have c3' : w3.cell? ⟨bp, 3, none⟩ = some (.int .i64 ((a : Int) + 1)) := by rw [c3]; simp
    clear h1 c3
    by_cases hlt : a + 1 < L
    · have j1 : ¬ ((a : Int) + 1) ≥ L := by omega
      have j2 : ¬ (L : Int) ≤ (a : Int) + 1 := by omega
      have HE4 := Lib.hid (And.intro ((HD3.out.setBad (decide ((L : Int) ≤ (a : Int) + 1))).setAt (a + 2) ((a : Int) + 1 + 1) (by omega)) (below_set (below_set HB3.out (Nat.le_refl _) 4 (.bool (decide ((L : Int) ≤ (a : Int) + 1)))) (Nat.le_refl _) 3 (.int .i64 ((a : Int) + 1 + 1))))
      have HA := Lib.hid (HADD.out (a + 2) (decide ((L : Int) ≤ (a : Int) + 1)) k _ HE4.out.1.drew (by omega))
      go_wp2_with fail
      go_still_tail 19, (by kernel_rfl)
      change wpList _ _ _ _ _ w3.drew
      go_wp2_with fail
      refine (HA.out _ _ _ _ _ _ _ _ _ _ _ _ _).mono ?_
      rintro e w4 ⟨⟨z4, rfl⟩, hd4, hb4⟩
      have H4 := Lib.hid (And.intro hd4 (HE4.out.2.drew.trans hb4))
      clear hd4 hb4 c0 c1 c2 c3' c4 f0 f1 f2 f3 f4
      go_wp2
      go_ret
      refine ⟨z4, a + 2, _, k + 1, rfl, H4.out.1, H4.out.2, by omega, by rw [HL.out]; omega, by omega, HLI.out _ _ ?_⟩
      obtain ⟨y2, hy2⟩ : ∃ y, rs[a + 1]? = some y := ⟨_, List.getElem?_eq_getElem (by rw [HL.out]; exact hlt)⟩
      rw [cons_at HR.out, cons_at hy2]
      exact ⟨decide_eq_false (by omega), rfl, by rw [HL.out]; omega⟩
    · have j1 : ((a : Int) + 1) ≥ L := by omega
      have j2 : (L : Int) ≤ (a : Int) + 1 := by omega
      have HE4 := Lib.hid (And.intro ((HD3.out.setBad true).setAt (a + 2) ((a : Int) + 1 + 1) (by omega)) (below_set (below_set HB3.out (Nat.le_refl _) 4 (.bool true)) (Nat.le_refl _) 3 (.int .i64 ((a : Int) + 1 + 1))))
      have HA := Lib.hid (HADD.out (a + 2) true k _ HE4.out.1.drew (by omega))
      go_wp2_with fail
      go_still_tail 19, (by kernel_rfl)
      change wpList _ _ _ _ _ w3.drew
      go_wp2_with fail
      refine (HA.out _ _ _ _ _ _ _ _ _ _ _ _ _).mono ?_
      rintro e w4 ⟨⟨z4, rfl⟩, hd4, hb4⟩
      have H4 := Lib.hid (And.intro hd4 (HE4.out.2.drew.trans hb4))
      clear hd4 hb4 c0 c1 c2 c3' c4 f0 f1 f2 f3 f4
      go_wp2
      go_ret
      refine ⟨z4, a + 2, true, k + 1, rfl, H4.out.1, H4.out.2, by omega, by rw [HL.out]; omega, by omega, HLI.out _ _ ?_⟩
      rw [cons_at HR.out, List.drop_eq_nil_of_le (by rw [HL.out]; omega)]
      exact rfl
  have e92 : (r == 92) = false := by simp [h92]
  by_cases h42 : r = 42
  · subst h42
    have HE4 := Lib.hid (And.intro (HD2.out.setBad true) (below_set HB2.out (Nat.le_refl _) 4 (.bool true)))
    have HA := Lib.hid (HADD.out (a + 1) true k _ HE4.out.1 (by omega))
    go_wp2_with fail
    refine (HA.out _ _ _ _ _ _ _ _ _ _ _ _ _).mono ?_
    rintro e w4 ⟨⟨z4, rfl⟩, hd4, hb4⟩
    have H4 := Lib.hid (And.intro hd4 (HE4.out.2.trans hb4))
    clear hd4 hb4 c0 c1 c2 c3 c4 f0 f1 f2 f3 f4
    go_wp2
    go_ret
    refine ⟨z4, a + 1, true, k + 1, rfl, H4.out.1, H4.out.2, by omega, by rw [HL.out]; omega, by omega, HLI.out _ _ ?_⟩
    rw [cons_at HR.out]
    exact rfl
  by_cases h43 : r = 43
  · subst h43
    have HE4 := Lib.hid (And.intro (HD2.out.setBad true) (below_set HB2.out (Nat.le_refl _) 4 (.bool true)))
    have HA := Lib.hid (HADD.out (a + 1) true k _ HE4.out.1 (by omega))
    go_wp2_with fail
    refine (HA.out _ _ _ _ _ _ _ _ _ _ _ _ _).mono ?_
    rintro e w4 ⟨⟨z4, rfl⟩, hd4, hb4⟩
    have H4 := Lib.hid (And.intro hd4 (HE4.out.2.trans hb4))
    clear hd4 hb4 c0 c1 c2 c3 c4 f0 f1 f2 f3 f4
    go_wp2
    go_ret
    refine ⟨z4, a + 1, true, k + 1, rfl, H4.out.1, H4.out.2, by omega, by rw [HL.out]; omega, by omega, HLI.out _ _ ?_⟩
    rw [cons_at HR.out]
    exact rfl
  by_cases h63 : r = 63
  · subst h63
    have HE4 := Lib.hid (And.intro (HD2.out.setBad true) (below_set HB2.out (Nat.le_refl _) 4 (.bool true)))
    have HA := Lib.hid (HADD.out (a + 1) true k _ HE4.out.1 (by omega))
    go_wp2_with fail
    refine (HA.out _ _ _ _ _ _ _ _ _ _ _ _ _).mono ?_
    rintro e w4 ⟨⟨z4, rfl⟩, hd4, hb4⟩
    have H4 := Lib.hid (And.intro hd4 (HE4.out.2.trans hb4))
    clear hd4 hb4 c0 c1 c2 c3 c4 f0 f1 f2 f3 f4
    go_wp2
    go_ret
    refine ⟨z4, a + 1, true, k + 1, rfl, H4.out.1, H4.out.2, by omega, by rw [HL.out]; omega, by omega, HLI.out _ _ ?_⟩
    rw [cons_at HR.out]
    exact rfl
  by_cases h93 : r = 93
  · subst h93
    have HE4 := Lib.hid (And.intro (HD2.out.setBad true) (below_set HB2.out (Nat.le_refl _) 4 (.bool true)))
    have HA := Lib.hid (HADD.out (a + 1) true k _ HE4.out.1 (by omega))
    go_wp2_with fail
    refine (HA.out _ _ _ _ _ _ _ _ _ _ _ _ _).mono ?_
    rintro e w4 ⟨⟨z4, rfl⟩, hd4, hb4⟩
    have H4 := Lib.hid (And.intro hd4 (HE4.out.2.trans hb4))
    clear hd4 hb4 c0 c1 c2 c3 c4 f0 f1 f2 f3 f4
    go_wp2
    go_ret
    refine ⟨z4, a + 1, true, k + 1, rfl, H4.out.1, H4.out.2, by omega, by rw [HL.out]; omega, by omega, HLI.out _ _ ?_⟩
    rw [cons_at HR.out]
    exact rfl
  have e42 : (r == 42) = false := by simp [h42]
  have e43 : (r == 43) = false := by simp [h43]
  have e63 : (r == 63) = false := by simp [h63]
  have e93 : (r == 93) = false := by simp [h93]
  have HLF := Lib.hid (show liR (rs.drop a) = some (.only r, rs.drop (a + 1)) by rw [cons_at HR.out]; unfold liR; dsimp only; rw [if_neg h92, if_neg (by simp [h42, h43, h63, h93])])
  have HA := Lib.hid (HADD.out (a + 1) false k _ HD2.out (by omega))
  go_wp2_with fail
  refine (HA.out _ _ _ _ _ _ _ _ _ _ _ _ _).mono ?_
  rintro e w4 ⟨⟨z4, rfl⟩, hd4, hb4⟩
  have H4 := Lib.hid (And.intro hd4 (HB2.out.trans hb4))
  clear hd4 hb4 c0 c1 c2 c3 c4 f0 f1 f2 f3 f4
  go_wp2
  go_ret
  refine ⟨z4, a + 1, false, k + 1, rfl, H4.out.1, H4.out.2, by omega, by rw [HL.out]; omega, by omega, HLI.out _ _ ?_⟩
  rw [HLF.out]
  exact ⟨rfl, rfl, by rw [HL.out]; omega⟩
end Go.Proofs.Ytmidpekkomhogaa.Dpt
