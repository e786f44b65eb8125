/- The law on every function of points. -/
import Derived.Test.YthbameabfmoibaaVm
namespace Go.Proofs.Ythbameabfmoibaa.Win
open Go.RowKit Go.Lib

set_option maxHeartbeats 4000000 in
set_option maxRecDepth 100000 in
theorem each_none (o : Option Addr) (cap : Nat) (xs : List Pt) (w : World) (hm : xs.length ≤ maxLen) (hS : Pnt.SeesO w o xs) (hb : ¬ (2 ≤ xs.length ∧ pointsB xs = true)) :
    Calls Try.prog 3 #[.slice o xs.length cap] w fun e w' => e = .returned (.bool true) ∧ Below w.heap.size w w' := by
  have HP := Lib.hid (rpoints_any o cap xs w hm hS)
  have HAL := Lib.hid (fun W => alive_any W)
  by_cases h2 : 2 ≤ xs.length
  · have hp : pointsB xs = false := by
      cases hp : pointsB xs with
      | false => rfl
      | true => exact absurd ⟨h2, hp⟩ hb
    rw [hp] at HP
    generalize xs.length = n at HP hm h2 ⊢
    unfold maxLen at hm
    have j1 : ¬ ((n : Int) < 2) := by omega
    clear hS hb hp
    by_cases h25 : 25 < n
    · have j2 : (25 : Int) < n := by omega
      clear HP
      go_enter Try.func3, Try.ntmps3
      go_wp2_with fail
      refine (HAL.out _).mono ?_
      rintro e w2 ⟨rfl, b2⟩
      have HB2 := Lib.hid b2
      clear b2
      go_wp2
      go_ret
      exact ⟨rfl, HB2.out⟩
    · have j2 : ¬ (25 : Int) < n := by omega
      go_enter Try.func3, Try.ntmps3
      go_wp2_with fail
      refine HP.out.mono ?_
      rintro e w1 ⟨rfl, b1⟩
      go_wp2_with fail
      refine (HAL.out _).mono ?_
      rintro e w2 ⟨rfl, b2⟩
      have HB2 := Lib.hid (b1.trans (b2.mono b1.size))
      clear b1 b2
      go_wp2
      go_ret
      exact ⟨rfl, HB2.out⟩
  · generalize xs.length = n at hm h2 ⊢
    unfold maxLen at hm
    have j1 : (n : Int) < 2 := by omega
    clear hS hb HP
    go_enter Try.func3, Try.ntmps3
    go_wp2_with fail
    refine (HAL.out _).mono ?_
    rintro e w2 ⟨rfl, b2⟩
    have HB2 := Lib.hid b2
    clear b2
    go_wp2
    go_ret
    exact ⟨rfl, HB2.out⟩

/-- So many of the numbers are small. -/
def SmallTo (xs : List Pt) (k : Nat) : Prop := ∀ (i : Nat) (x : Pt), i < k → xs[i]? = some x → -1000000000 ≤ x.2 ∧ x.2 ≤ 1000000000
theorem small_next {xs : List Pt} {k : Nat} {x : Pt} (h : SmallTo xs k) (hx : xs[k]? = some x) (h1 : -1000000000 ≤ x.2) (h2 : x.2 ≤ 1000000000) : SmallTo xs (k + 1) := by
  intro i z hi hz
  by_cases hik : i < k
  · exact h i z hik hz
  · obtain rfl : i = k := by omega
    rw [hx] at hz; cases hz; exact ⟨h1, h2⟩
theorem small_all {xs : List Pt} {k : Nat} (h : SmallTo xs k) (hk : xs.length ≤ k) : ∀ x ∈ numsF xs, -1000000000 ≤ x ∧ x ≤ 1000000000 := by
  intro v hv
  obtain ⟨x, hx, rfl⟩ := List.mem_map.1 hv
  obtain ⟨i, hi, rfl⟩ := List.mem_iff_getElem.1 hx
  exact h i _ (by omega) (List.getElem?_eq_getElem hi)
/-- What the functions answer of small numbers, and how the answers lie. -/
structure Each (xs : List Pt) (n : Int) (s md lo hi v g d : Int) : Prop where
  h0 : overF 0 xs = (s, true, 0)
  h1 : overF 1 xs = (lo, true, 0)
  h2 : overF 2 xs = (hi, true, 0)
  h3 : overF 3 xs = (n, true, 0)
  h4 : overF 4 xs = (md, true, 0)
  h5 : overF 5 xs = (v, true, 0)
  h6 : overF 6 xs = (g, true, 0)
  h7 : overF 7 xs = if valP (g * 1000) then ((g * 1000).tdiv d, true, 0) else (0, false, 4)
  q : s.tdiv n = md
  a1 : lo ≤ md
  a2 : md ≤ hi
  a3 : lo ≤ v
  a4 : v ≤ hi
  b1 : -1000000000 ≤ lo
  b2 : hi ≤ 1000000000
  s1 : -25000000000 ≤ s
  s2 : s ≤ 25000000000
  g1 : -25000000000 ≤ g
  g2 : g ≤ 50000000000
theorem each_of {xs : List Pt} {p : Nat} {x y : Pt} (hn : xs.length = p + 1 + 1) (hp : pointsB xs = true) (hs : ∀ v ∈ numsF xs, -1000000000 ≤ v ∧ v ≤ 1000000000) (hx : xs[0]? = some x) (hy : xs[p + 1]? = some y) :
    ∃ s md lo hi g, Each xs ((p + 1 + 1 : Nat) : Int) s md lo hi y.2 g (y.1 - x.1) := by
  obtain ⟨h0, h1, h2, h3, h4, h5, h6, h7⟩ := over_small hp (by omega) hs
  have h25 := ((points_iff xs).1 hp).1
  have hne : numsF xs ≠ [] := fun e => by have := nums_len xs; rw [e] at this; simp at this; omega
  have hl : ((numsF xs).getLast?).getD 0 = y.2 := by
    rw [List.getLast?_eq_getElem?, nums_len, hn, show p + 1 + 1 - 1 = p + 1 from rfl, nums_at hy]; rfl
  have hym : y.2 ∈ numsF xs := List.mem_map.2 ⟨y, List.mem_of_getElem? hy, rfl⟩
  rw [last_at hn hy, first_at hx] at h7
  rw [hl] at h5
  rw [hn] at h3 h4
  have hb := sum_between (minL (numsF xs)) (maxL (numsF xs)) (numsF xs) (fun v hv => ⟨min_le v hv, le_max v hv⟩)
  rw [nums_len, hn] at hb
  have hm := mean_between (n := p + 1 + 1) (by omega) hb.1 hb.2
  have hsb := sum_between (-1000000000) 1000000000 (numsF xs) hs
  rw [nums_len, hn] at hsb
  have hst := steps_bound (-1000000000) 1000000000 (by omega) (by omega) (numsF xs) hs
  have hsl := steps_len (numsF xs)
  have hgs := sum_between (-1000000000) 2000000000 (stepsF (numsF xs)) (fun d hd => by have := hst d hd; omega)
  rw [hsl, nums_len, hn, ← grown_sum] at hgs
  refine ⟨_, _, _, _, _, ⟨h0, h1, h2, h3, h4, h5, h6, h7, rfl, hm.1, hm.2, min_le _ hym, le_max _ hym, ?_, ?_, ?_, ?_, ?_, ?_⟩⟩
  · exact (hs _ (min_mem hne)).1
  · exact (hs _ (max_mem hne)).2
  all_goals omega

set_option maxHeartbeats 8000000 in
set_option maxRecDepth 100000 in
theorem weach_any (o : Option Addr) (cap : Nat) (xs : List Pt) (w : World) (hm : xs.length ≤ maxLen) (hS : Pnt.SeesO w o xs) :
    Calls Try.prog 3 #[.slice o xs.length cap] w fun e w' => e = .returned (.bool true) ∧ Below w.heap.size w w' := by
  by_cases hb : 2 ≤ xs.length ∧ pointsB xs = true
  case neg => exact each_none o cap xs w hm hS hb
  obtain ⟨h2, hp⟩ := hb
  obtain ⟨p, hn⟩ : ∃ p, xs.length = p + 1 + 1 := ⟨xs.length - 2, by omega⟩
  have h25 : p + 1 + 1 ≤ 25 := by rw [← hn]; exact ((points_iff xs).1 hp).1
  have HP := Lib.hid (rpoints_any o cap xs w hm hS)
  rw [hp] at HP
  have HAL := Lib.hid (fun W => alive_any W)
  have HN := Lib.hid hn
  have HSO := Lib.hid hS
  have HPT := Lib.hid hp
  obtain ⟨x, hx⟩ := Pnt.get_lt hn (show 0 < p + 1 + 1 by omega)
  obtain ⟨y, hy⟩ := Pnt.get_lt hn (show p + 1 < p + 1 + 1 by omega)
  have hxt := (((points_iff xs).1 hp).2.2 x (List.mem_of_getElem? hx)).1
  have hyt := (((points_iff xs).1 hp).2.2 y (List.mem_of_getElem? hy)).1
  have hlt : x.1 < y.1 := by
    obtain ⟨hx0, ex⟩ := List.getElem?_eq_some_iff.1 hx
    obtain ⟨hy0, ey⟩ := List.getElem?_eq_some_iff.1 hy
    have := List.pairwise_iff_getElem.1 ((points_iff xs).1 hp).2.1 0 (p + 1) hx0 hy0 (by omega)
    rw [ex, ey] at this; exact this
  obtain ⟨x1, x2⟩ := hxt
  obtain ⟨y1, y2⟩ := hyt
  have HX := Lib.hid hx
  have HY := Lib.hid hy
  rw [hn] at HP ⊢
  clear hS hp hm hn h2 hx hy
  have j0 : ¬ (((p + 1 + 1 : Nat) : Int) < 2) := by omega
  have j01 : ¬ ((25 : Int) < ((p + 1 + 1 : Nat) : Int)) := by omega
  have j25 : (p : Int) ≤ 23 := by omega
  go_enter Try.func3, Try.ntmps3
  go_wp2_with fail
  refine HP.out.mono ?_
  rintro e w1 ⟨rfl, b1⟩
  have HB1 := Lib.hid b1
  clear b1
  go_wp2_with fail
  refine (HAL.out _).mono ?_
  rintro e w2 ⟨rfl, b2⟩
  have HB2 := Lib.hid (HB1.out.trans (b2.mono HB1.out.size))
  clear b2 HB1
  have HS2 := Lib.hid (HSO.out.below HB2.out)
  go_wp2
  go_loop [3] (fun v3 => ∃ k : Nat, v3 = .int .i64 k ∧ k ≤ p + 1 + 1 ∧ Hid (SmallTo xs k)) (fun v3 => p + 1 + 1 - (intOf v3).toNat)
  case atStart => exact ⟨0, rfl, Nat.zero_le _, fun i z hi => by omega⟩
  case round =>
    obtain ⟨k, rfl, hk, H⟩ := hrel
    by_cases hkn : k < p + 1 + 1
    · have j1 : (k : Int) < ((p + 1 + 1 : Nat) : Int) := by omega
      obtain ⟨z, hz⟩ := Pnt.get_lt HN.out hkn
      obtain ⟨b, off, rfl, hS⟩ := HS2.out.at hz
      have c1 := hS.at1 k z hz
      have HZ := Lib.hid hz
      clear hS hz
      by_cases e1 : 1000000000 < z.2
      · go_wp2
        go_ret
        exact ⟨rfl, HB2.out⟩
      by_cases e2 : z.2 < -1000000000
      · go_wp2
        go_ret
        exact ⟨rfl, HB2.out⟩
      have H2 := Lib.hid (small_next H.out HZ.out (by omega) (by omega))
      go_wp2
      go_round
      case rel => exact ⟨k + 1, by go_num, by omega, H2⟩
      case measure => simp [intOf]; omega
    · have j1 : ¬ ((k : Int) < ((p + 1 + 1 : Nat) : Int)) := by omega
      obtain ⟨s, md, lo, hi, g, HE⟩ := each_of HN.out HPT.out (small_all H.out (by rw [HN.out]; omega)) HX.out HY.out
      have hm25 : p + 1 + 1 ≤ maxLen := by unfold maxLen; omega
      have H0 := Lib.hid (wdo_at (k := 0) (by omega) HE.h0 HN.out hm25 HS2.out cap)
      have H1 := Lib.hid (wdo_at (k := 1) (by omega) HE.h1 HN.out hm25 HS2.out cap)
      have H2 := Lib.hid (wdo_at (k := 2) (by omega) HE.h2 HN.out hm25 HS2.out cap)
      have H3 := Lib.hid (wdo_at (k := 3) (by omega) HE.h3 HN.out hm25 HS2.out cap)
      have H4 := Lib.hid (wdo_at (k := 4) (by omega) HE.h4 HN.out hm25 HS2.out cap)
      have H5 := Lib.hid (wdo_at (k := 5) (by omega) HE.h5 HN.out hm25 HS2.out cap)
      have H6 := Lib.hid (wdo_at (k := 6) (by omega) HE.h6 HN.out hm25 HS2.out cap)
      have HC := Lib.hid (fun W (h : Below w2.heap.size w2 W) => HS2.out.below h)
      obtain ⟨_, _, _, _, _, _, _, h7, hq, a1, a2, a3, a4, b1, b2, s1, s2, g1, g2⟩ := HE
      rw [show ((p + 1 + 1 : Nat) : Int) = (p : Int) + 1 + 1 by omega] at hq
      by_cases hv : valP (g * 1000)
      · rw [if_pos hv] at h7
        obtain ⟨rd, hrd⟩ : ∃ rd, (g * 1000).tdiv (y.1 - x.1) = rd := ⟨_, rfl⟩
        rw [hrd] at h7
        have r1 : -1000000000000 ≤ rd := by have := Int.natAbs_tdiv_le_natAbs (g * 1000) (y.1 - x.1); have := hv.1; have := hv.2; omega
        have r2 : rd ≤ 1000000000000 := by have := Int.natAbs_tdiv_le_natAbs (g * 1000) (y.1 - x.1); have := hv.1; have := hv.2; omega
        have m1 : -1000000000 ≤ md := by omega
        have m2 : md ≤ 1000000000 := by omega
        have H7 := Lib.hid (wdo_at (k := 7) (by omega) h7 HN.out hm25 HS2.out cap)
        obtain ⟨v1, v2⟩ := hv
        clear h7 hm25 H
        go_wp2_with fail
        refine (H0.out _ (Below.refl _ _)).mono ?_
        rintro e u0 ⟨rfl, bb⟩
        have HU0 := Lib.hid bb
        clear bb
        go_wp2_with fail
        refine (H4.out _ HU0.out).mono ?_
        rintro e u1 ⟨rfl, bb⟩
        have HU1 := Lib.hid (HU0.out.trans (bb.mono HU0.out.size))
        clear bb
        go_wp2_with fail
        refine (H1.out _ HU1.out).mono ?_
        rintro e u2 ⟨rfl, bb⟩
        have HU2 := Lib.hid (HU1.out.trans (bb.mono HU1.out.size))
        clear bb
        go_wp2_with fail
        refine (H2.out _ HU2.out).mono ?_
        rintro e u3 ⟨rfl, bb⟩
        have HU3 := Lib.hid (HU2.out.trans (bb.mono HU2.out.size))
        clear bb
        go_wp2_with fail
        refine (H3.out _ HU3.out).mono ?_
        rintro e u4 ⟨rfl, bb⟩
        have HU4 := Lib.hid (HU3.out.trans (bb.mono HU3.out.size))
        clear bb
        go_wp2_with fail
        refine (H5.out _ HU4.out).mono ?_
        rintro e u5 ⟨rfl, bb⟩
        have HU5 := Lib.hid (HU4.out.trans (bb.mono HU4.out.size))
        clear bb
        go_wp2_with fail
        refine (H6.out _ HU5.out).mono ?_
        rintro e u6 ⟨rfl, bb⟩
        have HU6 := Lib.hid (HU5.out.trans (bb.mono HU5.out.size))
        clear bb
        go_wp2_with fail
        refine (H7.out _ HU6.out).mono ?_
        rintro e u7 ⟨rfl, bb⟩
        have HU7 := Lib.hid (HU6.out.trans (bb.mono HU6.out.size))
        clear bb
        obtain ⟨b, off, rfl, hS⟩ := (HC.out _ HU7.out).at HX.out
        have d1 := hS.at0 (p + 1) y HY.out
        have d0 : u7.cell? ⟨b, off, none⟩ = some (.int .i64 x.1) := by simpa using hS.at0 0 x HX.out
        clear hS
        go_wp2_with fail
        go_quiet (fail)
        have HBq := Lib.hid (quiet_below (HB2.out.trans (HU7.out.mono HB2.out.size)) nq)
        go_wp2
        go_ret
        exact ⟨by simp, HBq.out⟩
      · rw [if_neg hv] at h7
        have H7 := Lib.hid (wdo_at (k := 7) (by omega) h7 HN.out hm25 HS2.out cap)
        have hgg : 1000000000 < g ∨ g < -1000000000 := by
          by_cases h : 1000000000 < g
          · exact .inl h
          · by_cases h' : g < -1000000000
            · exact .inr h'
            · exact absurd (show valP (g * 1000) from ⟨by omega, by omega⟩) hv
        have m1 : -1000000000 ≤ md := by omega
        have m2 : md ≤ 1000000000 := by omega
        clear h7 hm25 H hv
        rcases hgg with hgg | hgg
        all_goals
          go_wp2_with fail
          refine (H0.out _ (Below.refl _ _)).mono ?_
          rintro e u0 ⟨rfl, bb⟩
          have HU0 := Lib.hid bb
          clear bb
          go_wp2_with fail
          refine (H4.out _ HU0.out).mono ?_
          rintro e u1 ⟨rfl, bb⟩
          have HU1 := Lib.hid (HU0.out.trans (bb.mono HU0.out.size))
          clear bb
          go_wp2_with fail
          refine (H1.out _ HU1.out).mono ?_
          rintro e u2 ⟨rfl, bb⟩
          have HU2 := Lib.hid (HU1.out.trans (bb.mono HU1.out.size))
          clear bb
          go_wp2_with fail
          refine (H2.out _ HU2.out).mono ?_
          rintro e u3 ⟨rfl, bb⟩
          have HU3 := Lib.hid (HU2.out.trans (bb.mono HU2.out.size))
          clear bb
          go_wp2_with fail
          refine (H3.out _ HU3.out).mono ?_
          rintro e u4 ⟨rfl, bb⟩
          have HU4 := Lib.hid (HU3.out.trans (bb.mono HU3.out.size))
          clear bb
          go_wp2_with fail
          refine (H5.out _ HU4.out).mono ?_
          rintro e u5 ⟨rfl, bb⟩
          have HU5 := Lib.hid (HU4.out.trans (bb.mono HU4.out.size))
          clear bb
          go_wp2_with fail
          refine (H6.out _ HU5.out).mono ?_
          rintro e u6 ⟨rfl, bb⟩
          have HU6 := Lib.hid (HU5.out.trans (bb.mono HU5.out.size))
          clear bb
          go_wp2_with fail
          refine (H7.out _ HU6.out).mono ?_
          rintro e u7 ⟨rfl, bb⟩
          have HU7 := Lib.hid (HU6.out.trans (bb.mono HU6.out.size))
          clear bb
          obtain ⟨b, off, rfl, hS⟩ := (HC.out _ HU7.out).at HX.out
          have d1 := hS.at0 (p + 1) y HY.out
          have d0 : u7.cell? ⟨b, off, none⟩ = some (.int .i64 x.1) := by simpa using hS.at0 0 x HX.out
          clear hS
          go_wp2_with fail
          go_quiet (fail)
          have HBq := Lib.hid (quiet_below (HB2.out.trans (HU7.out.mono HB2.out.size)) nq)
          go_wp2
          go_ret
          exact ⟨by simp, HBq.out⟩
end Go.Proofs.Ythbameabfmoibaa.Win
