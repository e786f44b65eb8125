/- The law on numbers that never fall. -/
import Derived.Test.YthbameabfmoibaaVb
import Derived.Test.YthbameabfmoibaaVh
namespace Go.Proofs.Ythbameabfmoibaa.Win
open Go.RowKit Go.Lib

theorem points_sub {l s : List Pt} (h : pointsB l = true) (hs : s.Sublist l) : pointsB s = true := by
  obtain ⟨h1, h2, h3⟩ := (points_iff l).1 h
  exact (points_iff s).2 ⟨Nat.le_trans hs.length_le h1, h2.sublist hs, fun x hx => h3 x (hs.subset hx)⟩
/-- Numbers of points that are small, and never fall. -/
def RisesN (l : List Pt) : Prop := (∀ x ∈ l, 0 ≤ x.2 ∧ x.2 ≤ 1000000000) ∧ l.Pairwise (fun a b => a.2 ≤ b.2)
theorem rises_sub {l s : List Pt} (h : RisesN l) (hs : s.Sublist l) : RisesN s := ⟨fun x hx => h.1 x (hs.subset hx), h.2.sublist hs⟩
theorem rises_nums {l : List Pt} (h : RisesN l) : (numsF l).Pairwise (fun x y => x ≤ y) := List.pairwise_map.2 h.2
/-- What is told of numbers that never fall. -/
theorem inc_rise {l : List Pt} {x y : Pt} (hp : pointsB l = true) (hr : RisesN l) (hx : l[0]? = some x) (hy : l.getLast? = some y) : overF 6 l = (y.2 - x.2, decide (2 ≤ l.length), 0) := by
  cases l with
  | nil => simp at hx
  | cons z zs =>
    simp at hx; subst hx
    have hg : grownF (numsF (z :: zs)) = y.2 - z.2 := by
      have h1 := grown_rise (numsF zs) z.2 (rises_nums hr)
      show grownF (z.2 :: numsF zs) = _
      rw [h1]
      have h2 : (z.2 :: numsF zs).getLast? = some y.2 := by
        show (numsF (z :: zs)).getLast? = some y.2
        unfold numsF
        rw [List.getLast?_map, hy]; rfl
      have h3 := List.getLast?_eq_some_getLast (l := z.2 :: numsF zs) (by simp)
      rw [h2] at h3
      rw [← Option.some.inj h3]
    by_cases h2 : 2 ≤ (z :: zs).length
    · have := (over_small hp h2 (fun v hv => by
        obtain ⟨q, hq, rfl⟩ := List.mem_map.1 hv
        have := hr.1 q hq; omega)).2.2.2.2.2.2.1
      rw [this, hg, decide_eq_true h2]
    · have e : zs = [] := by
        cases zs with
        | nil => rfl
        | cons a b => simp at h2
      subst e
      simp at hy; subst hy
      rw [(over_one hp).2.2.2.2.2.2.1, Int.sub_self, decide_eq_false h2]
/-- So many of the points are as they should be. -/
def UpTo (xs : List Pt) (k : Nat) : Prop := (∀ (i : Nat) (x : Pt), i < k → xs[i]? = some x → 0 ≤ x.2 ∧ x.2 ≤ 1000000000) ∧ ∀ (i j : Nat) (x y : Pt), i < j → j < k → xs[i]? = some x → xs[j]? = some y → x.2 ≤ y.2
theorem upto_zero (xs : List Pt) : UpTo xs 0 := ⟨fun i x h => by omega, fun i j x y _ h => by omega⟩
theorem upto_first {xs : List Pt} {x : Pt} (hx : xs[0]? = some x) (h1 : 0 ≤ x.2) (h2 : x.2 ≤ 1000000000) : UpTo xs (0 + 1) := by
  refine ⟨fun i z hi hz => ?_, fun i j a b h1 h2 => by omega⟩
  obtain rfl : i = 0 := by omega
  rw [hx] at hz; cases hz; exact ⟨h1, h2⟩
theorem upto_next {xs : List Pt} {m : Nat} {x y : Pt} (hu : UpTo xs (m + 1)) (hy : xs[m]? = some y) (hx : xs[m + 1]? = some x) (h1 : 0 ≤ x.2) (h2 : x.2 ≤ 1000000000) (hs : y.2 ≤ x.2) : UpTo xs (m + 1 + 1) := by
  refine ⟨fun i z hi hz => ?_, fun i j a b hij hj ha hb => ?_⟩
  · by_cases h : i < m + 1
    · exact hu.1 i z h hz
    · obtain rfl : i = m + 1 := by omega
      rw [hx] at hz; cases hz; exact ⟨h1, h2⟩
  · by_cases h : j < m + 1
    · exact hu.2 i j a b hij h ha hb
    · obtain rfl : j = m + 1 := by omega
      rw [hx] at hb; cases hb
      by_cases hi : i = m
      · subst hi; rw [hy] at ha; cases ha; exact hs
      · have := hu.2 i m a y (by omega) (by omega) ha hy; omega
theorem upto_all {xs : List Pt} {k : Nat} (h : UpTo xs k) (hk : xs.length ≤ k) : RisesN xs := by
  refine ⟨fun x hx => ?_, List.pairwise_iff_getElem.2 fun i j hi hj hij => ?_⟩
  · obtain ⟨i, hi, rfl⟩ := List.mem_iff_getElem.1 hx
    exact h.1 i _ (by omega) (List.getElem?_eq_getElem hi)
  · exact h.2 i j _ _ hij (by omega) (List.getElem?_eq_getElem hi) (List.getElem?_eq_getElem hj)
theorem sees_take {w : World} {o : Option Addr} {xs : List Pt} (h : Pnt.SeesO w o xs) (k : Nat) : Pnt.SeesO w o (xs.take k) := by
  rcases h with rfl | ⟨b, off, e, hl, h0, h1⟩
  · exact .inl (by simp)
  · refine .inr ⟨b, off, e, hl, fun j x hx => h0 j x ?_, fun j x hx => h1 j x ?_⟩
    all_goals
      rw [List.getElem?_take] at hx
      split at hx
      · exact hx
      · cases hx
theorem sees_drop {w : World} {b off : Nat} {xs : List Pt} (h : Pnt.SeesO w (some ⟨b, off, none⟩) xs) (k : Nat) : Pnt.SeesO w (some ⟨b, off + k * 2, none⟩) (xs.drop k) := by
  rcases h with rfl | ⟨b', off', e, hl, h0, h1⟩
  · exact .inl (by simp)
  · cases e
    refine .inr ⟨b, off + k * 2, rfl, hl, fun j x hx => ?_, fun j x hx => ?_⟩
    · rw [List.getElem?_drop] at hx
      have := h0 _ x hx
      rw [show off + k * 2 + j * 2 = off + (k + j) * 2 by omega]; exact this
    · rw [List.getElem?_drop] at hx
      have := h1 _ x hx
      rw [show off + k * 2 + j * 2 + 1 = off + (k + j) * 2 + 1 by omega]; exact this

theorem inc_calls {xs : List Pt} {p K : Nat} {x y z : Pt} (hn : xs.length = p + 1 + 1) (hp : pointsB xs = true) (hR : RisesN xs) (hK : K ≤ p) (hx : xs[0]? = some x) (hy : xs[p + 1]? = some y) (hz : xs[K]? = some z) :
    overF 6 xs = (y.2 - x.2, true, 0) ∧ overF 6 (xs.take (K + 1)) = (z.2 - x.2, decide (2 ≤ K + 1), 0) ∧ overF 6 (xs.drop K) = (y.2 - z.2, true, 0) := by
  refine ⟨?_, ?_, ?_⟩
  · rw [inc_rise hp hR hx (y := y) (by rw [List.getLast?_eq_getElem?, hn]; exact hy), hn, decide_eq_true (by omega)]
  · have hl : (xs.take (K + 1)).length = K + 1 := by rw [List.length_take, hn]; omega
    rw [inc_rise (points_sub hp (List.take_sublist _ _)) (rises_sub hR (List.take_sublist _ _)) (x := x) (y := z) (by rw [List.getElem?_take_of_lt (by omega)]; exact hx) (by rw [List.getLast?_eq_getElem?, hl, List.getElem?_take_of_lt (by omega)]; exact hz), hl]
  · have hl : (xs.drop K).length = p + 1 + 1 - K := by rw [List.length_drop, hn]
    rw [inc_rise (points_sub hp (List.drop_sublist _ _)) (rises_sub hR (List.drop_sublist _ _)) (x := z) (y := y) (by rw [List.getElem?_drop]; exact hz) (by rw [List.getLast?_eq_getElem?, hl, List.getElem?_drop, show K + (p + 1 + 1 - K - 1) = p + 1 by omega]; exact hy), hl, decide_eq_true (by omega)]
/-- The call's contract, its answer given. -/
theorem wdo_at {n : Nat} {k : Nat} (hk : k < 8) {xs : List Pt} {v : Int} {ok : Bool} {e0 : Int} (he : overF k xs = (v, ok, e0)) (hn : xs.length = n) (hm : n ≤ maxLen) {w : World} {o : Option Addr} (hS : Pnt.SeesO w o xs) (cap : Nat) (W : World) (hb : Below w.heap.size w W) :
    Calls Try.prog 11 #[.string (nmOf k), .slice o n cap] W fun e w' => e = .returned (.tuple #[.int .i64 v, .bool ok, .int .i64 e0]) ∧ Below W.heap.size W w' := by
  have := wdo_form k hk o cap xs W hn hm (hS.below hb)
  rw [he] at this
  exact this

set_option maxHeartbeats 4000000 in
set_option maxRecDepth 100000 in
theorem grows_none (o : Option Addr) (cap : Nat) (xs : List Pt) (cut : Int) (w : World) (hm : xs.length ≤ maxLen) (hS : Pnt.SeesO w o xs) (hb : ¬ (2 ≤ xs.length ∧ pointsB xs = true)) :
    Calls Try.prog 6 #[.slice o xs.length cap, .int .i64 cut] w fun e w' => e = .returned (.bool true) ∧ Below w.heap.size w w' := by
  have HP := Lib.hid (rpoints_any o cap xs w hm hS)
  have HAL := Lib.hid (fun W => alive_any W)
  by_cases h2 : 2 ≤ xs.length
  · have hp : pointsB xs = false := by
      cases hp : pointsB xs with
      | false => rfl
      | true => exact absurd ⟨h2, hp⟩ hb
    rw [hp] at HP
    generalize xs.length = n at HP hm h2 ⊢
    unfold maxLen at hm
    have j1 : ¬ ((n : Int) < 2) := by omega
    clear hS hb hp
    go_enter Try.func6, Try.ntmps6
    go_wp2_with fail
    refine HP.out.mono ?_
    rintro e w1 ⟨rfl, b1⟩
    go_wp2_with fail
    refine (HAL.out _).mono ?_
    rintro e w2 ⟨rfl, b2⟩
    have HB2 := Lib.hid (b1.trans (b2.mono b1.size))
    clear b1 b2
    go_wp2
    go_ret
    exact ⟨rfl, HB2.out⟩
  · generalize xs.length = n at hm h2 ⊢
    unfold maxLen at hm
    have j1 : (n : Int) < 2 := by omega
    clear hS hb HP
    go_enter Try.func6, Try.ntmps6
    go_wp2_with fail
    refine (HAL.out _).mono ?_
    rintro e w2 ⟨rfl, b2⟩
    have HB2 := Lib.hid b2
    clear b2
    go_wp2
    go_ret
    exact ⟨rfl, HB2.out⟩

set_option maxHeartbeats 8000000 in
set_option maxRecDepth 100000 in
theorem wgrows_any (o : Option Addr) (cap : Nat) (xs : List Pt) (cut : Int) (w : World) (hm : xs.length ≤ maxLen) (hS : Pnt.SeesO w o xs) (hc : xs.length ≤ cap) (hcm : cap ≤ maxLen) :
    Calls Try.prog 6 #[.slice o xs.length cap, .int .i64 cut] w fun e w' => e = .returned (.bool true) ∧ Below w.heap.size w w' := by
  by_cases hb : 2 ≤ xs.length ∧ pointsB xs = true
  case neg => exact grows_none o cap xs cut w hm hS hb
  obtain ⟨h2, hp⟩ := hb
  obtain ⟨p, hn⟩ : ∃ p, xs.length = p + 1 + 1 := ⟨xs.length - 2, by omega⟩
  have h25 : p + 1 + 1 ≤ 25 := by rw [← hn]; exact ((points_iff xs).1 hp).1
  have HP := Lib.hid (rpoints_any o cap xs w hm hS)
  rw [hp] at HP
  have HAL := Lib.hid (fun W => alive_any W)
  have HN := Lib.hid hn
  have HSO := Lib.hid hS
  have HPT := Lib.hid hp
  rw [hn] at HP hc ⊢
  unfold maxLen at hcm
  clear hS hp hm hn h2
  have j0 : ¬ (((p + 1 + 1 : Nat) : Int) < 2) := by omega
  have j25 : (p : Int) ≤ 23 := by omega
  go_enter Try.func6, Try.ntmps6
  go_wp2_with fail
  refine HP.out.mono ?_
  rintro e w1 ⟨rfl, b1⟩
  have HB1 := Lib.hid b1
  clear b1
  go_wp2_with fail
  refine (HAL.out _).mono ?_
  rintro e w2 ⟨rfl, b2⟩
  have HB2 := Lib.hid (HB1.out.trans (b2.mono HB1.out.size))
  clear b2 HB1
  go_wp2
  go_loopw [5] (fun v5 wr => ∃ k : Nat, v5 = .int .i64 k ∧ k ≤ p + 1 + 1 ∧ Hid (Below w.heap.size w wr) ∧ Hid (UpTo xs k)) (fun v5 _ => p + 1 + 1 - (intOf v5).toNat)
  case atStart => exact ⟨0, rfl, Nat.zero_le _, HB2, upto_zero xs⟩
  case round =>
    obtain ⟨k, rfl, hk, HB, H⟩ := hrel
    by_cases hkn : k < p + 1 + 1
    · have j1 : (k : Int) < ((p + 1 + 1 : Nat) : Int) := by omega
      obtain ⟨x, hx⟩ := Pnt.get_lt HN.out hkn
      obtain ⟨b, off, rfl, hS⟩ := (HSO.out.below HB.out).at hx
      have c1 := hS.at1 k x hx
      have HX := Lib.hid hx
      have HS := Lib.hid hS
      clear hS hx
      cases t1 : decide (x.2 < 0) with
      | true =>
        go_wp2_with fail
        go_quiet (fail)
        have HBq := Lib.hid (quiet_below HB.out nq)
        go_wp2
        go_ret
        exact ⟨rfl, HBq.out⟩
      | false =>
      cases t2 : decide (1000000000 < x.2) with
      | true =>
        go_wp2_with fail
        go_quiet (fail)
        have HBq := Lib.hid (quiet_below HB.out nq)
        go_wp2
        go_ret
        exact ⟨rfl, HBq.out⟩
      | false =>
      have e1 : 0 ≤ x.2 := by simpa using t1
      have e2 : x.2 ≤ 1000000000 := by simpa using t2
      by_cases hk0 : k = 0
      · have H2 := Lib.hid (show UpTo xs (k + 1) from by subst hk0; exact upto_first HX.out e1 e2)
        have j2 : decide (0 < k) = false := by simp; omega
        clear hk0 e1 e2
        go_wp2_with fail
        go_quiet (fail)
        have HBq := Lib.hid (quiet_below HB.out nq)
        go_wp2
        go_roundw
        case rel => exact ⟨k + 1, by go_num, by omega, HBq, H2⟩
        case measure => simp [intOf]; omega
      · obtain ⟨m, rfl⟩ : ∃ m, k = m + 1 := ⟨k - 1, by omega⟩
        obtain ⟨y, hy⟩ := Pnt.get_lt HN.out (show m < p + 1 + 1 by omega)
        have d1 := HS.out.at1 m y hy
        cases t3 : decide (x.2 < y.2) with
        | true =>
          clear hk0 e1 e2 hy
          go_wp2_with fail
          go_quiet (fail)
          have HBq := Lib.hid (quiet_below HB.out nq)
          go_wp2
          go_ret
          exact ⟨rfl, HBq.out⟩
        | false =>
          have H2 := Lib.hid (upto_next H.out hy HX.out e1 e2 (by simpa using t3))
          clear hk0 e1 e2 hy
          go_wp2_with fail
          go_quiet (fail)
          have HBq := Lib.hid (quiet_below HB.out nq)
          go_wp2
          go_roundw
          case rel => exact ⟨m + 1 + 1, by go_num, by omega, HBq, H2⟩
          case measure => simp [intOf]; omega
    · have j1 : ¬ ((k : Int) < ((p + 1 + 1 : Nat) : Int)) := by omega
      have hR := upto_all H.out (by rw [HN.out]; omega)
      obtain ⟨r, hr⟩ : ∃ r, cut.tmod ((p : Int) + 1) = r := ⟨_, rfl⟩
      have hr1 : -(p : Int) ≤ r ∧ r ≤ p := by
        have : (cut.tmod ((p : Int) + 1)).natAbs < ((p : Int) + 1).natAbs := by rw [Int.natAbs_tmod]; exact Nat.mod_lt _ (by omega)
        omega
      obtain ⟨K, hK⟩ : ∃ K : Nat, (r + ((p : Int) + 1 + 1) - 1) % ((p : Int) + 1) = K := ⟨((r + ((p : Int) + 1 + 1) - 1) % ((p : Int) + 1)).toNat, by have := Int.emod_nonneg (r + ((p : Int) + 1 + 1) - 1) (show (p : Int) + 1 ≠ 0 by omega); omega⟩
      have hK2 : (K : Int) ≤ p := by
        have := Int.emod_lt_of_pos (r + ((p : Int) + 1 + 1) - 1) (show 0 < (p : Int) + 1 by omega)
        omega
      obtain ⟨r1, r2⟩ := hr1
      have hKn : K ≤ p := by omega
      -- the three calls
      obtain ⟨x, hx⟩ := Pnt.get_lt HN.out (show 0 < p + 1 + 1 by omega)
      obtain ⟨y, hy⟩ := Pnt.get_lt HN.out (show p + 1 < p + 1 + 1 by omega)
      obtain ⟨z, hz⟩ := Pnt.get_lt HN.out (show K < p + 1 + 1 by omega)
      obtain ⟨b, off, rfl, hS⟩ := (HSO.out.below HB.out).at hx
      have hsee := HSO.out.below HB.out
      obtain ⟨hxy, hxz, hzy⟩ := inc_calls HN.out HPT.out hR hKn hx hy hz
      have bx := hR.1 x (List.mem_of_getElem? hx)
      have by' := hR.1 y (List.mem_of_getElem? hy)
      have bz := hR.1 z (List.mem_of_getElem? hz)
      have H1 := Lib.hid (wdo_at (n := p + 1 + 1) (k := 6) (by omega) hxy HN.out (by unfold maxLen; omega) hsee)
      have H2 := Lib.hid (wdo_at (n := 1 + K) (k := 6) (by omega) hxz (by rw [List.length_take, HN.out]; omega) (by unfold maxLen; omega) (sees_take hsee (K + 1)))
      have H3 := Lib.hid (wdo_at (n := p + 1 + 1 - K) (k := 6) (by omega) hzy (by rw [List.length_drop, HN.out]) (by unfold maxLen; omega) (sees_drop hsee K))
      have HC := Lib.hid (fun W (h : Below wr.heap.size wr W) => (show W.cell? ⟨b, off + (p + 1) * 2 + 1, none⟩ = some (.int .i64 y.2) ∧ W.cell? ⟨b, off + 1, none⟩ = some (.int .i64 x.2) from ⟨(hS.below h).at1 (p + 1) y hy, by simpa using (hS.below h).at1 0 x hx⟩))
      generalize decide (2 ≤ K + 1) = ok at H2
      obtain ⟨x1, x2⟩ := bx
      obtain ⟨y1, y2⟩ := by'
      obtain ⟨z1, z2⟩ := bz
      have k0 : (0 : Int) ≤ p := by omega
      have k1 : (0 : Int) ≤ K := by omega
      have kc1 : (K : Int) + 1 ≤ cap := by omega
      have kc2 : (K : Int) ≤ (p : Int) + 1 + 1 := by omega
      have kc3 : ¬ cap = K := by omega
      have kc4 : ¬ K = cap := by omega
      have kc5 : (cap : Int) ≤ 9223372036854775807 := by omega
      have t1 : (z.2 - x.2 + (y.2 - z.2) == y.2 - x.2) = true := by rw [beq_iff_eq]; omega
      clear hsee hxy hxz hzy hS hx hy hz hR H HPT
      go_wp2_with fail
      refine (H1.out cap _ (Below.refl _ _)).mono ?_
      rintro e w3 ⟨rfl, b3⟩
      have HB3 := Lib.hid b3
      clear b3
      go_wp2_with fail
      refine (H2.out _ _ HB3.out).mono ?_
      rintro e w4 ⟨rfl, b4⟩
      have HB4 := Lib.hid (HB3.out.trans (b4.mono HB3.out.size))
      clear b4
      go_wp2_with fail
      refine (H3.out _ _ HB4.out).mono ?_
      rintro e w5 ⟨rfl, b5⟩
      have HB5 := Lib.hid (HB4.out.trans (b5.mono HB4.out.size))
      obtain ⟨d1, d0⟩ := HC.out _ HB5.out
      clear b5
      go_wp2_with fail
      go_quiet (fail)
      have HBq := Lib.hid (quiet_below (HB.out.trans (HB5.out.mono HB.out.size)) nq)
      go_wp2
      go_ret
      exact ⟨by simp, HBq.out⟩
end Go.Proofs.Ythbameabfmoibaa.Win
