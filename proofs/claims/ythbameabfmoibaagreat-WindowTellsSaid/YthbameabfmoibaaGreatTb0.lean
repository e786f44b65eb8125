/- Walks: the document's own sums and means. -/
import Derived.Test.YthbameabfmoibaaGreatFf
namespace Go.Proofs.YthbameabfmoibaaGreat
open Go.RowKit

set_option maxHeartbeats 2000000 in
set_option maxRecDepth 100000 in
theorem rsum_any (o : Option Addr) (cap : Nat) (zs : List Int) (w : World) (hm : zs.length ≤ 1000000) (hS : SeesI w o zs) :
    Calls Tryz.prog 25 #[.slice o zs.length cap] w fun e w' => e = .returned (.tuple #[.int .i64 (sumF zs).1, .int .i64 (sumF zs).2]) ∧ w = w' := by
  obtain ⟨n, hn⟩ : ∃ n, zs.length = n := ⟨_, rfl⟩
  have HN := Lib.hid hn
  rw [hn] at hm ⊢
  have HE := Lib.hid (show sumF zs = if n ≤ 2000 ∧ (∀ z ∈ zs, rgt z) then withinF zs.sum else (0, 1) by unfold sumF; rw [hn])
  clear hn
  by_cases h8 : 2000 < n
  · have i1 : (2000 : Int) < n := by omega
    rw [HE.out, if_neg (fun h => by omega)]
    go_enter Tryz.func25, Tryz.ntmps25
    go_wp2
    go_ret2
    exact ⟨rfl, rfl⟩
  have i1 : (n : Int) ≤ 2000 := by omega
  have HS := Lib.hid hS
  clear hS h8
  obtain ⟨R, hR⟩ : ∃ R, sumF zs = R := ⟨_, rfl⟩
  rw [hR]
  have HRR := Lib.hid (HE.out.symm.trans hR)
  clear hR HE
  go_enter Tryz.func25, Tryz.ntmps25
  go_wp2
  go_loop [4, 5] (fun v4 v5 => ∃ k : Nat, v5 = .int .i64 k ∧ k ≤ n ∧ v4 = .int .i64 (zs.take k).sum ∧ Hid (∀ z ∈ zs.take k, rgt z)) (fun _ v5 => n - (intOf v5).toNat)
  case atStart => exact ⟨0, rfl, Nat.zero_le _, by simp, Lib.hid (fun z hz => by simp at hz)⟩
  case round =>
    obtain ⟨k, rfl, hk, rfl, H⟩ := hrel
    obtain ⟨b1, b2⟩ := sum_bound _ H.out
    rw [List.length_take, HN.out, Nat.min_eq_left hk] at b1 b2
    by_cases hkn : k < n
    · have j1 : (k : Int) < n := by omega
      obtain ⟨x, hx⟩ := get_lt HN.out hkn
      obtain ⟨b, off, rfl, hc⟩ := HS.out.at hx
      have HX := Lib.hid hx
      have hsum := Lib.hid (show (zs.take (k + 1)).sum = (zs.take k).sum + x by rw [take_at HX.out]; simp)
      clear hx
      by_cases hr : rgt x
      · have HV := Lib.hid (fun W => value_yes x W hr)
        have H2 := Lib.hid (show ∀ z ∈ zs.take (k + 1), rgt z by
          intro z hz; rw [take_at HX.out] at hz
          rcases List.mem_append.1 hz with h | h
          · exact H.out z h
          · rw [List.mem_singleton.1 h]; exact hr)
        obtain ⟨r1, r2⟩ := hr
        generalize (zs.take k).sum = t at b1 b2 hsum ⊢
        go_wp2_with fail
        refine (HV.out _).mono ?_
        rintro e w' ⟨rfl, rfl⟩
        go_wp2
        go_round
        case rel => exact ⟨k + 1, by go_num, by omega, by rw [hsum.out], H2⟩
        case measure => simp [intOf]; omega
      · have HV := Lib.hid (fun W => value_no x W hr)
        have H2 := Lib.hid (show ((0 : Int), (1 : Int)) = R by
          rw [← HRR.out, if_neg (fun h => hr (h.2 x (List.mem_of_getElem? HX.out)))])
        clear hr
        generalize (zs.take k).sum = t at b1 b2 hsum ⊢
        go_wp2_with fail
        refine (HV.out _).mono ?_
        rintro e w' ⟨rfl, rfl⟩
        go_wp2
        go_ret2
        exact ⟨by rw [← H2.out]; rfl, rfl⟩
    · obtain rfl : k = n := by omega
      have e : zs.take k = zs := List.take_of_length_le (by rw [HN.out]; exact Nat.le_refl _)
      have h := H.out
      rw [e] at h
      have H2 := Lib.hid (show withinF zs.sum = R by
        rw [← HRR.out, if_pos ⟨by omega, h⟩])
      have H3 := Lib.hid (show (zs.take k).sum = zs.sum by rw [e])
      clear b1 b2 e h
      by_cases hr : rgt (zs.take k).sum
      · have HV := Lib.hid (fun W => value_yes (zs.take k).sum W hr)
        have H4 := Lib.hid (show ((zs.take k).sum, (0 : Int)) = R by rw [← H2.out, ← H3.out]; unfold withinF; rw [if_pos hr])
        clear hr
        generalize (zs.take k).sum = t at HV H4 ⊢
        go_wp2_with fail
        refine (HV.out _).mono ?_
        rintro e w' ⟨rfl, rfl⟩
        go_wp2
        go_ret2
        exact ⟨by rw [← H4.out]; rfl, rfl⟩
      · have HV := Lib.hid (fun W => value_no (zs.take k).sum W hr)
        have H4 := Lib.hid (show ((0 : Int), (4 : Int)) = R by rw [← H2.out, ← H3.out]; unfold withinF; rw [if_neg hr])
        clear hr
        generalize (zs.take k).sum = t at HV H4 ⊢
        go_wp2_with fail
        refine (HV.out _).mono ?_
        rintro e w' ⟨rfl, rfl⟩
        go_wp2
        go_ret2
        exact ⟨by rw [← H4.out]; rfl, rfl⟩

set_option maxHeartbeats 2000000 in
set_option maxRecDepth 100000 in
theorem rmean_any (o : Option Addr) (cap : Nat) (zs : List Int) (w : World) (hm : zs.length ≤ 1000000) (hS : SeesI w o zs) :
    Calls Tryz.prog 26 #[.slice o zs.length cap] w fun e w' => e = .returned (.tuple #[.int .i64 (meanF zs).1, .int .i64 (meanF zs).2]) ∧ w = w' := by
  by_cases h0 : zs = []
  · subst h0
    go_enter Tryz.func26, Tryz.ntmps26
    go_wp2
    go_ret2
    exact ⟨rfl, rfl⟩
  obtain ⟨n, hn⟩ : ∃ n, zs.length = n := ⟨_, rfl⟩
  have HN := Lib.hid hn
  have hn0 : n ≠ 0 := by rw [← hn]; exact fun h => h0 (List.length_eq_zero_iff.1 h)
  have t0 : ((n : Int) == 0) = false := beq_eq_false_iff_ne.2 (by omega)
  have i0 : (1 : Int) ≤ n := by omega
  rw [hn] at hm ⊢
  have HE := Lib.hid (show meanF zs = if n ≤ 2000 ∧ (∀ z ∈ zs, rgt z) then (zs.sum.tdiv n, 0) else (0, 1) by unfold meanF; rw [if_neg h0, hn])
  have HS := Lib.hid hS
  clear hS hn h0
  obtain ⟨R, hR⟩ : ∃ R, meanF zs = R := ⟨_, rfl⟩
  rw [hR]
  have HRR := Lib.hid (HE.out.symm.trans hR)
  clear hR HE
  go_enter Tryz.func26, Tryz.ntmps26
  go_wp2
  go_loop [4, 5] (fun v4 v5 => ∃ k : Nat, v5 = .int .i64 k ∧ k ≤ n ∧ (0 < k → n ≤ 2000) ∧ v4 = .int .i64 (zs.take k).sum ∧ Hid (∀ z ∈ zs.take k, rgt z)) (fun _ v5 => n - (intOf v5).toNat)
  case atStart => exact ⟨0, rfl, Nat.zero_le _, by omega, by simp, Lib.hid (fun z hz => by simp at hz)⟩
  case round =>
    obtain ⟨k, rfl, hk, hkk, rfl, H⟩ := hrel
    obtain ⟨b1, b2⟩ := sum_bound _ H.out
    rw [List.length_take, HN.out, Nat.min_eq_left hk] at b1 b2
    have hk2 : k ≤ 2000 := by by_cases h : 0 < k; have := hkk h; omega; omega
    by_cases hkn : k < n
    · have j1 : (k : Int) < n := by omega
      obtain ⟨x, hx⟩ := get_lt HN.out hkn
      obtain ⟨b, off, rfl, hc⟩ := HS.out.at hx
      have HX := Lib.hid hx
      have hsum := Lib.hid (show (zs.take (k + 1)).sum = (zs.take k).sum + x by rw [take_at HX.out]; simp)
      clear hx hkk
      by_cases hr : rgt x
      · have HV := Lib.hid (fun W => value_yes x W hr)
        by_cases h20 : 2000 < n
        · have i2 : (2000 : Int) < n := by omega
          have H2 := Lib.hid (show ((0 : Int), (1 : Int)) = R by
            rw [← HRR.out, if_neg (fun h => by omega)])
          clear hr h20
          generalize (zs.take k).sum = t at b1 b2 hsum ⊢
          go_wp2_with fail
          refine (HV.out _).mono ?_
          rintro e w' ⟨rfl, rfl⟩
          go_wp2
          go_ret2
          exact ⟨by rw [← H2.out]; rfl, rfl⟩
        have i2 : (n : Int) ≤ 2000 := by omega
        have h21 : n ≤ 2000 := by omega
        have H2 := Lib.hid (show ∀ z ∈ zs.take (k + 1), rgt z by
          intro z hz; rw [take_at HX.out] at hz
          rcases List.mem_append.1 hz with h | h
          · exact H.out z h
          · rw [List.mem_singleton.1 h]; exact hr)
        obtain ⟨r1, r2⟩ := hr
        clear h20
        generalize (zs.take k).sum = t at b1 b2 hsum ⊢
        go_wp2_with fail
        refine (HV.out _).mono ?_
        rintro e w' ⟨rfl, rfl⟩
        go_wp2
        go_round
        case rel => exact ⟨k + 1, by go_num, by omega, fun _ => h21, by rw [hsum.out], H2⟩
        case measure => simp [intOf]; omega
      · have HV := Lib.hid (fun W => value_no x W hr)
        have H2 := Lib.hid (show ((0 : Int), (1 : Int)) = R by
          rw [← HRR.out, if_neg (fun h => hr (h.2 x (List.mem_of_getElem? HX.out)))])
        clear hr
        generalize (zs.take k).sum = t at b1 b2 hsum ⊢
        go_wp2_with fail
        refine (HV.out _).mono ?_
        rintro e w' ⟨rfl, rfl⟩
        go_wp2
        go_ret2
        exact ⟨by rw [← H2.out]; rfl, rfl⟩
    · obtain rfl : k = n := by omega
      have e : zs.take k = zs := List.take_of_length_le (by rw [HN.out]; exact Nat.le_refl _)
      have h := H.out
      rw [e] at h
      have H2 := Lib.hid (show (zs.sum.tdiv k, (0 : Int)) = R by
        rw [← HRR.out, if_pos ⟨hkk (by omega), h⟩])
      have H3 := Lib.hid (show (zs.take k).sum = zs.sum by rw [e])
      clear e h hkk hn0
      rw [← H3.out] at H2
      generalize (zs.take k).sum = t at b1 b2 H2 ⊢
      have r1 : -2000000000000000 ≤ t.tdiv k := by have := Int.natAbs_tdiv_le_natAbs t k; omega
      have r2 : t.tdiv k ≤ 2000000000000000 := by have := Int.natAbs_tdiv_le_natAbs t k; omega
      go_wp2
      go_ret2
      exact ⟨by rw [← H2.out]; rfl, rfl⟩
end Go.Proofs.YthbameabfmoibaaGreat
