/- Walks: the document's own word on which points are right. -/
import Derived.Test.YtphkodkenkiecaaMg04
namespace Go.Proofs.Ytphkodkenkiecaa.Win
open Go.RowKit Go.Lib Fix

set_option maxHeartbeats 2000000 in
set_option maxRecDepth 100000 in
theorem rpoints_any (o : Option Addr) (cap : Nat) (xs : List Pt) (w : World) (hm : xs.length ≤ maxLen) (hS : Pnt.SeesO w o xs) :
    Calls Try.prog 10 #[.slice o xs.length cap] w fun e w' => e = .returned (.bool (pointsB xs)) ∧ Below w.heap.size w w' := by
  obtain ⟨n, hn⟩ : ∃ n, xs.length = n := ⟨_, rfl⟩
  have HN := Lib.hid hn
  unfold maxLen at hm
  rw [hn] at hm ⊢
  by_cases h25 : 25 < n
  · have i1 : (25 : Int) < n := by omega
    rw [points_long (by omega)]
    clear hS hn
    go_enter Try.func10, Try.ntmps10
    go_wp2
    go_ret
    exact ⟨rfl, Below.refl _ _⟩
  have i1 : ¬ ((25 : Int) < n) := by omega
  rw [points_short (by omega)]
  obtain ⟨r, hr⟩ : ∃ r, risesP none xs = r := ⟨_, rfl⟩
  rw [hr]
  have HR := Lib.hid hr
  have HSO := Lib.hid hS
  have HVY := Lib.hid rnum_yes
  have HVN := Lib.hid rnum_no
  clear hS hn hr h25
  go_enter Try.func10, Try.ntmps10
  go_wp2
  go_loopw [3] (fun v3 wr => ∃ k : Nat, v3 = .int .i64 k ∧ k ≤ n ∧ Hid (Below w.heap.size w wr) ∧ Hid (risesP (prevO xs k) (xs.drop k) = r)) (fun v3 _ => n - (Go.RowKit.intOf v3).toNat)
  case atStart => exact ⟨0, rfl, Nat.zero_le _, Below.refl _ _, HR.out⟩
  case round =>
    obtain ⟨k, rfl, hk, HB, H⟩ := hrel
    by_cases hkn : k < n
    · have j1 : (k : Int) < n := by omega
      obtain ⟨x, hx⟩ := Pnt.get_lt HN.out hkn
      obtain ⟨b, off, rfl, hS⟩ := (HSO.out.below HB.out).at hx
      have c0 := hS.at0 k x hx
      have c1 := hS.at1 k x hx
      have HX := Lib.hid hx
      have HS := Lib.hid hS
      clear hS hx
      by_cases ht : timeP x.1
      · have t1 : decide (x.1 < 0) = false := by simp; exact ht.1
        have t2 : decide (1000000000 < x.1) = false := by simp; exact ht.2
        by_cases hv : valP x.2
        · by_cases hk0 : k = 0
          · have H2 := Lib.hid (show risesP (prevO xs (k + 1)) (xs.drop (k + 1)) = r from by subst hk0; exact (rises_first HX.out ht hv).trans H.out)
            have HY2 := Lib.hid (fun W => HVY.out x.2 W hv)
            have j2 : decide (0 < k) = false := by simp; omega
            clear ht hv HVY HVN hk0
            go_wp2_with fail
            go_quiet (first | (go_at_call 22; exact Calls.quiet_of_same (HY2.out _)))
            have HBq := Lib.hid (quiet_below HB.out nq)
            go_wp2
            go_roundw
            case rel => exact ⟨k + 1, by go_num, by omega, HBq, H2⟩
            case measure => simp [Go.RowKit.intOf]; omega
          · obtain ⟨m, rfl⟩ : ∃ m, k = m + 1 := ⟨k - 1, by omega⟩
            obtain ⟨y, hy⟩ := Pnt.get_lt HN.out (show m < n by omega)
            have d0 := HS.out.at0 m y hy
            have HY2 := Lib.hid (fun W => HVY.out x.2 W hv)
            by_cases hs : y.1 < x.1
            · have H2 := Lib.hid (show risesP (prevO xs (m + 1 + 1)) (xs.drop (m + 1 + 1)) = r from (rises_next HX.out hy ht hv hs).trans H.out)
              have j3 : decide (x.1 ≤ y.1) = false := by simp; omega
              clear ht hv HVY HVN hk0 hs hy
              go_wp2_with fail
              go_quiet (first | (go_at_call 22; exact Calls.quiet_of_same (HY2.out _)))
              have HBq := Lib.hid (quiet_below HB.out nq)
              go_wp2
              go_roundw
              case rel => exact ⟨m + 1 + 1, by go_num, by omega, HBq, H2⟩
              case measure => simp [Go.RowKit.intOf]; omega
            · have H2 := Lib.hid (show false = r from (rises_bad_step HX.out hy hs).symm.trans H.out)
              have j3 : decide (x.1 ≤ y.1) = true := by simp; omega
              clear ht hv HVY HVN hk0 hs hy HY2
              go_wp2_with fail
              go_quiet (fail)
              have HBq := Lib.hid (quiet_below HB.out nq)
              go_wp2
              go_ret
              exact ⟨Pnt.ret_bool H2.out, HBq.out⟩
        · have HY2 := Lib.hid (fun W => HVN.out x.2 W hv)
          have H2 := Lib.hid (show false = r from (rises_bad_val HX.out hv).symm.trans H.out)
          by_cases hk0 : k = 0
          · have j2 : decide (0 < k) = false := by simp; omega
            clear ht hv HVY HVN hk0
            go_wp2_with fail
            go_quiet (first | (go_at_call 22; exact Calls.quiet_of_same (HY2.out _)))
            have HBq := Lib.hid (quiet_below HB.out nq)
            go_wp2
            go_ret
            exact ⟨Pnt.ret_bool H2.out, HBq.out⟩
          · obtain ⟨m, rfl⟩ : ∃ m, k = m + 1 := ⟨k - 1, by omega⟩
            obtain ⟨y, hy⟩ := Pnt.get_lt HN.out (show m < n by omega)
            have d0 := HS.out.at0 m y hy
            cases j3 : decide (x.1 ≤ y.1) with
            | false =>
              clear ht hv HVY HVN hk0 hy
              go_wp2_with fail
              go_quiet (first | (go_at_call 22; exact Calls.quiet_of_same (HY2.out _)))
              have HBq := Lib.hid (quiet_below HB.out nq)
              go_wp2
              go_ret
              exact ⟨Pnt.ret_bool H2.out, HBq.out⟩
            | true =>
              clear ht hv HVY HVN hk0 hy HY2
              go_wp2_with fail
              go_quiet (fail)
              have HBq := Lib.hid (quiet_below HB.out nq)
              go_wp2
              go_ret
              exact ⟨Pnt.ret_bool H2.out, HBq.out⟩
      · have H2 := Lib.hid (show false = r from (rises_bad_time HX.out ht).symm.trans H.out)
        cases t1 : decide (x.1 < 0) with
        | true =>
          clear ht HVY HVN
          go_wp2_with fail
          go_quiet (fail)
          have HBq := Lib.hid (quiet_below HB.out nq)
          go_wp2
          go_ret
          exact ⟨Pnt.ret_bool H2.out, HBq.out⟩
        | false =>
          have t2 : decide (1000000000 < x.1) = true := by
            simp at t1 ⊢
            by_cases h : x.1 ≤ 1000000000
            · exact absurd ⟨t1, h⟩ ht
            · omega
          clear ht HVY HVN
          go_wp2_with fail
          go_quiet (fail)
          have HBq := Lib.hid (quiet_below HB.out nq)
          go_wp2
          go_ret
          exact ⟨Pnt.ret_bool H2.out, HBq.out⟩
    · have j1 : ¬ ((k : Int) < n) := by omega
      have H2 := Lib.hid (show true = r from (rises_end (by rw [HN.out]; omega)).symm.trans H.out)
      go_wp2
      go_ret
      exact ⟨Pnt.ret_bool H2.out, HB.out⟩
end Go.Proofs.Ytphkodkenkiecaa.Win
