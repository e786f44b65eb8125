/- Walks: times, and which points are right. -/
import Derived.Test.YthbameabfmoibaaGreatVp
import Derived.Test.YthbameabfmoibaaGreatPna
import Derived.Test.YthbameabfmoibaaGreatFe
namespace Go.Proofs.YthbameabfmoibaaGreat.Win
open Go.RowKit Go.Lib

theorem time_yes (t : Int) (w : World) (h : timeP t) : Calls Tryz.prog 20 #[.int .i64 t] w fun e w' => e = .returned (.bool true) ∧ w' = w := by
  obtain ⟨h1, h2⟩ := h
  go_enter Tryz.func20, Tryz.ntmps20
  go_wp2
  go_ret
  exact ⟨rfl, rfl⟩
theorem time_no (t : Int) (w : World) (h : ¬ timeP t) : Calls Tryz.prog 20 #[.int .i64 t] w fun e w' => e = .returned (.bool false) ∧ w' = w := by
  by_cases h1 : 0 ≤ t
  · have h2 : ¬ t ≤ 1000000000 := fun h2 => h ⟨h1, h2⟩
    clear h
    go_enter Tryz.func20, Tryz.ntmps20
    go_wp2
    go_ret
    exact ⟨rfl, rfl⟩
  · clear h
    go_enter Tryz.func20, Tryz.ntmps20
    go_wp2
    go_ret
    exact ⟨rfl, rfl⟩
theorem num_yes (v : Int) (w : World) (h : valP v) : Calls Tryz.prog 28 #[.int .i64 v] w fun e w' => e = .returned (.bool true) ∧ w' = w :=
  (right_yes v w h).mono fun _ _ h => ⟨h.1, h.2.symm⟩
theorem num_no (v : Int) (w : World) (h : ¬ valP v) : Calls Tryz.prog 28 #[.int .i64 v] w fun e w' => e = .returned (.bool false) ∧ w' = w :=
  (right_no v w h).mono fun _ _ h => ⟨h.1, h.2.symm⟩
theorem rnum_yes (v : Int) (w : World) (h : valP v) : Calls Tryz.prog 24 #[.int .i64 v] w fun e w' => e = .returned (.bool true) ∧ w' = w :=
  (value_yes v w h).mono fun _ _ h => ⟨h.1, h.2.symm⟩
theorem rnum_no (v : Int) (w : World) (h : ¬ valP v) : Calls Tryz.prog 24 #[.int .i64 v] w fun e w' => e = .returned (.bool false) ∧ w' = w :=
  (value_no v w h).mono fun _ _ h => ⟨h.1, h.2.symm⟩
theorem box_below {w wr : World} (h : Below w.heap.size w wr) (o : Obj) : Below w.heap.size w (wr.alloc o) := h.alloc h.size o
theorem quiet_below {w wr : World} (h : Below w.heap.size w wr) (n : Nat) : Below w.heap.size w (wr.drewN n) := h.trans ⟨rfl, rfl, rfl, Nat.le_refl _, fun _ _ => rfl⟩

set_option maxHeartbeats 2000000 in
set_option maxRecDepth 100000 in
theorem wright_any (o : Option Addr) (cap : Nat) (xs : List Pt) (w : World) (hm : xs.length ≤ maxLen) (hS : Pnt.SeesO w o xs) :
    Calls Tryz.prog 12 #[.slice o xs.length cap] w fun e w' => e = .returned (.bool (pointsB xs)) ∧ Below w.heap.size w w' := by
  obtain ⟨n, hn⟩ : ∃ n, xs.length = n := ⟨_, rfl⟩
  have HN := Lib.hid hn
  unfold maxLen at hm
  rw [hn] at hm ⊢
  by_cases h25 : 25 < n
  · have i1 : (25 : Int) < n := by omega
    rw [points_long (by omega)]
    clear hS hn
    go_enter Tryz.func12, Tryz.ntmps12
    go_wp2
    go_ret
    exact ⟨rfl, Below.refl _ _⟩
  have i1 : ¬ ((25 : Int) < n) := by omega
  rw [points_short (by omega)]
  obtain ⟨r, hr⟩ : ∃ r, risesP none xs = r := ⟨_, rfl⟩
  rw [hr]
  have HR := Lib.hid hr
  have HSO := Lib.hid hS
  have HTY := Lib.hid time_yes
  have HTN := Lib.hid time_no
  have HVY := Lib.hid num_yes
  have HVN := Lib.hid num_no
  clear hS hn hr h25
  go_enter Tryz.func12, Tryz.ntmps12
  go_wp2
  go_loopw [10] (fun v10 wr => ∃ k : Nat, v10 = .int .i64 k ∧ k ≤ n ∧ Hid (Below w.heap.size w wr) ∧ Hid (risesP (prevO xs k) (xs.drop k) = r)) (fun v10 _ => n - (intOf v10).toNat)
  case atStart => exact ⟨0, rfl, Nat.zero_le _, Below.refl _ _, HR.out⟩
  case round =>
    obtain ⟨k, rfl, hk, HB, H⟩ := hrel
    by_cases hkn : k < n
    · have j1 : (k : Int) < n := by omega
      obtain ⟨x, hx⟩ := Pnt.get_lt HN.out hkn
      obtain ⟨b, off, rfl, hS⟩ := (HSO.out.below HB.out).at hx
      have c0 := hS.at0 k x hx
      have c1 := hS.at1 k x hx
      have HX := Lib.hid hx
      have HS := Lib.hid hS
      obtain ⟨W, hW⟩ : ∃ W, wr.alloc (Obj.cells #[Value.int .i64 x.1, Value.int .i64 x.2] 43) = W := ⟨_, rfl⟩
      have hBW : Below wr.heap.size wr W := by rw [← hW]; exact (Below.refl _ _).alloc (Nat.le_refl _) _
      have r0 : W.cell? ⟨wr.heap.size, 0, none⟩ = some (.int .i64 x.1) := by rw [← hW]; simp
      have r1 : W.cell? ⟨wr.heap.size, 1, none⟩ = some (.int .i64 x.2) := by rw [← hW]; simp
      have HW := Lib.hid hW
      have HB1 := Lib.hid (HB.out.trans (hBW.mono HB.out.size))
      have HSW := Lib.hid (hS.below hBW)
      clear hS hx hW hBW
      by_cases ht : timeP x.1
      · by_cases hv : valP x.2
        · by_cases hk0 : k = 0
          · have H2 := Lib.hid (show risesP (prevO xs (k + 1)) (xs.drop (k + 1)) = r from by subst hk0; exact (rises_first HX.out ht hv).trans H.out)
            have HY1 := Lib.hid (fun W => HTY.out x.1 W ht)
            have HY2 := Lib.hid (fun W => HVY.out x.2 W hv)
            have j2 : decide (0 < k) = false := by simp; omega
            clear ht hv HTY HTN HVY HVN hk0
            go_wp2_with fail
            rw [HW.out]
            go_quiet (first | (go_at_call 20; exact Calls.quiet_of_same (HY1.out _)) | (go_at_call 28; exact Calls.quiet_of_same (HY2.out _)))
            have HBq := Lib.hid (quiet_below HB1.out nq)
            go_wp2
            go_roundw
            case rel => exact ⟨k + 1, by go_num, by omega, HBq, H2⟩
            case measure => simp [intOf]; omega
          · obtain ⟨m, rfl⟩ : ∃ m, k = m + 1 := ⟨k - 1, by omega⟩
            obtain ⟨y, hy⟩ := Pnt.get_lt HN.out (show m < n by omega)
            have d0 := HSW.out.at0 m y hy
            have HY1 := Lib.hid (fun W => HTY.out x.1 W ht)
            have HY2 := Lib.hid (fun W => HVY.out x.2 W hv)
            by_cases hs : y.1 < x.1
            · have H2 := Lib.hid (show risesP (prevO xs (m + 1 + 1)) (xs.drop (m + 1 + 1)) = r from (rises_next HX.out hy ht hv hs).trans H.out)
              have j3 : decide (x.1 ≤ y.1) = false := by simp; omega
              clear ht hv HTY HTN HVY HVN hk0 hs hy
              go_wp2_with fail
              rw [HW.out]
              go_quiet (first | (go_at_call 20; exact Calls.quiet_of_same (HY1.out _)) | (go_at_call 28; exact Calls.quiet_of_same (HY2.out _)))
              have HBq := Lib.hid (quiet_below HB1.out nq)
              go_wp2
              go_roundw
              case rel => exact ⟨m + 1 + 1, by go_num, by omega, HBq, H2⟩
              case measure => simp [intOf]; omega
            · have H2 := Lib.hid (show false = r from (rises_bad_step HX.out hy hs).symm.trans H.out)
              have j3 : decide (x.1 ≤ y.1) = true := by simp; omega
              clear ht hv HTY HTN HVY HVN hk0 hs hy
              go_wp2_with fail
              rw [HW.out]
              go_quiet (first | (go_at_call 20; exact Calls.quiet_of_same (HY1.out _)) | (go_at_call 28; exact Calls.quiet_of_same (HY2.out _)))
              have HBq := Lib.hid (quiet_below HB1.out nq)
              go_wp2
              go_ret
              exact ⟨Pnt.ret_bool H2.out, HBq.out⟩
        · have HY1 := Lib.hid (fun W => HTY.out x.1 W ht)
          have HY2 := Lib.hid (fun W => HVN.out x.2 W hv)
          have H2 := Lib.hid (show false = r from (rises_bad_val HX.out hv).symm.trans H.out)
          clear ht hv HTY HTN HVY HVN
          go_wp2_with fail
          rw [HW.out]
          go_quiet (first | (go_at_call 20; exact Calls.quiet_of_same (HY1.out _)) | (go_at_call 28; exact Calls.quiet_of_same (HY2.out _)))
          have HBq := Lib.hid (quiet_below HB1.out nq)
          go_wp2
          go_ret
          exact ⟨Pnt.ret_bool H2.out, HBq.out⟩
      · have HY1 := Lib.hid (fun W => HTN.out x.1 W ht)
        have H2 := Lib.hid (show false = r from (rises_bad_time HX.out ht).symm.trans H.out)
        clear ht HTY HTN HVY HVN
        go_wp2_with fail
        rw [HW.out]
        go_quiet (first | (go_at_call 20; exact Calls.quiet_of_same (HY1.out _)))
        have HBq := Lib.hid (quiet_below HB1.out nq)
        go_wp2
        go_ret
        exact ⟨Pnt.ret_bool H2.out, HBq.out⟩
    · have j1 : ¬ ((k : Int) < n) := by omega
      have H2 := Lib.hid (show true = r from (rises_end (by rw [HN.out]; omega)).symm.trans H.out)
      go_wp2
      go_ret
      exact ⟨Pnt.ret_bool H2.out, HB.out⟩
end Go.Proofs.YthbameabfmoibaaGreat.Win
