/- label.Same, walked. -/
import Derived.Test.YthjifpdiekoomaaGreatGd
import Derived.Deep.QuietTactic
namespace Go.Proofs.YthjifpdiekoomaaGreat
open Go.RowKit

set_option maxHeartbeats 2000000 in
set_option maxRecDepth 100000 in
theorem equal_any (o1 o2 : Option Addr) (c1 c2 : Nat) (xs ys : List Lab) (w : World) (hm : xs.length ≤ maxLen) (hm2 : ys.length ≤ maxLen) (h1 : SeesO w o1 xs) (h2 : SeesO w o2 ys) :
    Calls Tryz.prog 107 #[.slice o1 xs.length c1, .slice o2 ys.length c2] w fun e w' => e = .returned (.bool (sameL xs ys)) ∧ Below w.heap.size w w' := by
  obtain ⟨n, hn⟩ : ∃ n, xs.length = n := ⟨_, rfl⟩
  obtain ⟨m, hm'⟩ : ∃ m, ys.length = m := ⟨_, rfl⟩
  have HN := Lib.hid hn
  have HM := Lib.hid hm'
  rw [hn] at hm ⊢
  rw [hm'] at hm2 ⊢
  clear hn hm'
  unfold maxLen at hm hm2
  by_cases hnm : n = m
  · subst hnm
    have HS1 := Lib.hid h1
    have HS2 := Lib.hid h2
    clear h1 h2
    go_enter Tryz.func107, Tryz.ntmps107
    go_wp2
    go_loopw [5, 13] (fun v5 v13 wr => ∃ k : Nat, v13 = .int .i64 k ∧ k ≤ n ∧ Hid (Below w.heap.size w wr) ∧ Hid (sameL (xs.drop k) (ys.drop k) = sameL xs ys)) (fun _ v13 _ => n - (intOf v13).toNat)
    case atStart => exact ⟨0, rfl, Nat.zero_le _, Below.refl _ _, rfl⟩
    case round =>
      obtain ⟨k, rfl, hk, HB, H⟩ := hrel
      by_cases hkn : k < n
      · have j1 : (k : Int) < n := by omega
        obtain ⟨x, hx⟩ := get_lt HN.out hkn
        obtain ⟨b, off, rfl, hS⟩ := (HS1.out.below (HB.out.mono (Nat.le_refl _))).at hx
        obtain ⟨y, hy⟩ := get_lt HM.out hkn
        obtain ⟨b2, off2, rfl, hS2⟩ := (HS2.out.below (HB.out.mono (Nat.le_refl _))).at hy
        have c0 : ∀ n, (wr.drewN n).cell? ⟨b, off + k * 2, none⟩ = some (.string x.1) := fun _ => hS.at0 k x hx
        have c1 : ∀ n, (wr.drewN n).cell? ⟨b, off + k * 2 + 1, none⟩ = some (.string x.2) := fun _ => hS.at1 k x hx
        have d0 : ∀ n, (wr.drewN n).cell? ⟨b2, off2 + k * 2, none⟩ = some (.string y.1) := fun _ => hS2.at0 k y hy
        have d1 : ∀ n, (wr.drewN n).cell? ⟨b2, off2 + k * 2 + 1, none⟩ = some (.string y.2) := fun _ => hS2.at1 k y hy
        have HX := Lib.hid (drop_at hx)
        have HY := Lib.hid (drop_at hy)
        clear hS hS2 hx hy
        go_wp2_with fail
        have hq : Tryz.prog.eqGuardType Tryz.prog.depth 58 = false := by kernel_rfl
        have hS : Tryz.prog.underlying 58 = some (.struct (Tryz.prog.fieldsOf 58)) := by kernel_rfl
        have hp : Tryz.prog.stoodInHeld 58 = false := by kernel_rfl
        have hr : ∀ w, (Op.equalIn 10000 58 (.agg #[.string x.1, .string x.2]) (.agg #[.string y.1, .string y.2])).run Tryz.prog w = .ok (eqB x y) w := fun w => equalIn38 x y w
        go_quiet (fail)
        clear hq hS hp hr
        have HBq := Lib.hid (show Below w.heap.size w (wr.drewN nq) from HB.out.trans ⟨rfl, rfl, rfl, Nat.le_refl _, fun _ _ => rfl⟩)
        cases he : eqB x y with
        | true =>
          have H2 := Lib.hid (show sameL (xs.drop (k + 1)) (ys.drop (k + 1)) = sameL xs ys by rw [← H.out, HX.out, HY.out, sameL, he, Bool.true_and])
          clear he
          go_wp2
          go_roundw
          case rel => exact ⟨k + 1, by go_num, by omega, HBq, H2⟩
          case measure => simp [intOf]; omega
        | false =>
          have H2 := Lib.hid (show false = sameL xs ys by rw [← H.out, HX.out, HY.out, sameL, he, Bool.false_and])
          clear he
          go_wp2
          go_ret
          exact ⟨ret_bool H2.out, HBq.out⟩
      · have j1 : (n : Int) ≤ k := by omega
        have H2 := Lib.hid (show true = sameL xs ys by
          have e1 : xs.drop k = [] := List.drop_eq_nil_of_le (by rw [HN.out]; omega)
          have e2 : ys.drop k = [] := List.drop_eq_nil_of_le (by rw [HM.out]; omega)
          rw [← H.out, e1, e2, sameL])
        go_wp2
        go_ret
        exact ⟨ret_bool H2.out, HB.out⟩
  · have H2 := Lib.hid (show false = sameL xs ys from (sameL_len xs ys (by rw [HN.out, HM.out]; exact hnm)).symm)
    have t1 : ((n : Int) != (m : Int)) = true := by rw [bne_iff_ne]; omega
    have t2 : ((n : Int) == (m : Int)) = false := by rw [beq_eq_false_iff_ne]; omega
    clear hnm
    go_enter Tryz.func107, Tryz.ntmps107
    go_wp2
    go_ret
    exact ⟨ret_bool H2.out, Below.refl _ _⟩

set_option maxHeartbeats 1000000 in
set_option maxRecDepth 100000 in
theorem same_any (o1 o2 : Option Addr) (c1 c2 : Nat) (xs ys : List Lab) (w : World) (hm : xs.length ≤ maxLen) (hm2 : ys.length ≤ maxLen) (h1 : SeesO w o1 xs) (h2 : SeesO w o2 ys) :
    Calls Tryz.prog 83 #[.slice o1 xs.length c1, .slice o2 ys.length c2] w fun e w' => e = .returned (.bool (sameL xs ys)) ∧ Below w.heap.size w w' := by
  have HC := Lib.hid (equal_any o1 o2 c1 c2 xs ys w hm hm2 h1 h2)
  clear h1 h2 hm hm2
  go_enter Tryz.func83, Tryz.ntmps83
  go_wp2_with (go_at_call 107; refine HC.out.mono ?_; rintro e w' ⟨rfl, hb⟩)
  go_ret
  exact ⟨rfl, hb⟩
end Go.Proofs.YthjifpdiekoomaaGreat
