/- The walk of the law on two numbers and a sign. -/
import Derived.Test.YtooibjanlmlidaaRb
namespace Go.Proofs.Ytooibjanlmlidaa
open Go.RowKit

set_option maxHeartbeats 4000000 in
set_option maxRecDepth 100000 in
theorem tells_any (s : ByteArray) (a b : Int) (w : World) : Calls Try.prog 3 #[.string s, .int .i64 a, .int .i64 b] w fun e w' => e = .returned (.bool true) ∧ Below w.heap.size w w' := by
  have HAL := Lib.hid (fun W => alive_any W)
  by_cases h : 20 < s.size
  · have t1 : decide ((20 : Int) < s.size) = true := by simp; omega
    have i1 : (20 : Int) < s.size := by omega
    clear h
    go_enter Try.func3, Try.ntmps3
    go_wp2_with fail
    refine (HAL.out _).mono ?_
    rintro e w1 ⟨rfl, b1⟩
    have HB1 := Lib.hid b1
    clear b1
    go_wp2
    go_ret
    exact ⟨rfl, HB1.out⟩
  have t1 : decide ((20 : Int) < s.size) = false := by simp; omega
  have i1 : (s.size : Int) ≤ 20 := by omega
  have hs : s.size ≤ maxLen := by unfold maxLen; omega
  obtain ⟨x, y, hxy⟩ : ∃ x y : Int, doF s a b = (x, y) := ⟨_, _, rfl⟩
  have H1 := Lib.hid (fun W => (do_any s a b W hs).mono fun e w' k => (show e = .returned (.tuple #[.int .i64 x, .int .i64 y]) ∧ Below W.heap.size W w' from by rw [hxy] at k; exact k))
  have H2 := Lib.hid (fun W => (rdo_any s a b W).mono fun e w' k => (show e = .returned (.tuple #[.int .i64 x, .int .i64 y]) ∧ W = w' from by rw [hxy] at k; exact k))
  have H3 := Lib.hid (fun W => comp_any s W hs)
  have H4 := Lib.hid (fun W => rcomp_any s W)
  have H5 := Lib.hid (fun W => right_any a W)
  have H6 := Lib.hid (fun W => value_any a W)
  clear hxy h hs
  generalize comparesF s = c at H3 H4
  generalize rgtB a = d at H5 H6
  cases c
  all_goals
    cases d
    all_goals
      go_enter Try.func3, Try.ntmps3
      go_wp2_with fail
      refine (HAL.out _).mono ?_
      rintro e w1 ⟨rfl, b1⟩
      have HB1 := Lib.hid b1
      clear b1
      go_wp2_with fail
      refine (H1.out _).mono ?_
      rintro e w2 ⟨rfl, b2⟩
      have HB2 := Lib.hid (HB1.out.trans (b2.mono HB1.out.size))
      clear b2
      go_wp2_with fail
      refine (H2.out _).mono ?_
      rintro e w' ⟨rfl, rfl⟩
      go_wp2_with fail
      refine (H3.out _).mono ?_
      rintro e w3 ⟨rfl, b3⟩
      have HB3 := Lib.hid (HB2.out.trans (b3.mono HB2.out.size))
      clear b3
      go_wp2_with fail
      refine (H4.out _).mono ?_
      rintro e w' ⟨rfl, rfl⟩
      go_wp2_with fail
      refine (H5.out _).mono ?_
      rintro e w' ⟨rfl, rfl⟩
      go_wp2_with fail
      refine (H6.out _).mono ?_
      rintro e w' ⟨rfl, rfl⟩
      go_wp2
      go_ret
      exact ⟨by simp, HB3.out⟩
end Go.Proofs.Ytooibjanlmlidaa
