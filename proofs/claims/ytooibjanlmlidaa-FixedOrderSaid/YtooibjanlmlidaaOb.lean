/- The walk of the law on the six comparisons. -/
import Derived.Test.YtooibjanlmlidaaOa
import Derived.Maps.OwnOps
namespace Go.Proofs.Ytooibjanlmlidaa
open Go.RowKit Go.Maps Go.WideMaps

theorem order_arg (a b : Int) (h : ¬ (rgt a ∧ rgt b)) (w : World) : Calls Try.prog 7 #[.int .i64 a, .int .i64 b] w fun e w' => e = .returned (.bool true) ∧ Below w.heap.size w w' := by
  have HAL := Lib.hid (fun W => alive_any W)
  by_cases ha : rgt a
  · have HA := Lib.hid (fun W => right_yes a W ha)
    have HB := Lib.hid (fun W => right_no b W (fun k => h ⟨ha, k⟩))
    clear ha h
    go_enter Try.func7, Try.ntmps7
    go_wp2_with fail
    refine (HA.out _).mono ?_
    rintro e w' ⟨rfl, rfl⟩
    go_wp2_with fail
    refine (HB.out _).mono ?_
    rintro e w' ⟨rfl, rfl⟩
    go_wp2_with fail
    refine (HAL.out _).mono ?_
    rintro e w1 ⟨rfl, b1⟩
    have HB1 := Lib.hid b1
    clear b1
    go_wp2
    go_ret
    exact ⟨rfl, HB1.out⟩
  · have HA := Lib.hid (fun W => right_no a W ha)
    clear ha h
    go_enter Try.func7, Try.ntmps7
    go_wp2_with fail
    refine (HA.out _).mono ?_
    rintro e w' ⟨rfl, rfl⟩
    go_wp2_with fail
    refine (HAL.out _).mono ?_
    rintro e w1 ⟨rfl, b1⟩
    have HB1 := Lib.hid b1
    clear b1
    go_wp2
    go_ret
    exact ⟨rfl, HB1.out⟩

theorem grown_of_below {w w' : World} (h : Below w.heap.size w w') (r : Option Nat) : w.grownBy w' r := ⟨h.os, h.tape, h.output, h.size, fun k hk _ => h.block k hk⟩
/-- A sign, and its answer. -/
structure SixAt (a b : Int) (p : ByteArray × Int) : Prop where
  size : p.1.size ≤ 2
  low : 0 ≤ p.2
  high : p.2 ≤ 1
  run : ∀ W, Calls Try.prog 10 #[.string p.1, .int .i64 a, .int .i64 b] W fun e w' => e = .returned (.tuple #[.int .i64 p.2, .int .i64 0]) ∧ Below W.heap.size W w'
  comp : ∀ W, Calls Try.prog 12 #[.string p.1] W fun e w' => e = .returned (.bool true) ∧ Below W.heap.size W w'
theorem SixAt.mk' {a b v : Int} {s : ByteArray} (hs : s.size ≤ 2) (h : doF s a b = (v, 0)) (hv : 0 ≤ v ∧ v ≤ 1) (hc : comparesF s = true) : SixAt a b (s, v) :=
  ⟨hs, hv.1, hv.2, do_is hs h, fun W => by have := comp_any s W (two_le hs); rw [hc] at this; exact this⟩
theorem six_cells {w : World} {b : Nat} {t : TypeId} {v0 v1 v2 v3 v4 v5 : Int} (h : w.heap[b]? = some (.cells #[.string ⟨#[61, 61]⟩, .string ⟨#[33, 61]⟩, .string ⟨#[60]⟩, .string ⟨#[60, 61]⟩, .string ⟨#[62]⟩, .string ⟨#[62, 61]⟩] t (0, 0))) {k : Nat} {p : ByteArray × Int} (hp : (six v0 v1 v2 v3 v4 v5)[k]? = some p) : w.cell? ⟨b, k, none⟩ = some (.string p.1) := by
  match k, hp with
  | 0, hp => simp at hp; subst hp; simp [World.cell?, h]
  | 1, hp => simp at hp; subst hp; simp [World.cell?, h]
  | 2, hp => simp at hp; subst hp; simp [World.cell?, h]
  | 3, hp => simp at hp; subst hp; simp [World.cell?, h]
  | 4, hp => simp at hp; subst hp; simp [World.cell?, h]
  | 5, hp => simp at hp; subst hp; simp [World.cell?, h]
  | k + 6, hp => simp at hp

set_option maxHeartbeats 8000000 in
set_option maxRecDepth 100000 in
theorem order_six (a b : Int) (ha : rgt a) (hb : rgt b) (v0 v1 v2 v3 v4 v5 : Int) (HP : Hid (∀ p ∈ six v0 v1 v2 v3 v4 v5, SixAt a b p))
    (r1 : 0 ≤ v0 + v1 ∧ v0 + v1 ≤ 2) (r2 : 0 ≤ v2 + v5 ∧ v2 + v5 ≤ 2) (r3 : 0 ≤ v4 + v3 ∧ v4 + v3 ≤ 2) (r4 : 0 ≤ v2 + v0 ∧ v2 + v0 ≤ 2)
    (t1 : (v0 + v1 == 1) = true) (t2 : (v2 + v5 == 1) = true) (t3 : (v4 + v3 == 1) = true) (t4 : (v3 == v2 + v0) = true) (t5 : (v2 == 1) = decide (a < b)) (w : World) :
    Calls Try.prog 7 #[.int .i64 a, .int .i64 b] w fun e w' => e = .returned (.bool true) ∧ Below w.heap.size w w' := by
  have HAL := Lib.hid (fun W => alive_any W)
  have HA := Lib.hid (fun W => right_yes a W ha)
  have HB := Lib.hid (fun W => right_yes b W hb)
  have HC := Lib.hid (fun W => (comp_any ⟨#[43]⟩ W (two_le (by decide))).mono fun e w' k => (show e = .returned (.bool false) ∧ Below W.heap.size W w' from by
    rw [show comparesF ⟨#[43]⟩ = false by unfold comparesF; rw [sign_add]; decide] at k; exact k))
  obtain ⟨r11, r12⟩ := r1
  obtain ⟨r21, r22⟩ := r2
  obtain ⟨r31, r32⟩ := r3
  obtain ⟨r41, r42⟩ := r4
  clear ha hb
  have hmm := @run_makeMap Try.prog
  go_enter Try.func7, Try.ntmps7
  go_wp2_with fail
  refine (HA.out _).mono ?_
  rintro e w' ⟨rfl, rfl⟩
  go_wp2_with fail
  refine (HB.out _).mono ?_
  rintro e w' ⟨rfl, rfl⟩
  go_wp2_with fail
  refine (HAL.out _).mono ?_
  rintro e w1 ⟨rfl, b1⟩
  have HB1 := Lib.hid b1
  clear b1
  go_wp2
  go_loopw [26] (fun v wr => ∃ k : Nat, v = .int .i64 k ∧ k ≤ 6 ∧ wr.ownsMap Try.prog 9 (plainElem Try.prog 3) w1.heap.size k (mapD ((six v0 v1 v2 v3 v4 v5).take k)) ∧ Hid (wr.heap[w1.heap.size + 1]? = some (.cells #[.string ⟨#[61, 61]⟩, .string ⟨#[33, 61]⟩, .string ⟨#[60]⟩, .string ⟨#[60, 61]⟩, .string ⟨#[62]⟩, .string ⟨#[62, 61]⟩] 9 (0, 0))) ∧ Hid (Below w.heap.size w wr)) (fun v _ => 6 - (intOf v).toNat)
  case atStart =>
    refine ⟨0, rfl, Nat.zero_le _, ?_, ?_, ?_⟩
    · exact (World.ownsMap_made w1 Try.prog 9 (plainElem Try.prog 3)).alloc _
    · exact Lib.hid (show _ = some (Obj.cells _ 9 (0, 0)) by rw [← World.size_alloc w1 (.map #[] 0)]; exact Array.getElem?_push_size)
    · exact Lib.hid ((HB1.out.alloc HB1.out.size _).alloc (by have := HB1.out.size; simp; omega) _)
  case round =>
    obtain ⟨k, rfl, hk, hmap, HS, HBw⟩ := hrel
    by_cases h6 : k < 6
    · obtain ⟨p, hp⟩ : ∃ p, (six v0 v1 v2 v3 v4 v5)[k]? = some p := ⟨_, List.getElem?_eq_getElem (by simpa using h6)⟩
      have c0 := six_cells HS.out hp
      have HQ := Lib.hid (HP.out p (List.mem_of_getElem? hp))
      have HM := Lib.hid (show mapD ((six v0 v1 v2 v3 v4 v5).take (k + 1)) = (mapD ((six v0 v1 v2 v3 v4 v5).take k)).put (.string p.1.data.toList) (.lit (.int .i64 p.2)) by
        rw [← mapD_snoc, List.take_add_one, hp]; rfl)
      have l1 := HQ.out.low
      have l2 := HQ.out.high
      have hkey := Lib.hid (keyOf_string_mk (P := Try.prog) Try.underlying9 (s := p.1) (two_le HQ.out.size))
      have HMAP := Lib.hid hmap
      clear hp hmap
      generalize mapD ((six v0 v1 v2 v3 v4 v5).take k) = D at HMAP HM
      obtain ⟨s, x⟩ := p
      dsimp only at c0 l1 l2 hkey HM
      go_wp2_with fail
      refine (HQ.out.run _).mono ?_
      rintro e w2 ⟨rfl, b2⟩
      have HM2 := Lib.hid (HMAP.out.kept (grown_of_below b2 none) (by simp))
      have HB2 := Lib.hid (HBw.out.trans (b2.mono HBw.out.size))
      have HS2 := Lib.hid ((b2.block _ (Array.getElem?_eq_some_iff.1 HS.out).1).trans HS.out)
      clear b2
      go_wp2_with fail
      refine (HQ.out.comp _).mono ?_
      rintro e w3 ⟨rfl, b3⟩
      have hm3 := HM2.out.kept (grown_of_below b3 none) (by simp)
      have HB3 := Lib.hid (HB2.out.trans (b3.mono HB2.out.size))
      have HS3 := Lib.hid ((b3.block _ (Array.getElem?_eq_some_iff.1 HS2.out).1).trans HS2.out)
      clear b3
      go_wp2_with (at_mapUpdate; refine wpList_mapUpdate_own _ rfl _ _ _ 40 rfl 9 3 (Maps.string_keyed Try.underlying9) Try.underlying40 _ w1.heap.size k _ rfl hm3 (by unfold maxLen; omega) _ _ _ rfl rfl hkey.out _ [] (plainElem_int Try.underlying3 (WalkArith.wf_i64 (by omega))) ?_; intro w4 hm4 hg4)
      have hm5 : w4.ownsMap Try.prog 9 (plainElem Try.prog 3) w1.heap.size (k + 1) (mapD ((six v0 v1 v2 v3 v4 v5).take (k + 1))) := by rw [HM.out]; exact hm4
      have HS4 := Lib.hid ((hg4.block _ (Array.getElem?_eq_some_iff.1 HS3.out).1 (by simp)).trans HS3.out)
      have HB4 := Lib.hid (Below.grown HB3.out hg4 HB3.out.size (fun j hj => by have := Option.some.inj hj; have := HB1.out.size; omega))
      clear hm4 hg4 hm3
      go_roundw
      case rel => exact ⟨k + 1, by go_num, by omega, hm5, HS4, HB4⟩
      case measure => simp [intOf]; omega
    · obtain rfl : k = 6 := by omega
      have hfull : mapD ((six v0 v1 v2 v3 v4 v5).take 6) = mapD (six v0 v1 v2 v3 v4 v5) := rfl
      rw [hfull] at hmap
      have k0 := look_six hmap (s := ⟨#[61, 61]⟩) (by decide) (at0 v0 v1 v2 v3 v4 v5)
      have k1 := look_six hmap (s := ⟨#[33, 61]⟩) (by decide) (at1 v0 v1 v2 v3 v4 v5)
      have k2 := look_six hmap (s := ⟨#[60]⟩) (by decide) (at2 v0 v1 v2 v3 v4 v5)
      have k3 := look_six hmap (s := ⟨#[60, 61]⟩) (by decide) (at3 v0 v1 v2 v3 v4 v5)
      have k4 := look_six hmap (s := ⟨#[62]⟩) (by decide) (at4 v0 v1 v2 v3 v4 v5)
      have k5 := look_six hmap (s := ⟨#[62, 61]⟩) (by decide) (at5 v0 v1 v2 v3 v4 v5)
      clear hmap hfull HP
      by_cases hab : a < b
      · have t6 : decide (a < b) = true := by simpa using hab
        rw [t6] at t5
        go_wp2_with fail
        refine (HC.out _).mono ?_
        rintro e w2 ⟨rfl, b2⟩
        have HB2 := Lib.hid (HBw.out.trans (b2.mono HBw.out.size))
        clear b2
        go_wp2
        go_ret
        exact ⟨by simp, HB2.out⟩
      · have t6 : decide (a < b) = false := by simpa using hab
        rw [t6] at t5
        go_wp2_with fail
        refine (HC.out _).mono ?_
        rintro e w2 ⟨rfl, b2⟩
        have HB2 := Lib.hid (HBw.out.trans (b2.mono HBw.out.size))
        clear b2
        go_wp2
        go_ret
        exact ⟨by simp, HB2.out⟩
end Go.Proofs.Ytooibjanlmlidaa
