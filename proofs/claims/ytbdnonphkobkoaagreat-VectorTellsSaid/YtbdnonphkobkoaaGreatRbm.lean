/- Walks: the document's own product. -/
import Derived.Test.YtbdnonphkobkoaaGreatRa
import Derived.Test.YtbdnonphkobkoaaGreatFip
import Derived.Lib.MinMax
namespace Go.Proofs.YtbdnonphkobkoaaGreat.Fix
open Go.RowKit

set_option maxHeartbeats 2000000 in
set_option maxRecDepth 100000 in
theorem rdo_mul {a b : Int} (ha : rgt a) (hb : rgt b) (w : World) : Calls Tryz.prog 49 #[.string ⟨#[42]⟩, .int .i64 a, .int .i64 b] w fun e w' => e = .returned (.tuple #[.int .i64 (withinF (a * b)).1, .int .i64 (withinF (a * b)).2]) ∧ w = w' := by
  have HA := Lib.hid (fun W => value_yes a W ha)
  have HB := Lib.hid (fun W => value_yes b W hb)
  have HO := Lib.hid (fun W => rop_mul W)
  have HC := Lib.hid (fun W => rcomp_mul W)
  rw [← timesF_within]
  by_cases h0 : a = 0
  · subst h0
    have HV := Lib.hid (fun W => value_yes 0 W (by decide))
    have e : timesF 0 b = (0, 0) := by
      unfold timesF; rw [if_neg (by intro h; have := h.2; rw [sizeF_abs 0] at this; rw [sizeF_abs] at this; have := Int.ediv_nonneg (a := 1000000000000) (b := (b.natAbs : Int)) (by omega) (by omega); simp at *; omega)]; simp
    rw [e]
    clear e
    obtain ⟨b1, b2⟩ := hb
    go_enter Tryz.func49, Tryz.ntmps49
    go_wp2_with fail
    refine (HA.out _).mono ?_
    rintro e w' ⟨rfl, rfl⟩
    go_wp2_with fail
    refine (HB.out _).mono ?_
    rintro e w' ⟨rfl, rfl⟩
    go_wp2_with fail
    refine (HO.out _).mono ?_
    rintro e w' ⟨rfl, rfl⟩
    go_wp2_with fail
    refine (HC.out _).mono ?_
    rintro e w' ⟨rfl, rfl⟩
    go_wp2_with fail
    refine (HV.out _).mono ?_
    rintro e w' ⟨rfl, rfl⟩
    go_wp2
    go_ret2
    exact ⟨rfl, rfl⟩
  have t0 : (a != 0) = true := by rw [bne_iff_ne]; exact h0
  by_cases h1 : b = 0
  · subst h1
    have HV := Lib.hid (fun W => value_yes 0 W (by decide))
    have e : timesF a 0 = (0, 0) := by unfold timesF; rw [if_neg (by simp)]; simp
    rw [e]
    clear e h0
    obtain ⟨a1, a2⟩ := ha
    go_enter Tryz.func49, Tryz.ntmps49
    go_wp2_with fail
    refine (HA.out _).mono ?_
    rintro e w' ⟨rfl, rfl⟩
    go_wp2_with fail
    refine (HB.out _).mono ?_
    rintro e w' ⟨rfl, rfl⟩
    go_wp2_with fail
    refine (HO.out _).mono ?_
    rintro e w' ⟨rfl, rfl⟩
    go_wp2_with fail
    refine (HC.out _).mono ?_
    rintro e w' ⟨rfl, rfl⟩
    go_wp2_with fail
    refine (HV.out _).mono ?_
    rintro e w' ⟨rfl, rfl⟩
    go_wp2
    go_ret2
    exact ⟨rfl, rfl⟩
  have t1 : (b != 0) = true := by rw [bne_iff_ne]; exact h1
  have hs : ∀ v : Int, max v (-v) = sizeF v := fun v => by unfold sizeF; split <;> omega
  have p1 : 1 ≤ max b (-b) := by omega
  by_cases hc : 1000000000000 / max b (-b) < max a (-a)
  · have e : timesF a b = (0, 4) := by unfold timesF; rw [if_pos ⟨h1, by rw [← hs, ← hs]; exact hc⟩]
    rw [e]
    have t2 : decide (1000000000000 / max b (-b) < max a (-a)) = true := by simpa using hc
    obtain ⟨a1, a2⟩ := ha
    obtain ⟨b1, b2⟩ := hb
    clear e hs h0 h1
    go_enter Tryz.func49, Tryz.ntmps49
    go_wp2_with fail
    refine (HA.out _).mono ?_
    rintro e w' ⟨rfl, rfl⟩
    go_wp2_with fail
    refine (HB.out _).mono ?_
    rintro e w' ⟨rfl, rfl⟩
    go_wp2_with fail
    refine (HO.out _).mono ?_
    rintro e w' ⟨rfl, rfl⟩
    go_wp2
    go_ret2
    exact ⟨rfl, rfl⟩
  · have hn : ¬ (b ≠ 0 ∧ 1000000000000 / sizeF b < sizeF a) := fun h => hc (by rw [hs, hs]; exact h.2)
    have e : timesF a b = (a * b, 0) := by unfold timesF; rw [if_neg hn]
    rw [e]
    have hr := times_rgt hn
    have HV := Lib.hid (fun W => value_yes (a * b) W hr)
    have t2 : decide (1000000000000 / max b (-b) < max a (-a)) = false := by simpa using hc
    obtain ⟨r1, r2⟩ := hr
    obtain ⟨a1, a2⟩ := ha
    obtain ⟨b1, b2⟩ := hb
    clear e hs h0 h1 hn
    go_enter Tryz.func49, Tryz.ntmps49
    go_wp2_with fail
    refine (HA.out _).mono ?_
    rintro e w' ⟨rfl, rfl⟩
    go_wp2_with fail
    refine (HB.out _).mono ?_
    rintro e w' ⟨rfl, rfl⟩
    go_wp2_with fail
    refine (HO.out _).mono ?_
    rintro e w' ⟨rfl, rfl⟩
    go_wp2_with fail
    refine (HC.out _).mono ?_
    rintro e w' ⟨rfl, rfl⟩
    go_wp2_with fail
    refine (HV.out _).mono ?_
    rintro e w' ⟨rfl, rfl⟩
    go_wp2
    go_ret2
    exact ⟨rfl, rfl⟩
end Go.Proofs.YtbdnonphkobkoaaGreat.Fix
