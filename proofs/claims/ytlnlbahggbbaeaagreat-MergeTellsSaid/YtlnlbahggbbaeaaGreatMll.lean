/- The document's order of rows: the walk. -/
import Derived.Test.YtlnlbahggbbaeaaGreatMlb
import Derived.Test.YtlnlbahggbbaeaaGreatGk
namespace Go.Proofs.YtlnlbahggbbaeaaGreat.Mrg
open Go.RowKit Go.Lib Go.Proofs.YtlnlbahggbbaeaaGreat Go.Proofs.YtlnlbahggbbaeaaGreat.Vec Go.Proofs.YtlnlbahggbbaeaaGreat.Stb

set_option maxHeartbeats 4000000 in
set_option maxRecDepth 100000 in
theorem rless_any (by_ : Int) (o1 o2 : Option Addr) (n1 c1 n2 c2 : Nat) (x y : Rw) (w : World) (e1 : x.1.length = n1) (e2 : y.1.length = n2) (hm1 : x.1.length ≤ maxLen) (hm2 : y.1.length ≤ maxLen) (h1 : Go.Proofs.YtlnlbahggbbaeaaGreat.SeesO w o1 x.1) (h2 : Go.Proofs.YtlnlbahggbbaeaaGreat.SeesO w o2 y.1) :
    Calls Tryz.prog 15 #[.int .i64 by_, .agg #[.slice o1 n1 c1, .int .i64 x.2], .agg #[.slice o2 n2 c2, .int .i64 y.2]] w fun e w' => e = .returned (.bool (lessR by_ x y)) ∧ Below w.heap.size w w' := by
  obtain ⟨u, hu⟩ : ∃ u, x.2 = u := ⟨_, rfl⟩
  obtain ⟨v, hv⟩ : ∃ v, y.2 = v := ⟨_, rfl⟩
  have HE := Lib.hid (show lessR by_ x y = if by_ = 1 ∧ u ≠ v then decide (u < v) else if by_ = 2 ∧ u ≠ v then decide (v < u) else decide (cmpL x.1 y.1 < 0) by rw [← hu, ← hv]; rfl)
  have HB0 := Lib.hid (below_box (below_box (Below.refl w.heap.size w) (.slice o1 n1 c1) (.int .i64 u) 51) (.slice o2 n2 c2) (.int .i64 v) 51)
  have b0 := box2 w (.slice o1 n1 c1) (.int .i64 u) 51 ((w.alloc (.cells #[.slice o1 n1 c1, .int .i64 u] 51)).alloc (.cells #[.slice o2 n2 c2, .int .i64 v] 51)) ((Below.refl _ _).alloc (Nat.le_refl _) _)
  have b1 := box2 (w.alloc (.cells #[.slice o1 n1 c1, .int .i64 u] 51)) (.slice o2 n2 c2) (.int .i64 v) 51 _ (Below.refl _ _)
  obtain ⟨w2, hw2⟩ : ∃ w2, (w.alloc (.cells #[.slice o1 n1 c1, .int .i64 u] 51)).alloc (.cells #[.slice o2 n2 c2, .int .i64 v] 51) = w2 := ⟨_, rfl⟩
  rw [hw2] at HB0 b0 b1
  rw [World.size_alloc] at b1
  have HC : Hid (∀ W, Below w.heap.size w W → Calls Tryz.prog 26 #[.slice o1 n1 c1, .slice o2 n2 c2] W fun e w' => e = .returned (.int .i64 (cmpL x.1 y.1)) ∧ Below W.heap.size W w') := Lib.hid (fun W hb => by
    rw [← e1, ← e2]; exact rcompare_any o1 o2 c1 c2 x.1 y.1 W hm1 hm2 (h1.below hb) (h2.below hb))
  have HW := Lib.hid hw2
  obtain ⟨z, hz⟩ : ∃ z, cmpL x.1 y.1 = z := ⟨_, rfl⟩
  rw [hz] at HC HE
  rw [hu, hv]
  obtain ⟨r, hr⟩ : ∃ r, lessR by_ x y = r := ⟨_, rfl⟩
  rw [hr] at HE ⊢
  have b00 := b0.1
  have b01 := b0.2
  have b10 := b1.1
  have b11 := b1.2
  clear hw2 hz hr hu hv e1 e2 hm1 hm2 h1 h2 b0 b1
  by_cases k1 : by_ = 1
  · subst k1
    by_cases k2 : u = v
    · subst k2
      rw [if_neg (by simp), if_neg (by simp)] at HE
      go_enter Tryz.func15, Tryz.ntmps15
      go_wp2_with fail
      rw [HW.out]
      go_wp2_with fail
      refine (HC.out _ HB0.out).mono ?_
      rintro e w3 ⟨rfl, b3⟩
      have HB3 := Lib.hid (HB0.out.trans (b3.mono HB0.out.size))
      clear b3
      go_wp2
      go_ret
      exact ⟨by rw [HE.out]; rfl, HB3.out⟩
    · rw [if_pos ⟨rfl, k2⟩] at HE
      have k3 : (u != v) = true := by simpa using k2
      go_enter Tryz.func15, Tryz.ntmps15
      go_wp2_with fail
      rw [HW.out]
      go_wp2
      go_ret
      exact ⟨by rw [HE.out]; rfl, HB0.out⟩
  · by_cases k4 : by_ = 2
    · subst k4
      clear k1
      by_cases k2 : u = v
      · subst k2
        rw [if_neg (by simp), if_neg (by simp)] at HE
        go_enter Tryz.func15, Tryz.ntmps15
        go_wp2_with fail
        rw [HW.out]
        go_wp2_with fail
        refine (HC.out _ HB0.out).mono ?_
        rintro e w3 ⟨rfl, b3⟩
        have HB3 := Lib.hid (HB0.out.trans (b3.mono HB0.out.size))
        clear b3
        go_wp2
        go_ret
        exact ⟨by rw [HE.out]; rfl, HB3.out⟩
      · rw [if_neg (by simp), if_pos ⟨rfl, k2⟩] at HE
        have k3 : (u != v) = true := by simpa using k2
        go_enter Tryz.func15, Tryz.ntmps15
        go_wp2_with fail
        rw [HW.out]
        go_wp2
        go_ret
        exact ⟨by rw [HE.out]; rfl, HB0.out⟩
    · rw [if_neg (fun h => k1 h.1), if_neg (fun h => k4 h.1)] at HE
      go_enter Tryz.func15, Tryz.ntmps15
      go_wp2_with fail
      rw [HW.out]
      go_wp2_with fail
      refine (HC.out _ HB0.out).mono ?_
      rintro e w3 ⟨rfl, b3⟩
      have HB3 := Lib.hid (HB0.out.trans (b3.mono HB0.out.size))
      clear b3
      go_wp2
      go_ret
      exact ⟨by rw [HE.out]; rfl, HB3.out⟩
end Go.Proofs.YtlnlbahggbbaeaaGreat.Mrg
