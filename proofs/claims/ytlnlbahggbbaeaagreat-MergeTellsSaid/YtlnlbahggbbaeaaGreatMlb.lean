/- Walks: which row comes first. -/
import Derived.Test.YtlnlbahggbbaeaaGreatHb
import Derived.Test.YtlnlbahggbbaeaaGreatGk
namespace Go.Proofs.YtlnlbahggbbaeaaGreat.Mrg
open Go.RowKit Go.Lib Go.Proofs.YtlnlbahggbbaeaaGreat Go.Proofs.YtlnlbahggbbaeaaGreat.Vec Go.Proofs.YtlnlbahggbbaeaaGreat.Stb

def cmpI (a b : Int) : Int := if a < b then -1 else if b < a then 1 else 0
theorem nan_any (v : Int) (w : World) : Calls Tryz.prog 103 #[.int .i64 v] w fun e w' => e = .returned (.bool false) ∧ w' = w := by
  go_enter Tryz.func103, Tryz.ntmps103
  go_wp2
  go_ret
  simp
set_option maxHeartbeats 1000000 in
set_option maxRecDepth 100000 in
theorem cmpI_any (a b : Int) (w : World) : Calls Tryz.prog 99 #[.int .i64 a, .int .i64 b] w fun e w' => e = .returned (.int .i64 (cmpI a b)) ∧ w' = w := by
  have HE := Lib.hid (show cmpI a b = if a < b then -1 else if b < a then 1 else 0 from rfl)
  have HN := Lib.hid (fun v W => nan_any v W)
  by_cases h1 : a < b
  · rw [if_pos h1] at HE
    go_enter Tryz.func99, Tryz.ntmps99
    go_wp2_with fail
    refine (HN.out _ _).mono ?_
    rintro e w1 ⟨rfl, rfl⟩
    go_wp2_with fail
    refine (HN.out _ _).mono ?_
    rintro e w1 ⟨rfl, rfl⟩
    go_wp2
    go_ret
    rw [HE.out]; exact ⟨rfl, rfl⟩
  · rw [if_neg h1] at HE
    have j1 : b ≤ a := by omega
    by_cases h2 : b < a
    · rw [if_pos h2] at HE
      clear h1
      go_enter Tryz.func99, Tryz.ntmps99
      go_wp2_with fail
      refine (HN.out _ _).mono ?_
      rintro e w1 ⟨rfl, rfl⟩
      go_wp2_with fail
      refine (HN.out _ _).mono ?_
      rintro e w1 ⟨rfl, rfl⟩
      go_wp2
      go_ret
      rw [HE.out]; exact ⟨rfl, rfl⟩
    · rw [if_neg h2] at HE
      have j2 : a ≤ b := by omega
      clear h1 h2
      go_enter Tryz.func99, Tryz.ntmps99
      go_wp2_with fail
      refine (HN.out _ _).mono ?_
      rintro e w1 ⟨rfl, rfl⟩
      go_wp2_with fail
      refine (HN.out _ _).mono ?_
      rintro e w1 ⟨rfl, rfl⟩
      go_wp2
      go_ret
      rw [HE.out]; exact ⟨rfl, rfl⟩

/-- Which of two rows comes first, as a number. -/
def cmpQ (by_ : Int) (x y : Rw) : Int :=
  if by_ = 1 then (if cmpI x.2 y.2 = 0 then cmpL x.1 y.1 else cmpI x.2 y.2) else if by_ = 2 then (if cmpI y.2 x.2 = 0 then cmpL x.1 y.1 else cmpI y.2 x.2) else cmpL x.1 y.1
theorem cmpQ_less (by_ : Int) (x y : Rw) : decide (cmpQ by_ x y < 0) = lessR by_ x y := by
  unfold cmpQ lessR cmpI
  by_cases h1 : by_ = 1
  · subst h1
    by_cases h2 : x.2 < y.2
    · simp [h2, show x.2 ≠ y.2 by omega]
    · by_cases h3 : y.2 < x.2
      · simp [h2, h3, show x.2 ≠ y.2 by omega]
      · simp [show x.2 = y.2 by omega]
  · by_cases h2 : by_ = 2
    · subst h2
      by_cases h2 : y.2 < x.2
      · simp [h2, show x.2 ≠ y.2 by omega]
      · by_cases h3 : x.2 < y.2
        · simp [h2, h3, show x.2 ≠ y.2 by omega]
        · simp [show x.2 = y.2 by omega]
    · simp [h1, h2]

set_option maxHeartbeats 2000000 in
set_option maxRecDepth 100000 in
theorem cmpQ_any (by_ : Int) (o1 o2 : Option Addr) (n1 c1 n2 c2 : Nat) (x y : Rw) (w : World) (e1 : x.1.length = n1) (e2 : y.1.length = n2) (hm1 : x.1.length ≤ maxLen) (hm2 : y.1.length ≤ maxLen) (h1 : Go.Proofs.YtlnlbahggbbaeaaGreat.SeesO w o1 x.1) (h2 : Go.Proofs.YtlnlbahggbbaeaaGreat.SeesO w o2 y.1) :
    Calls Tryz.prog 78 #[.int .i64 by_, .agg #[.slice o1 n1 c1, .int .i64 x.2], .agg #[.slice o2 n2 c2, .int .i64 y.2]] w fun e w' => e = .returned (.int .i64 (cmpQ by_ x y)) ∧ Below w.heap.size w w' := by
  obtain ⟨u, hu⟩ : ∃ u, x.2 = u := ⟨_, rfl⟩
  obtain ⟨v, hv⟩ : ∃ v, y.2 = v := ⟨_, rfl⟩
  have HE := Lib.hid (show cmpQ by_ x y = if by_ = 1 then (if cmpI u v = 0 then cmpL x.1 y.1 else cmpI u v) else if by_ = 2 then (if cmpI v u = 0 then cmpL x.1 y.1 else cmpI v u) else cmpL x.1 y.1 by rw [← hu, ← hv]; rfl)
  have HI := Lib.hid (fun a b W => cmpI_any a b W)
  have HB0 := Lib.hid (below_box (below_box (Below.refl w.heap.size w) (.slice o1 n1 c1) (.int .i64 u) 51) (.slice o2 n2 c2) (.int .i64 v) 51)
  have b0 := box2 w (.slice o1 n1 c1) (.int .i64 u) 51 ((w.alloc (.cells #[.slice o1 n1 c1, .int .i64 u] 51)).alloc (.cells #[.slice o2 n2 c2, .int .i64 v] 51)) ((Below.refl _ _).alloc (Nat.le_refl _) _)
  have b1 := box2 (w.alloc (.cells #[.slice o1 n1 c1, .int .i64 u] 51)) (.slice o2 n2 c2) (.int .i64 v) 51 _ (Below.refl _ _)
  obtain ⟨w2, hw2⟩ : ∃ w2, (w.alloc (.cells #[.slice o1 n1 c1, .int .i64 u] 51)).alloc (.cells #[.slice o2 n2 c2, .int .i64 v] 51) = w2 := ⟨_, rfl⟩
  rw [hw2] at HB0 b0 b1
  rw [World.size_alloc] at b1
  have HC : Hid (∀ W, Below w.heap.size w W → Calls Tryz.prog 100 #[.slice o1 n1 c1, .slice o2 n2 c2] W fun e w' => e = .returned (.int .i64 (cmpL x.1 y.1)) ∧ Below W.heap.size W w') := Lib.hid (fun W hb => by
    rw [← e1, ← e2]; exact compare_any o1 o2 c1 c2 x.1 y.1 W hm1 hm2 (h1.below hb) (h2.below hb))
  have HW := Lib.hid hw2
  obtain ⟨z, hz⟩ : ∃ z, cmpL x.1 y.1 = z := ⟨_, rfl⟩
  rw [hz] at HC HE
  rw [hu, hv]
  obtain ⟨r, hr⟩ : ∃ r, cmpQ by_ x y = r := ⟨_, rfl⟩
  rw [hr] at HE ⊢
  have b00 := b0.1
  have b01 := b0.2
  have b10 := b1.1
  have b11 := b1.2
  clear hw2 hz hr hu hv e1 e2 hm1 hm2 h1 h2 b0 b1
  by_cases k1 : by_ = 1
  · subst k1
    rw [if_pos rfl] at HE
    obtain ⟨p, hp⟩ : ∃ p, cmpI u v = p := ⟨_, rfl⟩
    rw [hp] at HE
    go_enter Tryz.func78, Tryz.ntmps78
    go_wp2_with fail
    rw [HW.out]
    go_wp2_with fail
    refine (HI.out _ _ _).mono ?_
    rw [hp]
    rintro e w1 ⟨rfl, rfl⟩
    by_cases k2 : p = 0
    · rw [if_pos k2] at HE
      subst k2
      clear hp
      go_wp2_with fail
      refine (HC.out _ HB0.out).mono ?_
      rintro e w3 ⟨rfl, b3⟩
      have HB3 := Lib.hid (HB0.out.trans (b3.mono HB0.out.size))
      clear b3
      go_wp2
      go_ret
      exact ⟨by rw [HE.out]; rfl, HB3.out⟩
    · rw [if_neg k2] at HE
      go_wp2
      go_ret
      exact ⟨by rw [HE.out]; rfl, HB0.out⟩
  · by_cases k2 : by_ = 2
    · subst k2
      rw [if_neg k1, if_pos rfl] at HE
      clear k1
      obtain ⟨p, hp⟩ : ∃ p, cmpI v u = p := ⟨_, rfl⟩
      rw [hp] at HE
      go_enter Tryz.func78, Tryz.ntmps78
      go_wp2_with fail
      rw [HW.out]
      go_wp2_with fail
      refine (HI.out _ _ _).mono ?_
      rw [hp]
      rintro e w1 ⟨rfl, rfl⟩
      by_cases k2 : p = 0
      · rw [if_pos k2] at HE
        subst k2
        clear hp
        go_wp2_with fail
        refine (HC.out _ HB0.out).mono ?_
        rintro e w3 ⟨rfl, b3⟩
        have HB3 := Lib.hid (HB0.out.trans (b3.mono HB0.out.size))
        clear b3
        go_wp2
        go_ret
        exact ⟨by rw [HE.out]; rfl, HB3.out⟩
      · rw [if_neg k2] at HE
        go_wp2
        go_ret
        exact ⟨by rw [HE.out]; rfl, HB0.out⟩
    · rw [if_neg k1, if_neg k2] at HE
      go_enter Tryz.func78, Tryz.ntmps78
      go_wp2_with fail
      rw [HW.out]
      refine (HC.out _ HB0.out).mono ?_
      rintro e w3 ⟨rfl, b3⟩
      have HB3 := Lib.hid (HB0.out.trans (b3.mono HB0.out.size))
      clear b3
      go_wp2
      go_ret
      exact ⟨by rw [HE.out]; rfl, HB3.out⟩

set_option maxHeartbeats 2000000 in
set_option maxRecDepth 100000 in
theorem less_any (by_ : Int) (o1 o2 : Option Addr) (n1 c1 n2 c2 : Nat) (x y : Rw) (w : World) (e1 : x.1.length = n1) (e2 : y.1.length = n2) (hm1 : x.1.length ≤ maxLen) (hm2 : y.1.length ≤ maxLen) (h1 : Go.Proofs.YtlnlbahggbbaeaaGreat.SeesO w o1 x.1) (h2 : Go.Proofs.YtlnlbahggbbaeaaGreat.SeesO w o2 y.1) :
    Calls Tryz.prog 27 #[.int .i64 by_, .agg #[.slice o1 n1 c1, .int .i64 x.2], .agg #[.slice o2 n2 c2, .int .i64 y.2]] w fun e w' => e = .returned (.bool (lessR by_ x y)) ∧ Below w.heap.size w w' := by
  have HB0 := Lib.hid (below_box (below_box (Below.refl w.heap.size w) (.slice o1 n1 c1) (.int .i64 x.2) 51) (.slice o2 n2 c2) (.int .i64 y.2) 51)
  have b0 := box2 w (.slice o1 n1 c1) (.int .i64 x.2) 51 ((w.alloc (.cells #[.slice o1 n1 c1, .int .i64 x.2] 51)).alloc (.cells #[.slice o2 n2 c2, .int .i64 y.2] 51)) ((Below.refl _ _).alloc (Nat.le_refl _) _)
  have b1 := box2 (w.alloc (.cells #[.slice o1 n1 c1, .int .i64 x.2] 51)) (.slice o2 n2 c2) (.int .i64 y.2) 51 _ (Below.refl _ _)
  obtain ⟨w2, hw2⟩ : ∃ w2, (w.alloc (.cells #[.slice o1 n1 c1, .int .i64 x.2] 51)).alloc (.cells #[.slice o2 n2 c2, .int .i64 y.2] 51) = w2 := ⟨_, rfl⟩
  rw [hw2] at HB0 b0 b1
  rw [World.size_alloc] at b1
  have HC := Lib.hid (fun (W : World) (hb : Below w.heap.size w W) => cmpQ_any by_ o1 o2 n1 c1 n2 c2 x y W e1 e2 hm1 hm2 (h1.below hb) (h2.below hb))
  rw [← cmpQ_less]
  obtain ⟨z, hz⟩ : ∃ z, cmpQ by_ x y = z := ⟨_, rfl⟩
  rw [hz] at HC ⊢
  have b00 := b0.1
  have b01 := b0.2
  have b10 := b1.1
  have b11 := b1.2
  have HW := Lib.hid hw2
  obtain ⟨u, hu⟩ : ∃ u, x.2 = u := ⟨_, rfl⟩
  obtain ⟨v, hv⟩ : ∃ v, y.2 = v := ⟨_, rfl⟩
  rw [hu, hv] at HC HW
  rw [hu] at b01 ⊢
  rw [hv] at b11 ⊢
  clear hw2 hz hu hv e1 e2 hm1 hm2 h1 h2 b0 b1
  go_enter Tryz.func27, Tryz.ntmps27
  go_wp2_with fail
  rw [HW.out]
  go_wp2_with fail
  refine (HC.out _ HB0.out).mono ?_
  rintro e w3 ⟨rfl, b3⟩
  have HB3 := Lib.hid (HB0.out.trans (b3.mono HB0.out.size))
  clear b3
  go_wp2
  go_ret
  exact ⟨rfl, HB3.out⟩
end Go.Proofs.YtlnlbahggbbaeaaGreat.Mrg
