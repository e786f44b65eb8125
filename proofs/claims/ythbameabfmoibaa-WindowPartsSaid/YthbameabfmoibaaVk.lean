/- The law on a while and its parts. -/
import Derived.Test.YthbameabfmoibaaPnc
import Derived.Test.YthbameabfmoibaaVb
import Derived.Test.YthbameabfmoibaaVh
import Derived.Laws.AppendOwnNone
namespace Go.Proofs.Ythbameabfmoibaa.Win
open Go.RowKit Go.Lib

theorem own_src {w : World} {B g n cap : Nat} {xs : List Pt} (_hn : xs.length = n) (h : w.ownsRow B 26 2 (.slice (some ⟨g, 0, none⟩) n cap) n (Pnt.flatL xs)) : ∀ j u, (Pnt.flatL xs)[j]? = some u → w.cell? ((⟨g, 0, none⟩ : Addr).add j) = some u := by
  intro j u hu
  exact h.cells (g := g) rfl j u hu
/-- A row of the call's own: none, or one in a block of its own. -/
theorem own_shape {w : World} {B n cap : Nat} {o : Option Addr} {xs : List Value} (h : w.ownsRow B 26 2 (.slice o n cap) n xs) : (o = none ∧ cap = 0 ∧ n = 0) ∨ ∃ g, o = some ⟨g, 0, none⟩ := by
  rcases h.2 with ⟨e, h0⟩ | ⟨g, cap', cur, e, _⟩
  · cases e; exact .inl ⟨rfl, rfl, h0⟩
  · cases e; exact .inr ⟨g, rfl⟩

theorem flat_app (xs ys : List Pt) : Pnt.flatL (xs ++ ys) = Pnt.flatL xs ++ Pnt.flatL ys := by simp [Pnt.flatL]
theorem own_open {w : World} {B n : Nat} {v : Value} {xs : List Pt} (hn : xs.length = n) (h : w.ownsRow B 26 2 v n (Pnt.flatL xs)) : ∃ o c, v = .slice o n c ∧ Pnt.SeesO w o xs := by
  subst hn
  obtain ⟨o, c, e, hs, _⟩ := Pnt.own_sees h
  exact ⟨o, c, e, hs⟩

/-- Are these times and whiles as the law wants them? -/
def partsOk (t a b : Int) : Prop := 0 ≤ a ∧ 0 ≤ b ∧ a ≤ 1000000 ∧ b ≤ 1000000 ∧ b ≤ t ∧ t ≤ 1000000000

set_option maxHeartbeats 4000000 in
set_option maxRecDepth 100000 in
theorem parts_bad (o : Option Addr) (cap : Nat) (xs : List Pt) (t a b : Int) (w : World) (hm : xs.length ≤ maxLen) (hS : Pnt.SeesO w o xs) (hb : ¬ (pointsB xs = true ∧ partsOk t a b)) :
    Calls Try.prog 5 #[.slice o xs.length cap, .int .i64 t, .int .i64 a, .int .i64 b] w fun e w' => e = .returned (.bool true) ∧ Below w.heap.size w w' := by
  have HP := Lib.hid (rpoints_any o cap xs w hm hS)
  have HAL := Lib.hid (fun W => alive_any W)
  generalize xs.length = n at HP hm ⊢
  unfold maxLen at hm
  clear hS
  cases hp : pointsB xs with
  | false =>
    rw [hp] at HP
    clear hb hp
    go_enter Try.func5, Try.ntmps5
    go_wp2_with fail
    refine HP.out.mono ?_
    rintro e w1 ⟨rfl, b1⟩
    go_wp2_with fail
    refine (HAL.out _).mono ?_
    rintro e w2 ⟨rfl, b2⟩
    have HB2 := Lib.hid (b1.trans (b2.mono b1.size))
    clear b1 b2
    go_wp2
    go_ret
    exact ⟨rfl, HB2.out⟩
  | true =>
  rw [hp] at HP hb
  have hb : ¬ partsOk t a b := fun h => hb ⟨rfl, h⟩
  unfold partsOk at hb
  by_cases h1 : a < 0
  case' pos => clear hb
  case' neg =>
    by_cases h2 : b < 0
    case' pos => clear hb
    case' neg =>
      by_cases h3 : 1000000 < a
      case' pos => clear hb
      case' neg =>
        by_cases h4 : 1000000 < b
        case' pos => clear hb
        case' neg =>
          by_cases h5 : t < b
          case' pos => clear hb
          case' neg =>
            have h6 : 1000000000 < t := by
              by_cases h6 : t ≤ 1000000000
              · exact absurd ⟨by omega, by omega, by omega, by omega, by omega, h6⟩ hb
              · omega
            clear hb
  all_goals
    clear hp
    go_enter Try.func5, Try.ntmps5
    go_wp2_with fail
    refine HP.out.mono ?_
    rintro e w1 ⟨rfl, b1⟩
    go_wp2_with fail
    refine (HAL.out _).mono ?_
    rintro e w2 ⟨rfl, b2⟩
    have HB2 := Lib.hid (b1.trans (b2.mono b1.size))
    clear b1 b2
    go_wp2
    go_ret
    exact ⟨rfl, HB2.out⟩

set_option maxHeartbeats 8000000 in
set_option maxRecDepth 100000 in
theorem wparts_any (o : Option Addr) (cap : Nat) (xs : List Pt) (t a b : Int) (w : World) (hm : xs.length ≤ maxLen) (hS : Pnt.SeesO w o xs) :
    Calls Try.prog 5 #[.slice o xs.length cap, .int .i64 t, .int .i64 a, .int .i64 b] w fun e w' => e = .returned (.bool true) ∧ Below w.heap.size w w' := by
  by_cases hb : pointsB xs = true ∧ partsOk t a b
  case neg => exact parts_bad o cap xs t a b w hm hS hb
  obtain ⟨hp, g1, g2, g3, g4, g5, g6⟩ := hb
  obtain ⟨i0, hi, hz0, hz1, hz2⟩ := info_parts Pnt.info38
  obtain ⟨X, hX⟩ : ∃ X, ofF xs (t - b) a = X := ⟨_, rfl⟩
  obtain ⟨Y, hY⟩ : ∃ Y, ofF xs t b = Y := ⟨_, rfl⟩
  obtain ⟨mx, hmx⟩ : ∃ m, X.length = m := ⟨_, rfl⟩
  obtain ⟨my, hmy⟩ : ∃ m, Y.length = m := ⟨_, rfl⟩
  have hx25 : mx ≤ 25 := by rw [← hmx, ← hX]; exact of_len _ _ _
  have hy25 : my ≤ 25 := by rw [← hmy, ← hY]; exact of_len _ _ _
  have hZ : ofF xs t (a + b) = X ++ Y := by
    rw [← hX, ← hY, of_good ⟨hp, ⟨by omega, by omega⟩, ⟨by omega, by omega⟩⟩, of_good ⟨hp, ⟨by omega, by omega⟩, ⟨by omega, by omega⟩⟩, of_good ⟨hp, ⟨by omega, by omega⟩, ⟨by omega, by omega⟩⟩]
    rw [win_split ((points_iff xs).1 hp).2.1 (c := t - (a + b)) (d := t - b) (t := t) (by omega) (by omega)]
    rw [show t - b - a = t - (a + b) by omega]
  have hZl : (X ++ Y).length = mx + my := by rw [List.length_append, hmx, hmy]
  have HP := Lib.hid (rpoints_any o cap xs w hm hS)
  rw [hp] at HP
  have HAL := Lib.hid (fun W => alive_any W)
  have HOX := Lib.hid (fun W (h : Below w.heap.size w W) => of_form o cap xs X (t - b) a W rfl hX hmx hm (hS.below h))
  have HOY := Lib.hid (fun W (h : Below w.heap.size w W) => of_form o cap xs Y t b W rfl hY hmy hm (hS.below h))
  have HOZ := Lib.hid (fun W (h : Below w.heap.size w W) => of_form o cap xs (X ++ Y) t (a + b) W rfl hZ hZl hm (hS.below h))
  have HSA := Lib.hid (fun W o1 c1 o2 c2 (h1 : Pnt.SeesO W o1 (X ++ Y)) (h2 : Pnt.SeesO W o2 (X ++ Y)) => (show Calls Try.prog 13 #[.slice o1 (mx + my) c1, .slice o2 (mx + my) c2] W fun e w' => e = .returned (.bool true) ∧ Below W.heap.size W w' from by
    have := Pnt.samePoints_any o1 o2 c1 c2 (X ++ Y) (X ++ Y) W (by rw [hZl]; unfold maxLen; omega) (by rw [hZl]; unfold maxLen; omega) h1 h2
    rw [hZl, Pnt.sameL_refl] at this; exact this))
  have HMX := Lib.hid hmx
  have HMY := Lib.hid hmy
  have HZL := Lib.hid hZl
  generalize xs.length = n at HP HOX HOY HOZ hm ⊢
  unfold maxLen at hm
  clear hS hX hY hZ hp hmx hmy hZl
  go_enter Try.func5, Try.ntmps5
  go_wp2_with fail
  refine HP.out.mono ?_
  rintro e w1 ⟨rfl, b1⟩
  have HB1 := Lib.hid b1
  clear b1
  go_wp2_with fail
  refine (HAL.out _).mono ?_
  rintro e w2 ⟨rfl, b2⟩
  have HB2 := Lib.hid (HB1.out.trans (b2.mono HB1.out.size))
  clear b2
  go_wp2_with fail
  refine (HOX.out _ HB2.out).mono ?_
  rintro e w3 ⟨⟨ox, cx, rfl, hox, _⟩, b3⟩
  have HB3 := Lib.hid (HB2.out.trans (b3.mono HB2.out.size))
  have HOX3 := Lib.hid hox
  clear b3 hox
  go_wp2_with fail
  refine (HOY.out _ HB3.out).mono ?_
  rintro e w4 ⟨⟨oy, cy, rfl, hoy, _⟩, b4⟩
  have HB4 := Lib.hid (HB3.out.trans (b4.mono HB3.out.size))
  have HOX4 := Lib.hid (Pnt.own_grown HOX3.out b4)
  have HOY4 := Lib.hid hoy
  clear b4 hoy
  go_wp2_with fail
  refine (HOZ.out _ HB4.out).mono ?_
  rintro e w5 ⟨⟨oz, cz, rfl, _, hz⟩, b5⟩
  have HB5 := Lib.hid (HB4.out.trans (b5.mono HB4.out.size))
  have hx5 := Pnt.own_grown HOX4.out b5
  have hy5 := Pnt.own_grown HOY4.out b5
  have HX5 := Lib.hid hx5
  have HY5 := Lib.hid hy5
  have HZ5 := Lib.hid hz
  have hxs := own_shape hx5
  have hys := own_shape hy5
  clear b5 hz hx5 hy5
  rcases hxs with ⟨rfl, rfl, hx0⟩ | ⟨gx, rfl⟩
  · subst hx0
    have eX : X = [] := List.eq_nil_of_length_eq_zero HMX.out
    subst eX
    rcases hys with ⟨rfl, rfl, hy0⟩ | ⟨gy, rfl⟩
    · subst hy0
      have eY : Y = [] := List.eq_nil_of_length_eq_zero HMY.out
      subst eY
      go_wp2_with fail
      refine (HSA.out _ _ _ _ _ (.inl rfl) HZ5.out).mono ?_
      rintro e w6 ⟨rfl, b6⟩
      have HB6 := Lib.hid (HB5.out.trans (b6.mono HB5.out.size))
      clear b6
      go_wp2
      go_ret
      exact ⟨rfl, HB6.out⟩
    · simp only [Nat.zero_add] at HSA
      go_wp2_with (at_builtin; first | (refine wpList_append_own_none rfl _ _ 22 rfl w5.heap.size 26 i0 2 Try.underlying22 hi (.slice none 0 0) 0 ([]) rfl (World.ownsRow_nil _ _ _ _) rfl ?_) | (refine wpList_append_own _ rfl _ _ 22 rfl w5.heap.size 26 i0 (.agg #[.int .i64 0, .int .i64 0]) 2 16 Try.underlying22 hi hz0 hz1 hz2 rfl (by decide) (.slice none 0 0) 0 ([]) rfl (World.ownsRow_nil _ _ _ _) ⟨gy, 0, none⟩ my cy (Pnt.flatL Y) rfl (by rw [Pnt.flatL_len, HMY.out]) (own_src HMY.out HY5.out) (Pnt.flatL_cells Y) (by unfold maxLen; omega) (by omega) (Nat.le_refl _) ?_))
      intro v' w6 hown hgrow _
      have HB6 := Lib.hid (Below.grown (Below.refl _ _) hgrow (Nat.le_refl _) (fun j hj => by cases hj) : Below w5.heap.size w5 w6)
      obtain ⟨o6, c6, rfl, hs6⟩ := own_open (xs := Y) (n := my) HMY.out (by simpa using hown)
      have HS6 := Lib.hid hs6
      have HBx := Lib.hid (HB5.out.trans (HB6.out.mono HB5.out.size))
      clear hown hgrow hs6
      go_wp2_with fail
      refine (HSA.out _ _ _ _ _ HS6.out (HZ5.out.below HB6.out)).mono ?_
      rintro e w8 ⟨rfl, b8⟩
      have HB8 := Lib.hid (HBx.out.trans (b8.mono HBx.out.size))
      clear b8
      go_wp2
      go_ret
      exact ⟨rfl, HB8.out⟩
  · rcases hys with ⟨rfl, rfl, hy0⟩ | ⟨gy, rfl⟩
    · subst hy0
      have eY : Y = [] := List.eq_nil_of_length_eq_zero HMY.out
      subst eY
      go_wp2_with (at_builtin; refine wpList_append_own _ rfl _ _ 22 rfl w5.heap.size 26 i0 (.agg #[.int .i64 0, .int .i64 0]) 2 16 Try.underlying22 hi hz0 hz1 hz2 rfl (by decide) (.slice none 0 0) 0 ([]) rfl (World.ownsRow_nil _ _ _ _) ⟨gx, 0, none⟩ mx cx (Pnt.flatL X) rfl (by rw [Pnt.flatL_len, HMX.out]) (own_src HMX.out HX5.out) (Pnt.flatL_cells X) (by unfold maxLen; omega) (by omega) (Nat.le_refl _) ?_)
      intro v' w6 hown hgrow _
      have HB6 := Lib.hid (Below.grown (Below.refl _ _) hgrow (Nat.le_refl _) (fun j hj => by cases hj) : Below w5.heap.size w5 w6)
      obtain ⟨o6, c6, rfl, hs6⟩ := own_open (xs := X) (n := mx) HMX.out (by simpa using hown)
      have HS6 := Lib.hid (show Pnt.SeesO w6 o6 (X ++ []) by rw [List.append_nil]; exact hs6)
      have HBx := Lib.hid (HB5.out.trans (HB6.out.mono HB5.out.size))
      have HO6 := Lib.hid (show w6.ownsRow w5.heap.size 26 2 (.slice o6 mx c6) mx (Pnt.flatL X) by simpa using hown)
      clear hown hgrow hs6
      go_wp2_with (at_builtin; refine wpList_append_own_none rfl _ _ 22 rfl w5.heap.size 26 i0 2 Try.underlying22 hi (.slice o6 mx c6) mx (Pnt.flatL X) rfl HO6.out rfl ?_)
      go_wp2_with fail
      refine (HSA.out _ _ _ _ _ HS6.out (HZ5.out.below HB6.out)).mono ?_
      rintro e w8 ⟨rfl, b8⟩
      have HB8 := Lib.hid (HBx.out.trans (b8.mono HBx.out.size))
      clear b8
      go_wp2
      go_ret
      exact ⟨rfl, HB8.out⟩
    · go_wp2_with (at_builtin; refine wpList_append_own _ rfl _ _ 22 rfl w5.heap.size 26 i0 (.agg #[.int .i64 0, .int .i64 0]) 2 16 Try.underlying22 hi hz0 hz1 hz2 rfl (by decide) (.slice none 0 0) 0 ([]) rfl (World.ownsRow_nil _ _ _ _) ⟨gx, 0, none⟩ mx cx (Pnt.flatL X) rfl (by rw [Pnt.flatL_len, HMX.out]) (own_src HMX.out HX5.out) (Pnt.flatL_cells X) (by unfold maxLen; omega) (by omega) (Nat.le_refl _) ?_)
      intro v' w6 hown hgrow _
      have HB6 := Lib.hid (Below.grown (Below.refl _ _) hgrow (Nat.le_refl _) (fun j hj => by cases hj) : Below w5.heap.size w5 w6)
      have hown2 : w6.ownsRow w5.heap.size 26 2 v' mx (Pnt.flatL X) := by simpa using hown
      have HY6 := Lib.hid (Pnt.own_grown HY5.out HB6.out)
      have HO6 := Lib.hid hown2
      clear hown hgrow hown2
      go_wp2_with (at_builtin; refine wpList_append_own _ rfl _ _ 22 rfl w5.heap.size 26 i0 (.agg #[.int .i64 0, .int .i64 0]) 2 16 Try.underlying22 hi hz0 hz1 hz2 rfl (by decide) v' mx (Pnt.flatL X) rfl (HO6.out) ⟨gy, 0, none⟩ my cy (Pnt.flatL Y) rfl (by rw [Pnt.flatL_len, HMY.out]) (own_src HMY.out HY6.out) (Pnt.flatL_cells Y) (by unfold maxLen; omega) (by omega) (HB6.out.size) ?_)
      intro v2 w7 hown hgrow _
      have HB7 := Lib.hid (Below.grown HB6.out hgrow HB6.out.size (fun j hj => (HO6.out.lt j hj).1) : Below w5.heap.size w5 w7)
      obtain ⟨o7, c7, rfl, hs7⟩ := own_open (xs := X ++ Y) (n := mx + my) HZL.out (by rw [flat_app]; exact hown)
      have HS7 := Lib.hid hs7
      have HBx := Lib.hid (HB5.out.trans (HB7.out.mono HB5.out.size))
      clear hown hgrow hs7
      go_wp2_with fail
      refine (HSA.out _ _ _ _ _ HS7.out (HZ5.out.below HB7.out)).mono ?_
      rintro e w8 ⟨rfl, b8⟩
      have HB8 := Lib.hid (HBx.out.trans (b8.mono HBx.out.size))
      clear b8
      go_wp2
      go_ret
      exact ⟨rfl, HB8.out⟩
end Go.Proofs.Ythbameabfmoibaa.Win
