/- The law on whiles that end later, or are longer. -/
import Derived.Test.YthbameabfmoibaaVk
namespace Go.Proofs.Ythbameabfmoibaa.Win
open Go.RowKit Go.Lib

/-- Are these times and whiles as the law wants them? -/
def movesOk (t a b : Int) : Prop := 0 ≤ t ∧ t ≤ 1000000000 ∧ 0 ≤ a ∧ 0 ≤ b ∧ a ≤ 500000000 ∧ b ≤ 500000000

set_option maxHeartbeats 4000000 in
set_option maxRecDepth 100000 in
theorem moves_bad (o : Option Addr) (cap : Nat) (xs : List Pt) (t a b : Int) (w : World) (hm : xs.length ≤ maxLen) (hS : Pnt.SeesO w o xs) (hb : ¬ (pointsB xs = true ∧ movesOk t a b)) :
    Calls Try.prog 4 #[.slice o xs.length cap, .int .i64 t, .int .i64 a, .int .i64 b] w fun e w' => e = .returned (.bool true) ∧ Below w.heap.size w w' := by
  have HP := Lib.hid (rpoints_any o cap xs w hm hS)
  have HAL := Lib.hid (fun W => alive_any W)
  generalize xs.length = n at HP hm ⊢
  unfold maxLen at hm
  clear hS
  cases hp : pointsB xs with
  | false =>
    rw [hp] at HP
    clear hb hp
    go_enter Try.func4, Try.ntmps4
    go_wp2_with fail
    refine HP.out.mono ?_
    rintro e w1 ⟨rfl, b1⟩
    go_wp2_with fail
    refine (HAL.out _).mono ?_
    rintro e w2 ⟨rfl, b2⟩
    have HB2 := Lib.hid (b1.trans (b2.mono b1.size))
    clear b1 b2
    go_wp2
    go_ret
    exact ⟨rfl, HB2.out⟩
  | true =>
  rw [hp] at HP hb
  have hb : ¬ movesOk t a b := fun h => hb ⟨rfl, h⟩
  unfold movesOk at hb
  by_cases h1 : t < 0
  case' pos => clear hb
  case' neg =>
    by_cases h2 : 1000000000 < t
    case' pos => clear hb
    case' neg =>
      by_cases h3 : a < 0
      case' pos => clear hb
      case' neg =>
        by_cases h4 : b < 0
        case' pos => clear hb
        case' neg =>
          by_cases h5 : 500000000 < a
          case' pos => clear hb
          case' neg =>
            have h6 : 500000000 < b := by
              by_cases h6 : b ≤ 500000000
              · exact absurd ⟨by omega, by omega, by omega, by omega, by omega, h6⟩ hb
              · omega
            clear hb
  all_goals
    clear hp
    go_enter Try.func4, Try.ntmps4
    go_wp2_with fail
    refine HP.out.mono ?_
    rintro e w1 ⟨rfl, b1⟩
    go_wp2_with fail
    refine (HAL.out _).mono ?_
    rintro e w2 ⟨rfl, b2⟩
    have HB2 := Lib.hid (b1.trans (b2.mono b1.size))
    clear b1 b2
    go_wp2
    go_ret
    exact ⟨rfl, HB2.out⟩

theorem own_room {w : World} {B n cap : Nat} {o : Option Addr} {xs : List Value} (h : w.ownsRow B 26 2 (.slice o n cap) n xs) : n ≤ cap ∧ cap ≤ maxLen := by
  rcases h.2 with ⟨e, h0⟩ | ⟨g, cap', cur, e, _, _, hn, hc, _, _⟩
  · cases e; exact ⟨Nat.le_refl _, Nat.zero_le _⟩
  · cases e; exact ⟨hn, hc⟩
def posP (x : Pt) : Bool := decide (0 < x.1)
theorem all_pos {xs : List Pt} (hp : pointsB xs = true) : ofF xs 1000000000 1000000000 = xs.filter posP := by
  rw [of_good ⟨hp, by decide, by decide⟩]
  refine List.filter_congr fun x hx => ?_
  have ht := (((points_iff xs).1 hp).2.2 x hx).1
  unfold inW posP
  rw [decide_eq_true (p := x.1 ≤ 1000000000) ht.2, Bool.and_true]
  rfl
theorem pos_step {xs : List Pt} {k : Nat} {x : Pt} (hx : xs[k]? = some x) : ((xs.take (k + 1)).filter posP).length = ((xs.take k).filter posP).length + (if 0 < x.1 then 1 else 0) := by
  rw [List.take_add_one, hx, List.filter_append, List.length_append]
  congr 1
  show ([x].filter posP).length = _
  unfold posP
  by_cases h : 0 < x.1 <;> simp [h]
theorem tail_sees {w : World} {B g mb cap : Nat} {Y X : List Pt} (h : w.ownsRow B 26 2 (.slice (some ⟨g, 0, none⟩) mb cap) mb (Pnt.flatL Y)) (hl : Y.length = mb) {kk : Nat} (hd : Y.drop kk = X) : Pnt.SeesO w (some ⟨g, kk * 2, none⟩) X := by
  subst hl
  obtain ⟨o, c, e, hs, _⟩ := Pnt.own_sees h
  cases e
  rcases hs with rfl | ⟨b, off, e, hs⟩
  · subst hd; exact .inl (by simp)
  · cases e
    refine .inr ⟨g, kk * 2, rfl, hs.low, fun j x hx => ?_, fun j x hx => ?_⟩
    · rw [← hd, List.getElem?_drop] at hx
      have := hs.at0 _ x hx
      rw [show kk * 2 + j * 2 = 0 + (kk + j) * 2 by omega]; exact this
    · rw [← hd, List.getElem?_drop] at hx
      have := hs.at1 _ x hx
      rw [show kk * 2 + j * 2 + 1 = 0 + (kk + j) * 2 + 1 by omega]; exact this

set_option maxHeartbeats 8000000 in
set_option maxRecDepth 100000 in
theorem wmoves_any (o : Option Addr) (cap : Nat) (xs : List Pt) (t a b : Int) (w : World) (hm : xs.length ≤ maxLen) (hS : Pnt.SeesO w o xs) :
    Calls Try.prog 4 #[.slice o xs.length cap, .int .i64 t, .int .i64 a, .int .i64 b] w fun e w' => e = .returned (.bool true) ∧ Below w.heap.size w w' := by
  by_cases hb : pointsB xs = true ∧ movesOk t a b
  case neg => exact moves_bad o cap xs t a b w hm hS hb
  obtain ⟨hp, g1, g2, g3, g4, g5, g6⟩ := hb
  obtain ⟨X, hX⟩ : ∃ X, ofF xs t a = X := ⟨_, rfl⟩
  obtain ⟨Y, hY⟩ : ∃ Y, ofF xs t (a + b) = Y := ⟨_, rfl⟩
  have htail : X.length ≤ Y.length ∧ Y.drop (Y.length - X.length) = X := by
    rw [← hX, ← hY, of_good ⟨hp, ⟨by omega, by omega⟩, ⟨by omega, by omega⟩⟩, of_good ⟨hp, ⟨by omega, by omega⟩, ⟨by omega, by omega⟩⟩]
    exact win_tail ((points_iff xs).1 hp).2.1 (by omega) (by omega)
  obtain ⟨ma, hma⟩ : ∃ m, X.length = m := ⟨_, rfl⟩
  obtain ⟨kk, hkk⟩ : ∃ k, Y.length = ma + k := ⟨Y.length - ma, by omega⟩
  have hdrop : Y.drop kk = X := by
    have := htail.2
    rw [hkk, hma, Nat.add_sub_cancel_left] at this; exact this
  have hx25 : ma ≤ 25 := by rw [← hma, ← hX]; exact of_len _ _ _
  have hy25 : ma + kk ≤ 25 := by rw [← hkk, ← hY]; exact of_len _ _ _
  have hn25 : xs.length ≤ 25 := ((points_iff xs).1 hp).1
  have HP := Lib.hid (rpoints_any o cap xs w hm hS)
  rw [hp] at HP
  have HAL := Lib.hid (fun W => alive_any W)
  have HOX := Lib.hid (fun W (h : Below w.heap.size w W) => of_form o cap xs X t a W rfl hX hma hm (hS.below h))
  have HOY := Lib.hid (fun W (h : Below w.heap.size w W) => of_form o cap xs Y t (a + b) W rfl hY hkk hm (hS.below h))
  obtain ⟨q, hq⟩ : ∃ q, (xs.filter posP).length = q := ⟨_, rfl⟩
  have HOZ := Lib.hid (fun W (h : Below w.heap.size w W) => of_form o cap xs (xs.filter posP) 1000000000 1000000000 W rfl (all_pos hp) hq hm (hS.below h))
  have HSA := Lib.hid (fun W o1 c1 o2 c2 (h1 : Pnt.SeesO W o1 X) (h2 : Pnt.SeesO W o2 X) => (show Calls Try.prog 13 #[.slice o1 ma c1, .slice o2 ma c2] W fun e w' => e = .returned (.bool true) ∧ Below W.heap.size W w' from by
    have := Pnt.samePoints_any o1 o2 c1 c2 X X W (by rw [hma]; unfold maxLen; omega) (by rw [hma]; unfold maxLen; omega) h1 h2
    rw [hma, Pnt.sameL_refl] at this; exact this))
  have HD := Lib.hid hdrop
  have HYL := Lib.hid hkk
  have HXL := Lib.hid hma
  have HQ := Lib.hid hq
  have HSO := Lib.hid hS
  obtain ⟨n, hn⟩ : ∃ n, xs.length = n := ⟨_, rfl⟩
  have HN := Lib.hid hn
  rw [hn] at HP HOX HOY HOZ hm hn25 ⊢
  unfold maxLen at hm
  clear hS hX hY hp htail hma hkk hdrop hn hq
  go_enter Try.func4, Try.ntmps4
  go_wp2_with fail
  refine HP.out.mono ?_
  rintro e w1 ⟨rfl, b1⟩
  have HB1 := Lib.hid b1
  clear b1
  go_wp2_with fail
  refine (HAL.out _).mono ?_
  rintro e w2 ⟨rfl, b2⟩
  have HB2 := Lib.hid (HB1.out.trans (b2.mono HB1.out.size))
  clear b2
  go_wp2_with fail
  refine (HOX.out _ HB2.out).mono ?_
  rintro e w3 ⟨⟨ox, cx, rfl, _, hsx⟩, b3⟩
  have HB3 := Lib.hid (HB2.out.trans (b3.mono HB2.out.size))
  have HX3 := Lib.hid hsx
  clear b3 hsx
  go_wp2_with fail
  refine (HOY.out _ HB3.out).mono ?_
  rintro e w4 ⟨⟨oy, cy, rfl, hoy, _⟩, b4⟩
  have HB4 := Lib.hid (HB3.out.trans (b4.mono HB3.out.size))
  have HX4 := Lib.hid (HX3.out.below b4)
  have HY4 := Lib.hid hoy
  have hys := own_shape hoy
  have hcap := own_room hoy
  clear b4 hoy
  have j1 : ¬ (((ma + kk : Nat) : Int) < (ma : Int)) := by omega
  have hcut : (((ma + kk : Nat) : Int) - (ma : Int)) = kk := by omega
  rcases hys with ⟨rfl, rfl, hy0⟩ | ⟨gy, rfl⟩
  · have hm0 : ma = 0 := by omega
    have hk0 : kk = 0 := by omega
    subst hm0 hk0
    have eX : X = [] := List.eq_nil_of_length_eq_zero HXL.out
    have HE := Lib.hid eX
    clear hy0 hcap eX
    go_wp2_with fail
    refine (HSA.out _ _ _ _ _ (.inl HE.out) (.inl HE.out)).mono ?_
    rintro e w5 ⟨rfl, b5⟩
    have HB5 := Lib.hid (HB4.out.trans (b5.mono HB4.out.size))
    clear b5
    go_wp2_with fail
    refine (HOZ.out _ HB5.out).mono ?_
    rintro e w6 ⟨⟨oz, cz, rfl, _, _⟩, b6⟩
    have HB6 := Lib.hid (HB5.out.trans (b6.mono HB5.out.size))
    have HS6 := Lib.hid (HSO.out.below HB6.out)
    clear b6
    go_wp2
    go_loop [12, 13] (fun v12 v13 => ∃ k : Nat, v13 = .int .i64 k ∧ k ≤ n ∧ ∃ p : Nat, v12 = .int .i64 p ∧ p ≤ k ∧ Hid (((xs.take k).filter posP).length = p)) (fun _ v13 => n - (intOf v13).toNat)
    case atStart => exact ⟨0, rfl, Nat.zero_le _, 0, rfl, Nat.le_refl _, rfl⟩
    case round =>
      obtain ⟨k, rfl, hk, p, rfl, hpk, H⟩ := hrel
      by_cases hkn : k < n
      · have j2 : (k : Int) < n := by omega
        obtain ⟨x, hx⟩ := Pnt.get_lt HN.out hkn
        obtain ⟨b, off, rfl, hS⟩ := HS6.out.at hx
        have c0 := hS.at0 k x hx
        have H2 := Lib.hid (pos_step hx)
        clear hS hx
        by_cases hx0 : 0 < x.1
        · have H3 := Lib.hid (show ((xs.take (k + 1)).filter posP).length = p + 1 by rw [H2.out, H.out, if_pos hx0])
          go_wp2
          go_round
          case rel => exact ⟨k + 1, by go_num, by omega, p + 1, by go_num, by omega, H3⟩
          case measure => simp [intOf]; omega
        · have H3 := Lib.hid (show ((xs.take (k + 1)).filter posP).length = p by rw [H2.out, H.out, if_neg hx0]; rfl)
          go_wp2
          go_round
          case rel => exact ⟨k + 1, by go_num, by omega, p, rfl, by omega, H3⟩
          case measure => simp [intOf]; omega
      · have j2 : ¬ ((k : Int) < n) := by omega
        have hpq : p = q := by
          have h := H.out
          rw [List.take_of_length_le (by rw [HN.out]; omega), HQ.out] at h; exact h.symm
        subst hpq
        go_wp2
        go_ret
        exact ⟨by simp, HB6.out⟩
  · obtain ⟨hc1, hc2⟩ := hcap
    unfold maxLen at hc2
    by_cases hkc : kk = cy
    · have hm0 : ma = 0 := by omega
      subst hm0 hkc
      have HE := Lib.hid (List.eq_nil_of_length_eq_zero HXL.out)
      go_wp2_with fail
      refine (HSA.out _ _ _ _ _ (.inl HE.out) (.inl HE.out)).mono ?_
      rintro e w5 ⟨rfl, b5⟩
      have HB5 := Lib.hid (HB4.out.trans (b5.mono HB4.out.size))
      clear b5
      go_wp2_with fail
      refine (HOZ.out _ HB5.out).mono ?_
      rintro e w6 ⟨⟨oz, cz, rfl, _, _⟩, b6⟩
      have HB6 := Lib.hid (HB5.out.trans (b6.mono HB5.out.size))
      have HS6 := Lib.hid (HSO.out.below HB6.out)
      clear b6
      go_wp2
      go_loop [12, 13] (fun v12 v13 => ∃ k : Nat, v13 = .int .i64 k ∧ k ≤ n ∧ ∃ p : Nat, v12 = .int .i64 p ∧ p ≤ k ∧ Hid (((xs.take k).filter posP).length = p)) (fun _ v13 => n - (intOf v13).toNat)
      case atStart => exact ⟨0, rfl, Nat.zero_le _, 0, rfl, Nat.le_refl _, rfl⟩
      case round =>
        obtain ⟨k, rfl, hk, p, rfl, hpk, H⟩ := hrel
        by_cases hkn : k < n
        · have j2 : (k : Int) < n := by omega
          obtain ⟨x, hx⟩ := Pnt.get_lt HN.out hkn
          obtain ⟨b, off, rfl, hS⟩ := HS6.out.at hx
          have c0 := hS.at0 k x hx
          have H2 := Lib.hid (pos_step hx)
          clear hS hx
          by_cases hx0 : 0 < x.1
          · have H3 := Lib.hid (show ((xs.take (k + 1)).filter posP).length = p + 1 by rw [H2.out, H.out, if_pos hx0])
            go_wp2
            go_round
            case rel => exact ⟨k + 1, by go_num, by omega, p + 1, by go_num, by omega, H3⟩
            case measure => simp [intOf]; omega
          · have H3 := Lib.hid (show ((xs.take (k + 1)).filter posP).length = p by rw [H2.out, H.out, if_neg hx0]; rfl)
            go_wp2
            go_round
            case rel => exact ⟨k + 1, by go_num, by omega, p, rfl, by omega, H3⟩
            case measure => simp [intOf]; omega
        · have j2 : ¬ ((k : Int) < n) := by omega
          have hpq : p = q := by
            have h := H.out
            rw [List.take_of_length_le (by rw [HN.out]; omega), HQ.out] at h; exact h.symm
          subst hpq
          go_wp2
          go_ret
          exact ⟨by simp, HB6.out⟩
    · have hkc2 : ¬ cy = kk := fun h => hkc h.symm
      have HT4 := Lib.hid (tail_sees HY4.out HYL.out HD.out)
      go_wp2_with fail
      refine (HSA.out _ _ _ _ _ HX4.out HT4.out).mono ?_
      rintro e w5 ⟨rfl, b5⟩
      have HB5 := Lib.hid (HB4.out.trans (b5.mono HB4.out.size))
      clear b5
      go_wp2_with fail
      refine (HOZ.out _ HB5.out).mono ?_
      rintro e w6 ⟨⟨oz, cz, rfl, _, _⟩, b6⟩
      have HB6 := Lib.hid (HB5.out.trans (b6.mono HB5.out.size))
      have HS6 := Lib.hid (HSO.out.below HB6.out)
      clear b6
      go_wp2
      go_loop [12, 13] (fun v12 v13 => ∃ k : Nat, v13 = .int .i64 k ∧ k ≤ n ∧ ∃ p : Nat, v12 = .int .i64 p ∧ p ≤ k ∧ Hid (((xs.take k).filter posP).length = p)) (fun _ v13 => n - (intOf v13).toNat)
      case atStart => exact ⟨0, rfl, Nat.zero_le _, 0, rfl, Nat.le_refl _, rfl⟩
      case round =>
        obtain ⟨k, rfl, hk, p, rfl, hpk, H⟩ := hrel
        by_cases hkn : k < n
        · have j2 : (k : Int) < n := by omega
          obtain ⟨x, hx⟩ := Pnt.get_lt HN.out hkn
          obtain ⟨b, off, rfl, hS⟩ := HS6.out.at hx
          have c0 := hS.at0 k x hx
          have H2 := Lib.hid (pos_step hx)
          clear hS hx
          by_cases hx0 : 0 < x.1
          · have H3 := Lib.hid (show ((xs.take (k + 1)).filter posP).length = p + 1 by rw [H2.out, H.out, if_pos hx0])
            go_wp2
            go_round
            case rel => exact ⟨k + 1, by go_num, by omega, p + 1, by go_num, by omega, H3⟩
            case measure => simp [intOf]; omega
          · have H3 := Lib.hid (show ((xs.take (k + 1)).filter posP).length = p by rw [H2.out, H.out, if_neg hx0]; rfl)
            go_wp2
            go_round
            case rel => exact ⟨k + 1, by go_num, by omega, p, rfl, by omega, H3⟩
            case measure => simp [intOf]; omega
        · have j2 : ¬ ((k : Int) < n) := by omega
          have hpq : p = q := by
            have h := H.out
            rw [List.take_of_length_le (by rw [HN.out]; omega), HQ.out] at h; exact h.symm
          subst hpq
          go_wp2
          go_ret
          exact ⟨by simp, HB6.out⟩
end Go.Proofs.Ythbameabfmoibaa.Win
