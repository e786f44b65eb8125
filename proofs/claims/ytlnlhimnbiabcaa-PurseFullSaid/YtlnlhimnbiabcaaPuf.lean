/- The law: every room that is taken and given back. -/
import Derived.Test.YtlnlhimnbiabcaaPue
import Derived.Deep.LoopGhost
import Derived.Deep.Cut
import Derived.Deep.CutRange
namespace Go.Proofs.Ytlnlhimnbiabcaa.Pur
open Go.RowKit Go.Lib

/-- A slice that reads as these deeds. -/
def SeesP (w : World) (o : Option Addr) (xs : List (Int × Int)) : Prop := ∀ (j : Nat) (x : Int × Int), xs[j]? = some x → ∃ b off, o = some ⟨b, off, none⟩ ∧ b < w.heap.size ∧ w.cell? ⟨b, off + j * 2, none⟩ = some (.int .i64 x.1) ∧ w.cell? ⟨b, off + j * 2 + 1, none⟩ = some (.int .i64 x.2)
theorem max_now {p : Pu} (h : WellP p) : max p.high p.now = p.high := by
  have := h.now; omega
theorem give_some {p : Pu} {n : Int} (h : (giveU p n).2 = true) : 0 ≤ n ∧ n ≤ p.now := by
  unfold giveU at h
  split at h
  · cases h
  · omega

set_option maxHeartbeats 4000000 in
set_option maxRecDepth 100000 in
theorem plays_any (r : Int) (o : Option Addr) (cl : Nat) (xs : List (Int × Int)) (w : World) (hl : xs.length ≤ maxLen) (hS : SeesP w o xs) :
    Calls Try.prog 3 #[.int .i64 r, .slice o xs.length cl] w fun e w' => e = .returned (.bool true) ∧ Below w.heap.size w w' := by
  have HA := Lib.hid (fun W => alive_any W)
  obtain ⟨m, hm⟩ : ∃ m, xs.length = m := ⟨_, rfl⟩
  unfold maxLen at hl
  rw [hm] at hl ⊢
  have jl : (m : Int) ≤ 9223372036854775807 := by omega
  by_cases h2 : 200 < m
  · have j2 : (200 : Int) < m := by omega
    clear hS hm
    go_enter Try.func3, Try.ntmps3
    go_wp2_with fail
    refine (HA.out _).mono ?_
    rintro e w1 ⟨rfl, b1⟩
    go_wp2
    go_ret
    exact ⟨rfl, b1⟩
  have j2 : (m : Int) ≤ 200 := by omega
  obtain ⟨R, hR⟩ : ∃ R, min (max r 0) 1000000 = R := ⟨_, rfl⟩
  have HN := Lib.hid (fun W => show Calls Try.prog 7 #[.int .i64 r] W fun e w' => e = .returned (.pointer (some ⟨W.heap.size, 0, none⟩)) ∧ Pt w' W.heap.size ⟨R, 0, 0⟩ ∧ Below W.heap.size W w' from by
    have := new_any r W
    unfold newP at this
    rw [hR] at this; exact this)
  have HM := Lib.hid hm
  have HS := Lib.hid hS
  clear hS hm h2
  go_enter Try.func3, Try.ntmps3
  go_wp2_with fail
  refine (HA.out _).mono ?_
  rintro e w1 ⟨rfl, b1⟩
  have HB1 := Lib.hid b1
  clear b1
  go_wp2_with fail
  refine (HN.out _).mono ?_
  rintro e w2 ⟨rfl, p2, b2⟩
  have HB2 := Lib.hid (HB1.out.trans (b2.mono HB1.out.size))
  obtain ⟨g, hg⟩ : ∃ g, w1.heap.size = g := ⟨_, rfl⟩
  have HL := Lib.hid (show w.heap.size ≤ g by rw [← hg]; exact HB1.out.size)
  rw [hg] at p2 ⊢
  have HP2 := Lib.hid p2
  clear p2 b2 hg
  go_wp2
  go_loopg [6, 7, 8] m (fun k v6 v7 v8 wr => ∃ (i : Nat) (p : Pu), k = m - i ∧ v8 = .int .i64 i ∧ i ≤ m ∧ v6 = .int .i64 p.now ∧ v7 = .int .i64 p.high ∧ p.room = R ∧ Hid (Pt wr g p) ∧ Hid (Below w.heap.size w wr))
  case atStart => exact ⟨0, ⟨R, 0, 0⟩, by omega, rfl, Nat.zero_le _, rfl, rfl, rfl, HP2.out, HB2.out⟩
  case round =>
    obtain ⟨i, p, hkx, rfl, him, rfl, rfl, hpR, HP, HB⟩ := hrel
    by_cases hk : i < m
    · have i1 : (i : Int) < m := by omega
      have i2 : (0 : Int) ≤ i := by omega
      obtain ⟨⟨kd, n⟩, hx⟩ : ∃ x, xs[i]? = some x := ⟨_, List.getElem?_eq_getElem (by rw [HM.out]; exact hk)⟩
      obtain ⟨b, off, rfl, hbl, c1, c2⟩ := HS.out i _ hx
      have c1 := (HB.out.cell (p := ⟨b, off + i * 2, none⟩) hbl).trans c1
      have c2 := (HB.out.cell (p := ⟨b, off + i * 2 + 1, none⟩) hbl).trans c2
      dsimp only at c1 c2
      obtain ⟨k1, k2, k3, k4⟩ := HP.out.well
      have HTk := Lib.hid (take_any g p n wr HP.out)
      have HGv := Lib.hid (give_any g p n wr HP.out)
      obtain ⟨nw, hnw⟩ : ∃ nw, p.now = nw := ⟨_, rfl⟩
      have HNW := Lib.hid hnw
      obtain ⟨hh, hhh⟩ : ∃ hh, p.high = hh := ⟨_, rfl⟩
      have HHH := Lib.hid hhh
      have HPR := Lib.hid hpR
      obtain ⟨d, hd⟩ : ∃ d, R - nw = d := ⟨_, rfl⟩
      have j3 : IntKind.i64.wrap (R - nw) = d := by rw [IntKind.wrap_i64]; omega
      have HW := Lib.hid (show p.now = nw ∧ p.high = hh ∧ p.room = R ∧ R - nw = d ∧ 0 ≤ nw ∧ nw ≤ hh ∧ hh ≤ R ∧ R ≤ 1000000 from ⟨hnw, hhh, hpR, hd, by omega, by omega, by omega, by omega⟩)
      have HI := Lib.hid (show i < m from hk)
      rw [hnw, hhh]
      clear hx k1 k2 k3 k4 hnw hhh hd hpR hk
      go_upto_if 44 with fail
      go_cut [6, 10, 11] from 28 to 105 (fun s6 _ _ wx => ∃ q : Pu, s6 = .int .i64 q.now ∧ q.room = R ∧ q.high = max hh q.now ∧ Hid (Pt wx g q) ∧ Hid (Below w.heap.size w wx))
      case first =>
        by_cases hkd : kd = 1
        · subst hkd
          by_cases hn0 : n < 0
          · have hn1 : ¬ 0 ≤ n := by omega
            have e : takeU p n = (p, false) := by have := HW.out; exact takeU_no (Or.inl hn0)
            have HC := HTk.out
            rw [e] at HC
            have HC := Lib.hid HC
            clear e
            go_wp2_with fail
            refine HC.out.mono ?_
            rintro e w3 ⟨rfl, p3, g3⟩
            have HP3 := Lib.hid p3
            have HB3 := Lib.hid (HB.out.trans (below_own g3 HL.out HP.out.lt))
            clear p3 g3
            go_wp2
            go_meet
            case rel => exact ⟨p, by rw [HNW.out], HPR.out, by have := HW.out; omega, HP3.out, HB3.out⟩
          by_cases hn2 : d < n
          · have hn3 : ¬ n < 0 := hn0
            have e : takeU p n = (p, false) := by have := HW.out; exact takeU_no (Or.inr (by omega))
            have HC := HTk.out
            rw [e] at HC
            have HC := Lib.hid HC
            clear e
            go_wp2_with fail
            refine HC.out.mono ?_
            rintro e w3 ⟨rfl, p3, g3⟩
            have HP3 := Lib.hid p3
            have HB3 := Lib.hid (HB.out.trans (below_own g3 HL.out HP.out.lt))
            clear p3 g3
            go_wp2
            go_meet
            case rel => exact ⟨p, by rw [HNW.out], HPR.out, by have := HW.out; omega, HP3.out, HB3.out⟩
          · obtain ⟨x, hx⟩ : ∃ x, nw + n = x := ⟨_, rfl⟩
            have e : takeU p n = (⟨R, x, max hh x⟩, true) := by have := HW.out; exact takeU_yes (by omega) (by omega) (by dsimp only; omega) (by dsimp only; omega) (by dsimp only; omega)
            have HC := HTk.out
            rw [e] at HC
            have HC := Lib.hid HC
            have j6 : IntKind.i64.wrap (nw + n) = x := by have := HW.out; rw [IntKind.wrap_i64]; omega
            have hn4 : 0 ≤ n := by omega
            have hn5 : n ≤ d := by omega
            clear e hx
            go_wp2_with fail
            refine HC.out.mono ?_
            rintro e w3 ⟨rfl, p3, g3⟩
            have HP3 := Lib.hid p3
            have HB3 := Lib.hid (HB.out.trans (below_own g3 HL.out HP.out.lt))
            clear p3 g3
            go_wp2
            go_meet
            case rel => exact ⟨⟨R, x, max hh x⟩, rfl, rfl, rfl, HP3.out, HB3.out⟩
        · have hkb : (kd == 1) = false := by simp [hkd]
          by_cases hn0 : n < 0
          · have hn1 : ¬ 0 ≤ n := by omega
            have e : giveU p n = (p, false) := by have := HW.out; exact giveU_no (Or.inl hn0)
            have HC := HGv.out
            rw [e] at HC
            have HC := Lib.hid HC
            clear e
            go_wp2_with fail
            refine HC.out.mono ?_
            rintro e w3 ⟨rfl, p3, g3⟩
            have HP3 := Lib.hid p3
            have HB3 := Lib.hid (HB.out.trans (below_own g3 HL.out HP.out.lt))
            clear p3 g3
            go_wp2
            go_meet
            case rel => exact ⟨p, by rw [HNW.out], HPR.out, by have := HW.out; omega, HP3.out, HB3.out⟩
          by_cases hn2 : nw < n
          · have hn3 : ¬ n < 0 := hn0
            have e : giveU p n = (p, false) := by have := HW.out; exact giveU_no (Or.inr (by omega))
            have HC := HGv.out
            rw [e] at HC
            have HC := Lib.hid HC
            clear e
            go_wp2_with fail
            refine HC.out.mono ?_
            rintro e w3 ⟨rfl, p3, g3⟩
            have HP3 := Lib.hid p3
            have HB3 := Lib.hid (HB.out.trans (below_own g3 HL.out HP.out.lt))
            clear p3 g3
            go_wp2
            go_meet
            case rel => exact ⟨p, by rw [HNW.out], HPR.out, by have := HW.out; omega, HP3.out, HB3.out⟩
          · obtain ⟨x, hx⟩ : ∃ x, nw - n = x := ⟨_, rfl⟩
            have e : giveU p n = (⟨R, x, hh⟩, true) := by have := HW.out; exact giveU_yes (by omega) (by omega) (by dsimp only; omega) (by dsimp only; omega) (by dsimp only; omega)
            have HC := HGv.out
            rw [e] at HC
            have HC := Lib.hid HC
            have j6 : IntKind.i64.wrap (nw - n) = x := by have := HW.out; rw [IntKind.wrap_i64]; omega
            have HMX : Hid (hh = max hh x) := Lib.hid (by have := HW.out; omega)
            have hn4 : 0 ≤ n := by omega
            have hn5 : n ≤ nw := by omega
            clear e hx
            go_wp2_with fail
            refine HC.out.mono ?_
            rintro e w3 ⟨rfl, p3, g3⟩
            have HP3 := Lib.hid p3
            have HB3 := Lib.hid (HB.out.trans (below_own g3 HL.out HP.out.lt))
            clear p3 g3
            go_wp2
            go_meet
            case rel => exact ⟨⟨R, x, hh⟩, rfl, rfl, HMX.out, HP3.out, HB3.out⟩
      case rest =>
        obtain ⟨q, rfl, hqR, hqh, HQ, HBq⟩ := hcut
        have H1 := Lib.hid (fun W h => now_any g q W h)
        have H2 := Lib.hid (fun W h => high_any g q W h)
        obtain ⟨z, hz⟩ : ∃ z, R - q.now = z := ⟨_, rfl⟩
        have hL : q.room - q.now = z := by rw [hqR]; exact hz
        have H3 := Lib.hid (fun W h => left_at (b := g) (p := q) hL W h)
        obtain ⟨k1, k2, k3, k4⟩ := HQ.out.well
        have j4 : IntKind.i64.wrap (R - q.now) = z := by rw [IntKind.wrap_i64]; omega
        have j5 : q.high ≤ R := by omega
        have HQE := Lib.hid hqh
        have HQR := Lib.hid hqR
        rw [hqh] at H2 j5
        obtain ⟨x, hx⟩ : ∃ x, q.now = x := ⟨_, rfl⟩
        obtain ⟨y, hy⟩ : ∃ y, max hh x = y := ⟨_, rfl⟩
        have HX := Lib.hid (show q.now = x from hx)
        have HY := Lib.hid (show q.high = y by rw [hqh, hx, hy])
        rw [hx] at H1 H2 j4 j5 ⊢
        rw [hy] at H2 j5
        clear hqh hqR k1 k2 k3 k4 hL hx hz j3
        go_wp2_with fail
        refine (H1.out _ HQ.out).mono ?_
        rintro e w3 ⟨rfl, hq⟩
        subst hq
        go_wp2_with fail
        refine (H2.out _ HQ.out).mono ?_
        rintro e w3 ⟨rfl, hq⟩
        subst hq
        go_wp2_with fail
        refine (H3.out _ HQ.out).mono ?_
        rintro e w4 ⟨rfl, nq, hq⟩
        have HQ4 := Lib.hid (show Pt w4 g q from by rw [hq]; exact HQ.out.drew nq)
        have HB4 := Lib.hid (show Below w.heap.size w w4 from by rw [hq]; exact HBq.out.trans ⟨rfl, rfl, rfl, Nat.le_refl _, fun _ _ => rfl⟩)
        clear hq
        go_wp2_with fail
        refine (H2.out _ HQ4.out).mono ?_
        rintro e w5 ⟨rfl, hq⟩
        subst hq
        have HII := HI.out
        go_wp2
        go_roundg (m - (i + 1))
        case measure => omega
        case rel => exact ⟨i + 1, q, rfl, by go_num, by omega, by rw [HX.out], by rw [HY.out], HQR.out, HQ4.out, HB4.out⟩
    · obtain rfl : i = m := by omega
      have H1 := Lib.hid (fun W => take_nil 0 W)
      have H2 := Lib.hid (fun W => give_nil 0 W)
      have H3 := Lib.hid (fun W => now_nil W)
      have H4 := Lib.hid (fun W => high_nil W)
      have H5 := Lib.hid (fun W => left_nil W)
      go_wp2_with fail
      refine (H1.out _).mono ?_
      rintro e w3 ⟨rfl, hq⟩
      subst hq
      go_wp2_with fail
      refine (H2.out _).mono ?_
      rintro e w3 ⟨rfl, hq⟩
      subst hq
      go_wp2_with fail
      refine (H3.out _).mono ?_
      rintro e w3 ⟨rfl, hq⟩
      subst hq
      go_wp2_with fail
      refine (H4.out _).mono ?_
      rintro e w3 ⟨rfl, hq⟩
      subst hq
      go_wp2_with fail
      refine (H5.out _).mono ?_
      rintro e w3 ⟨rfl, hq⟩
      subst hq
      go_wp2
      go_ret
      exact ⟨rfl, HB.out⟩
end Go.Proofs.Ytlnlhimnbiabcaa.Pur
