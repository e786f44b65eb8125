/- The walk of the document's own functions of points. -/
import Derived.Test.YthbameabfmoibaaGreatVq
namespace Go.Proofs.YthbameabfmoibaaGreat.Win
open Go.RowKit Go.Lib

/-- A name and its place. -/
def NameAt (s : ByteArray) (k : Nat) : Prop := (s = ⟨#[115, 117, 109, 95, 111, 118, 101, 114]⟩ ∧ k = 0) ∨ (s = ⟨#[109, 105, 110, 95, 111, 118, 101, 114]⟩ ∧ k = 1) ∨ (s = ⟨#[109, 97, 120, 95, 111, 118, 101, 114]⟩ ∧ k = 2) ∨ (s = ⟨#[99, 111, 117, 110, 116, 95, 111, 118, 101, 114]⟩ ∧ k = 3) ∨ (s = ⟨#[97, 118, 103, 95, 111, 118, 101, 114]⟩ ∧ k = 4) ∨ (s = ⟨#[108, 97, 115, 116, 95, 111, 118, 101, 114]⟩ ∧ k = 5) ∨ (s = ⟨#[105, 110, 99, 114, 101, 97, 115, 101]⟩ ∧ k = 6) ∨ (s = ⟨#[114, 97, 116, 101]⟩ ∧ k = 7)
theorem name_at {k : Nat} (hk : k < 8) : NameAt (nmOf k) k := by
  unfold NameAt
  match k, hk with
  | 0, _ => exact .inl ⟨rfl, rfl⟩
  | 1, _ => exact .inr (.inl ⟨rfl, rfl⟩)
  | 2, _ => exact .inr (.inr (.inl ⟨rfl, rfl⟩))
  | 3, _ => exact .inr (.inr (.inr (.inl ⟨rfl, rfl⟩)))
  | 4, _ => exact .inr (.inr (.inr (.inr (.inl ⟨rfl, rfl⟩))))
  | 5, _ => exact .inr (.inr (.inr (.inr (.inr (.inl ⟨rfl, rfl⟩)))))
  | 6, _ => exact .inr (.inr (.inr (.inr (.inr (.inr (.inl ⟨rfl, rfl⟩))))))
  | 7, _ => exact .inr (.inr (.inr (.inr (.inr (.inr (.inr ⟨rfl, rfl⟩))))))
theorem over_five {xs : List Pt} {p : Nat} {y : Pt} (hp : pointsB xs = true) (hn : xs.length = p + 1) (hy : xs[p]? = some y) : overF 5 xs = (y.2, true, 0) := by
  rw [← wdo_over]; unfold wdoF
  rw [if_neg (by rintro (h | h); omega; rw [hp] at h; cases h), if_neg (by unfold leastN; rw [if_neg (by omega)]; omega)]
  show (((numsF xs).getLast?).getD 0, true, 0) = _
  rw [List.getLast?_eq_getElem?, nums_len, hn, Nat.add_sub_cancel, nums_at hy]; rfl

set_option maxHeartbeats 16000000 in
set_option maxRecDepth 100000 in
theorem rover_two (s : ByteArray) (k : Nat) (hnm : NameAt s k) (o : Option Addr) (cap : Nat) (xs : List Pt) (w : World) (hp : pointsB xs = true) (h2 : 2 ≤ xs.length) (hS : Pnt.SeesO w o xs) :
    Calls Tryz.prog 11 #[.string s, .slice o xs.length cap] w fun e w' => e = .returned (.tuple #[.int .i64 (overF k xs).1, .bool (overF k xs).2.1, .int .i64 (overF k xs).2.2]) ∧ Below w.heap.size w w' := by
  obtain ⟨i0, hi, hz0, hz1, hz2⟩ := info_parts infoI
  obtain ⟨h25, hpw, hall⟩ := (points_iff xs).1 hp
  obtain ⟨p, hn⟩ : ∃ p, xs.length = p + 1 := ⟨xs.length - 1, by omega⟩
  obtain ⟨x0, hx0⟩ := Pnt.get_lt hn (show 0 < p + 1 by omega)
  obtain ⟨y, hly⟩ := Pnt.get_lt hn (show p < p + 1 by omega)
  obtain ⟨b, off, rfl, hS0⟩ := hS.at hx0
  have hk8 : k < 8 := by rcases hnm with ⟨_, h⟩ | ⟨_, h⟩ | ⟨_, h⟩ | ⟨_, h⟩ | ⟨_, h⟩ | ⟨_, h⟩ | ⟨_, h⟩ | ⟨_, h⟩ <;> omega
  have hfn : fnF s = k := by
    rcases hnm with ⟨rfl, rfl⟩ | ⟨rfl, rfl⟩ | ⟨rfl, rfl⟩ | ⟨rfl, rfl⟩ | ⟨rfl, rfl⟩ | ⟨rfl, rfl⟩ | ⟨rfl, rfl⟩ | ⟨rfl, rfl⟩
    · exact fn_nm 0 (by omega)
    · exact fn_nm 1 (by omega)
    · exact fn_nm 2 (by omega)
    · exact fn_nm 3 (by omega)
    · exact fn_nm 4 (by omega)
    · exact fn_nm 5 (by omega)
    · exact fn_nm 6 (by omega)
    · exact fn_nm 7 (by omega)
  have HFN := Lib.hid (show Calls Tryz.prog 16 #[.string s] w fun e w' => e = .returned (.bool true) ∧ w' = w from by
    have := rfn_any s w
    rw [hfn, decide_eq_true hk8] at this; exact this)
  have HPP := Lib.hid (show Calls Tryz.prog 13 #[.slice (some ⟨b, off, none⟩) (p + 1) cap] w fun e w' => e = .returned (.bool true) ∧ Below w.heap.size w w' from by
    have := rpoints_any (some ⟨b, off, none⟩) cap xs w (by unfold maxLen; omega) hS
    rw [hp, hn] at this; exact this)
  have HCL := Lib.hid (fun W (h : Below w.heap.size w W) (j : Nat) (x : Pt) (hx : xs[j]? = some x) => (show W.cell? ⟨b, off + j * 2, none⟩ = some (.int .i64 x.1) ∧ W.cell? ⟨b, off + j * 2 + 1, none⟩ = some (.int .i64 x.2) from ⟨(hS0.below h).at0 j x hx, (hS0.below h).at1 j x hx⟩))
  have HV := Lib.hid (fun x (hx : x ∈ xs) => (hall x hx).2)
  have HT := Lib.hid (fun x (hx : x ∈ xs) => (hall x hx).1)
  have HLT := Lib.hid (fun (h2 : 2 ≤ p + 1) => (show x0.1 < y.1 from by
    obtain ⟨hx0', ex⟩ := List.getElem?_eq_some_iff.1 hx0
    obtain ⟨hy0', ey⟩ := List.getElem?_eq_some_iff.1 hly
    have := List.pairwise_iff_getElem.1 hpw 0 p hx0' hy0' (by omega)
    rw [ex, ey] at this; exact this))
  obtain ⟨R, hR⟩ : ∃ R, overF k xs = R := ⟨_, rfl⟩
  have HRR := Lib.hid hR
  have HNM := Lib.hid hnm
  have HX0 := Lib.hid hx0
  have HLY := Lib.hid hly
  have HPT := Lib.hid hp
  have HN0 := Lib.hid hn
  have h2n : 2 ≤ xs.length := h2
  have h2p : 2 ≤ p + 1 := by omega
  rw [hR]
  rw [hn] at h25 ⊢
  clear hS hS0 hpw hall hnm hx0 hly hp hk8 hfn hR h2
  have HN := HN0
  clear hn
  have jn0 : (((p + 1 : Nat) : Int) == 0) = false := beq_eq_false_iff_ne.2 (by omega)
  have jn1 : ¬ ((p + 1 : Nat) : Int) < 2 := by omega
  have jn2 : (((p + 1 : Nat) : Int)) ≤ 25 := by omega
  go_enter Tryz.func11, Tryz.ntmps11
  go_wp2_with fail
  refine HFN.out.mono ?_
  rintro e w1 ⟨rfl, hw1⟩
  rw [hw1]
  clear hw1
  go_wp2_with fail
  refine HPP.out.mono ?_
  rintro e w2 ⟨rfl, b2⟩
  have HBw2 := Lib.hid b2
  clear b2
  have cf : w2.cell? ⟨b, off + 1, none⟩ = some (.int .i64 x0.2) := by have := (HCL.out w2 HBw2.out 0 x0 HX0.out).2; simpa using this
  go_wp2_with fail
  go_quiet (fail)
  have HBw3 := Lib.hid (quiet_below HBw2.out nq)
  clear cf
  go_wp2
  go_loopw [7, 8, 9, 10, 11, 12] (fun v7 v8 v9 v10 v11 v12 wr => ∃ (k : Nat) (zs : List Int) (lo hi g : Int) (ov : Bool), v12 = .int .i64 k ∧ k ≤ p + 1 ∧ zs.length ≤ k ∧ v8 = .int .i64 lo ∧ v9 = .int .i64 hi ∧ v10 = .int .i64 g ∧ v11 = .bool ov ∧ Hid (LoopP xs x0 k zs lo hi g ov) ∧ wr.ownsRow w.heap.size 3 1 v7 zs.length (zs.map (Value.int .i64)) ∧ Hid (Below w.heap.size w wr)) (fun _ _ _ _ _ v12 _ => p + 1 - (intOf v12).toNat)
  case atStart => exact ⟨0, [], x0.2, x0.2, 0, false, rfl, Nat.zero_le _, Nat.zero_le _, rfl, rfl, rfl, rfl, loop_start xs x0, World.ownsRow_nil _ _ _ _, HBw3⟩
  case round =>
    obtain ⟨k, zs, lo, hi', g, ov, rfl, hk, hzk, rfl, rfl, rfl, rfl, H, hown, HBwr⟩ := hrel
    have HOwr := Lib.hid hown
    clear hown
    by_cases hkn : k < p + 1
    · have j1 : (k : Int) < ((p + 1 : Nat) : Int) := by omega
      obtain ⟨x, hx⟩ := Pnt.get_lt HN.out hkn
      have HX := Lib.hid hx
      obtain ⟨vx1, vx2⟩ := HV.out x (List.mem_of_getElem? hx)
      have HZ := Lib.hid HBwr.out.size
      have c0 := (HCL.out wr HBwr.out k x hx).2
      clear hx
      go_wp2_with (at_builtin; go_must (refine wpList_append_own _ rfl _ _ 58 rfl w.heap.size 3 i0 (.int .i64 0) 1 8 Tryz.underlying58 hi hz0 hz1 hz2 rfl (by decide) _ _ _ rfl (HOwr.out.alloc _) ⟨wr.heap.size, 0, none⟩ 1 1 [.int .i64 x.2] rfl rfl (cell_one wr _ _ rfl) (one_i _) (by unfold maxLen; omega) (by omega) (by simp; have := HZ.out; omega) ?_))
      intro v3 w3 hown3 hgrow3 _
      have HBw3 := Lib.hid (Below.grown (HBwr.out.alloc HZ.out _) hgrow3 (by have := HZ.out; simp; omega) (fun j hj => by have := (HOwr.out.lt _ hj).1; omega) : Below w.heap.size w w3)
      have HOw3 := Lib.hid (show w3.ownsRow w.heap.size 3 1 v3 (zs ++ [x.2]).length ((zs ++ [x.2]).map (Value.int .i64)) by rw [List.length_append, List.map_append]; exact hown3)
      clear hown3 hgrow3 c0
      have c1 := (HCL.out w3 HBw3.out k x HX.out).2
      go_wp2_with fail
      go_quiet (fail)
      obtain ⟨w4, hwq⟩ : ∃ wq, w3.drewN nq = wq := ⟨_, rfl⟩
      have HBw4 := Lib.hid (show Below w.heap.size w w4 by rw [← hwq]; exact quiet_below HBw3.out nq)
      have HOw4 := Lib.hid (Pnt.own_grown HOw3.out (show Below w3.heap.size w3 w4 by rw [← hwq]; exact quiet_below (Below.refl _ _) nq))
      rw [hwq]
      clear hwq
      clear c1
      by_cases hk0 : k = 0
      · subst hk0
        have H2 := Lib.hid (loop_first H.out HX.out)
        go_wp2
        go_roundw
        case rel => exact ⟨0 + 1, zs ++ [x.2], min lo x.2, max hi' x.2, g, ov, by go_num, by omega, by rw [List.length_append]; exact Nat.add_le_add_right hzk 1, rfl, rfl, rfl, rfl, H2, HOw4.out, HBw4⟩
        case measure => first | (simp [intOf]; done) | (simp [intOf]; omega)
      · obtain ⟨m, rfl⟩ : ∃ m, k = m + 1 := ⟨k - 1, by omega⟩
        obtain ⟨y, hy⟩ := Pnt.get_lt HN.out (show m < p + 1 by omega)
        have HY := Lib.hid hy
        obtain ⟨vy1, vy2⟩ := HV.out y (List.mem_of_getElem? hy)
        have hgb := grown_bound (xs := xs.take (m + 1)) (by rw [List.length_take]; omega) (fun z hz => HV.out z (List.mem_of_mem_take hz))
        rw [← H.out.g] at hgb
        obtain ⟨gb1, gb2⟩ := hgb
        have H2 := Lib.hid (loop_next H.out hy HX.out)
        have k0 : (0 : Int) ≤ m := by omega
        have k1 : (m : Int) < ((p + 1 : Nat) : Int) := by omega
        have c1 := (HCL.out w4 HBw4.out (m + 1) x HX.out).2
        have d1 := (HCL.out w4 HBw4.out m y hy).2
        clear hy hk0
        by_cases hle : y.2 ≤ x.2
        · rw [show (if y.2 ≤ x.2 then x.2 - y.2 else x.2) = x.2 - y.2 from if_pos hle] at H2
          go_wp2_with fail
          go_quiet (fail)
          obtain ⟨w5, hwq⟩ : ∃ wq, w4.drewN nq = wq := ⟨_, rfl⟩
          have HBw5 := Lib.hid (show Below w.heap.size w w5 by rw [← hwq]; exact quiet_below HBw4.out nq)
          have HOw5 := Lib.hid (Pnt.own_grown HOw4.out (show Below w4.heap.size w4 w5 by rw [← hwq]; exact quiet_below (Below.refl _ _) nq))
          rw [hwq]
          clear hwq
          have c1 := (HCL.out w5 HBw5.out (m + 1) x HX.out).2
          have d1 := (HCL.out w5 HBw5.out m y HY.out).2
          go_wp2_with fail
          go_quiet (fail)
          obtain ⟨w6, hwq⟩ : ∃ wq, w5.drewN nq = wq := ⟨_, rfl⟩
          have HBw6 := Lib.hid (show Below w.heap.size w w6 by rw [← hwq]; exact quiet_below HBw5.out nq)
          have HOw6 := Lib.hid (Pnt.own_grown HOw5.out (show Below w5.heap.size w5 w6 by rw [← hwq]; exact quiet_below (Below.refl _ _) nq))
          rw [hwq]
          clear hwq
          clear c1 d1
          cases ov with
          | true =>
            have H3 := Lib.hid (show LoopP xs x0 (m + 1 + 1) (zs ++ [x.2]) (min lo x.2) (max hi' x.2) (g + (x.2 - y.2)) true from H2.out)
            go_wp2
            go_roundw
            case rel => exact ⟨m + 1 + 1, zs ++ [x.2], min lo x.2, max hi' x.2, g + (x.2 - y.2), true, by go_num, by omega, by simp; omega, rfl, rfl, by go_num, rfl, H3, HOw6.out, HBw6⟩
            case measure => simp [intOf]; omega
          | false =>
            by_cases hv : valP (x.2 - y.2)
            · have HVV := Lib.hid (fun W => rnum_yes (x.2 - y.2) W hv)
              have H3 := Lib.hid (show LoopP xs x0 (m + 1 + 1) (zs ++ [x.2]) (min lo x.2) (max hi' x.2) (g + (x.2 - y.2)) false from by have := H2.out; rwa [decide_eq_true hv] at this)
              clear hv
              go_wp2_with fail
              refine (HVV.out _).mono ?_
              rintro e wv ⟨rfl, rfl⟩
              go_wp2
              go_roundw
              case rel => exact ⟨m + 1 + 1, zs ++ [x.2], min lo x.2, max hi' x.2, g + (x.2 - y.2), false, by go_num, by omega, by simp; omega, rfl, rfl, by go_num, rfl, H3, HOw6.out, HBw6⟩
              case measure => simp [intOf]; omega
            · have HVV := Lib.hid (fun W => rnum_no (x.2 - y.2) W hv)
              have H3 := Lib.hid (show LoopP xs x0 (m + 1 + 1) (zs ++ [x.2]) (min lo x.2) (max hi' x.2) (g + (x.2 - y.2)) true from by have := H2.out; rwa [decide_eq_false hv] at this)
              clear hv
              go_wp2_with fail
              refine (HVV.out _).mono ?_
              rintro e wv ⟨rfl, rfl⟩
              go_wp2
              go_roundw
              case rel => exact ⟨m + 1 + 1, zs ++ [x.2], min lo x.2, max hi' x.2, g + (x.2 - y.2), true, by go_num, by omega, by simp; omega, rfl, rfl, by go_num, rfl, H3, HOw6.out, HBw6⟩
              case measure => simp [intOf]; omega
        · rw [show (if y.2 ≤ x.2 then x.2 - y.2 else x.2) = x.2 from if_neg hle] at H2
          go_wp2_with fail
          go_quiet (fail)
          obtain ⟨w5, hwq⟩ : ∃ wq, w4.drewN nq = wq := ⟨_, rfl⟩
          have HBw5 := Lib.hid (show Below w.heap.size w w5 by rw [← hwq]; exact quiet_below HBw4.out nq)
          have HOw5 := Lib.hid (Pnt.own_grown HOw4.out (show Below w4.heap.size w4 w5 by rw [← hwq]; exact quiet_below (Below.refl _ _) nq))
          rw [hwq]
          clear hwq
          clear c1 d1
          cases ov with
          | true =>
            have H3 := Lib.hid (show LoopP xs x0 (m + 1 + 1) (zs ++ [x.2]) (min lo x.2) (max hi' x.2) (g + x.2) true from H2.out)
            go_wp2
            go_roundw
            case rel => exact ⟨m + 1 + 1, zs ++ [x.2], min lo x.2, max hi' x.2, g + x.2, true, by go_num, by omega, by simp; omega, rfl, rfl, by go_num, rfl, H3, HOw5.out, HBw5⟩
            case measure => simp [intOf]; omega
          | false =>
            by_cases hv : valP x.2
            · have HVV := Lib.hid (fun W => rnum_yes x.2 W hv)
              have H3 := Lib.hid (show LoopP xs x0 (m + 1 + 1) (zs ++ [x.2]) (min lo x.2) (max hi' x.2) (g + x.2) false from by have := H2.out; rwa [decide_eq_true hv] at this)
              clear hv
              go_wp2_with fail
              refine (HVV.out _).mono ?_
              rintro e wv ⟨rfl, rfl⟩
              go_wp2
              go_roundw
              case rel => exact ⟨m + 1 + 1, zs ++ [x.2], min lo x.2, max hi' x.2, g + x.2, false, by go_num, by omega, by simp; omega, rfl, rfl, by go_num, rfl, H3, HOw5.out, HBw5⟩
              case measure => simp [intOf]; omega
            · have HVV := Lib.hid (fun W => rnum_no x.2 W hv)
              have H3 := Lib.hid (show LoopP xs x0 (m + 1 + 1) (zs ++ [x.2]) (min lo x.2) (max hi' x.2) (g + x.2) true from by have := H2.out; rwa [decide_eq_false hv] at this)
              clear hv
              go_wp2_with fail
              refine (HVV.out _).mono ?_
              rintro e wv ⟨rfl, rfl⟩
              go_wp2
              go_roundw
              case rel => exact ⟨m + 1 + 1, zs ++ [x.2], min lo x.2, max hi' x.2, g + x.2, true, by go_num, by omega, by simp; omega, rfl, rfl, by go_num, rfl, H3, HOw5.out, HBw5⟩
              case measure => simp [intOf]; omega
    · have j1 : ¬ ((k : Int) < ((p + 1 : Nat) : Int)) := by omega
      have HE := Lib.hid (loop_end H.out (by rw [HN.out]; omega) HPT.out HX0.out)
      have hgb := grown_bound (xs := xs.take k) (by rw [List.length_take]; omega) (fun z hz => HV.out z (List.mem_of_mem_take hz))
      rw [← H.out.g] at hgb
      obtain ⟨gb1, gb2⟩ := hgb
      obtain ⟨o2, c2, rfl, hs, _⟩ := own_ints HOwr.out
      have h5 := over_five HPT.out HN.out HLY.out
      rcases HNM.out with ⟨rfl, rfl⟩ | ⟨rfl, rfl⟩ | ⟨rfl, rfl⟩ | ⟨rfl, rfl⟩ | ⟨rfl, rfl⟩ | ⟨rfl, rfl⟩ | ⟨rfl, rfl⟩ | ⟨rfl, rfl⟩
      · obtain ⟨SM, hSM⟩ : ∃ SM, sumF zs = SM := ⟨_, rfl⟩
        have hE := HE.out.o0
        have hER := sum_err (zs := zs)
        rw [hSM] at hE hER
        have HS := Lib.hid (rsum_any o2 c2 zs wr (by omega) hs)
        rw [hSM] at HS
        obtain ⟨v, ve⟩ := SM
        by_cases hve : ve = 0
        · subst hve
          have HF := Lib.hid (HRR.out.symm.trans hE)
          clear hE hER hSM
          go_wp2_with fail
          refine HS.out.mono ?_
          rintro e wv ⟨rfl, rfl⟩
          go_wp2
          go_ret3
          exact ⟨by rw [HF.out]; rfl, HBwr.out⟩
        · have tv : (ve != 0) = true := by simpa using hve
          have hv0 : v = 0 := hER hve
          subst hv0
          have tv2 : (ve == 0) = false := by simpa using hve
          rw [tv2] at hE
          have HF := Lib.hid (HRR.out.symm.trans hE)
          clear hE hER hSM hve
          go_wp2_with fail
          refine HS.out.mono ?_
          rintro e wv ⟨rfl, rfl⟩
          go_wp2
          go_ret3
          exact ⟨by rw [HF.out]; rfl, HBwr.out⟩
      · have HF := Lib.hid (HRR.out.symm.trans HE.out.o1)
        go_wp2
        go_ret3
        exact ⟨by rw [HF.out]; rfl, HBwr.out⟩
      · have HF := Lib.hid (HRR.out.symm.trans HE.out.o2)
        go_wp2
        go_ret3
        exact ⟨by rw [HF.out]; rfl, HBwr.out⟩
      · have hE := HE.out.o3
        rw [HN.out] at hE
        have HF := Lib.hid (HRR.out.symm.trans hE)
        go_wp2
        go_ret3
        exact ⟨by rw [HF.out]; rfl, HBwr.out⟩
      · obtain ⟨SM, hSM⟩ : ∃ SM, meanF zs = SM := ⟨_, rfl⟩
        have hE := HE.out.o4
        have hER := mean_err (zs := zs)
        rw [hSM] at hE hER
        have HS := Lib.hid (rmean_any o2 c2 zs wr (by omega) hs)
        rw [hSM] at HS
        obtain ⟨v, ve⟩ := SM
        by_cases hve : ve = 0
        · subst hve
          have HF := Lib.hid (HRR.out.symm.trans hE)
          clear hE hER hSM
          go_wp2_with fail
          refine HS.out.mono ?_
          rintro e wv ⟨rfl, rfl⟩
          go_wp2
          go_ret3
          exact ⟨by rw [HF.out]; rfl, HBwr.out⟩
        · have tv : (ve != 0) = true := by simpa using hve
          have hv0 : v = 0 := hER hve
          subst hv0
          have tv2 : (ve == 0) = false := by simpa using hve
          rw [tv2] at hE
          have HF := Lib.hid (HRR.out.symm.trans hE)
          clear hE hER hSM hve
          go_wp2_with fail
          refine HS.out.mono ?_
          rintro e wv ⟨rfl, rfl⟩
          go_wp2
          go_ret3
          exact ⟨by rw [HF.out]; rfl, HBwr.out⟩
      · have cl := (HCL.out wr HBwr.out p y HLY.out).2
        have HF := Lib.hid (HRR.out.symm.trans h5)
        go_wp2
        go_ret3
        exact ⟨by rw [HF.out]; rfl, HBwr.out⟩
      · have hE := HE.out.o6 (by rw [HN.out]; omega)
        cases ov with
        | true =>
          rw [if_neg (by simp)] at hE
          have HF := Lib.hid (HRR.out.symm.trans hE)
          clear hE
          go_wp2
          go_ret3
          exact ⟨by rw [HF.out]; rfl, HBwr.out⟩
        | false =>
          by_cases hv : valP g
          · have HVV := Lib.hid (fun W => rnum_yes g W hv)
            rw [if_pos ⟨rfl, hv⟩] at hE
            have HF := Lib.hid (HRR.out.symm.trans hE)
            clear hE hv
            go_wp2_with fail
            refine (HVV.out _).mono ?_
            rintro e wv ⟨rfl, rfl⟩
            go_wp2
            go_ret3
            exact ⟨by rw [HF.out]; rfl, HBwr.out⟩
          · have HVV := Lib.hid (fun W => rnum_no g W hv)
            rw [if_neg (fun h => hv h.2)] at hE
            have HF := Lib.hid (HRR.out.symm.trans hE)
            clear hE hv
            go_wp2_with fail
            refine (HVV.out _).mono ?_
            rintro e wv ⟨rfl, rfl⟩
            go_wp2
            go_ret3
            exact ⟨by rw [HF.out]; rfl, HBwr.out⟩
      · have hE := HE.out.o7 (by rw [HN.out]; omega)
        cases ov with
        | true =>
          rw [if_neg (by simp)] at hE
          have HF := Lib.hid (HRR.out.symm.trans hE)
          clear hE
          go_wp2
          go_ret3
          exact ⟨by rw [HF.out]; rfl, HBwr.out⟩
        | false =>
          by_cases hv : valP g
          · have HVV := Lib.hid (fun W => rnum_yes g W hv)
            rw [if_pos ⟨rfl, hv⟩] at hE
            rw [last_at HN.out HLY.out, first_at HX0.out] at hE
            have HM := Lib.hid (fun W => rdo_mul (a := g) (b := 1000) hv (by decide) W)
            have cl := (HCL.out wr HBwr.out p y HLY.out).1
            have cf : wr.cell? ⟨b, off, none⟩ = some (.int .i64 x0.1) := by have := (HCL.out wr HBwr.out 0 x0 HX0.out).1; simpa using this
            have hlt := HLT.out (by omega)
            obtain ⟨xt1, xt2⟩ := HT.out x0 (List.mem_of_getElem? HX0.out)
            obtain ⟨yt1, yt2⟩ := HT.out y (List.mem_of_getElem? HLY.out)
            have dz : ¬ (y.1 - x0.1 = 0) := by omega
            have dz2 : (y.1 - x0.1 == 0) = false := by simpa using dz
            have p0 : (0 : Int) ≤ p := by omega
            have p1 : (p : Int) ≤ 24 := by omega
            by_cases hg : valP (g * 1000)
            · rw [if_pos hg] at hE
              have hw : withinF (g * 1000) = (g * 1000, 0) := by unfold withinF; rw [if_pos (show rgt _ from hg)]
              rw [hw] at HM
              obtain ⟨rd, hrd⟩ : ∃ rd, (g * 1000).tdiv (y.1 - x0.1) = rd := ⟨_, rfl⟩
              rw [hrd] at hE
              have r1 : -1000000000000 ≤ rd := by have := Int.natAbs_tdiv_le_natAbs (g * 1000) (y.1 - x0.1); have := hg.1; have := hg.2; omega
              have r2 : rd ≤ 1000000000000 := by have := Int.natAbs_tdiv_le_natAbs (g * 1000) (y.1 - x0.1); have := hg.1; have := hg.2; omega
              obtain ⟨g1, g2⟩ := hg
              have HF := Lib.hid (HRR.out.symm.trans hE)
              clear hE hv hw
              go_wp2_with fail
              refine (HVV.out _).mono ?_
              rintro e wv ⟨rfl, rfl⟩
              go_wp2_with fail
              refine (HM.out _).mono ?_
              rintro e wv ⟨rfl, rfl⟩
              go_wp2_with fail
              go_quiet (fail)
              have HBq := Lib.hid (quiet_below HBwr.out nq)
              go_wp2
              go_ret3
              exact ⟨by rw [HF.out]; rfl, HBq.out⟩
            · rw [if_neg hg] at hE
              have hw : withinF (g * 1000) = (0, 4) := by unfold withinF; rw [if_neg (show ¬ rgt _ from hg)]
              rw [hw] at HM
              have HF := Lib.hid (HRR.out.symm.trans hE)
              have z0 : (0 : Int).tdiv (y.1 - x0.1) = 0 := Int.zero_tdiv _
              clear hE hv hw hg
              go_wp2_with fail
              refine (HVV.out _).mono ?_
              rintro e wv ⟨rfl, rfl⟩
              go_wp2_with fail
              refine (HM.out _).mono ?_
              rintro e wv ⟨rfl, rfl⟩
              go_wp2_with fail
              go_quiet (fail)
              have HBq := Lib.hid (quiet_below HBwr.out nq)
              go_wp2
              go_ret3
              exact ⟨by rw [HF.out]; rfl, HBq.out⟩
          · have HVV := Lib.hid (fun W => rnum_no g W hv)
            rw [if_neg (fun h => hv h.2)] at hE
            have HF := Lib.hid (HRR.out.symm.trans hE)
            clear hE hv
            go_wp2_with fail
            refine (HVV.out _).mono ?_
            rintro e wv ⟨rfl, rfl⟩
            go_wp2
            go_ret3
            exact ⟨by rw [HF.out]; rfl, HBwr.out⟩

set_option maxHeartbeats 16000000 in
set_option maxRecDepth 100000 in
theorem rover_one (s : ByteArray) (k : Nat) (hnm : NameAt s k) (o : Option Addr) (cap : Nat) (xs : List Pt) (w : World) (hp : pointsB xs = true) (h1 : xs.length = 1) (hk6 : k < 6) (hS : Pnt.SeesO w o xs) :
    Calls Tryz.prog 11 #[.string s, .slice o xs.length cap] w fun e w' => e = .returned (.tuple #[.int .i64 (overF k xs).1, .bool (overF k xs).2.1, .int .i64 (overF k xs).2.2]) ∧ Below w.heap.size w w' := by
  obtain ⟨i0, hi, hz0, hz1, hz2⟩ := info_parts infoI
  obtain ⟨h25, hpw, hall⟩ := (points_iff xs).1 hp
  obtain ⟨p, hn⟩ : ∃ p, xs.length = p + 1 := ⟨xs.length - 1, by omega⟩
  obtain ⟨x0, hx0⟩ := Pnt.get_lt hn (show 0 < p + 1 by omega)
  obtain ⟨y, hly⟩ := Pnt.get_lt hn (show p < p + 1 by omega)
  obtain ⟨b, off, rfl, hS0⟩ := hS.at hx0
  have hk8 : k < 8 := by rcases hnm with ⟨_, h⟩ | ⟨_, h⟩ | ⟨_, h⟩ | ⟨_, h⟩ | ⟨_, h⟩ | ⟨_, h⟩ | ⟨_, h⟩ | ⟨_, h⟩ <;> omega
  have hfn : fnF s = k := by
    rcases hnm with ⟨rfl, rfl⟩ | ⟨rfl, rfl⟩ | ⟨rfl, rfl⟩ | ⟨rfl, rfl⟩ | ⟨rfl, rfl⟩ | ⟨rfl, rfl⟩ | ⟨rfl, rfl⟩ | ⟨rfl, rfl⟩
    · exact fn_nm 0 (by omega)
    · exact fn_nm 1 (by omega)
    · exact fn_nm 2 (by omega)
    · exact fn_nm 3 (by omega)
    · exact fn_nm 4 (by omega)
    · exact fn_nm 5 (by omega)
    · exact fn_nm 6 (by omega)
    · exact fn_nm 7 (by omega)
  have HFN := Lib.hid (show Calls Tryz.prog 16 #[.string s] w fun e w' => e = .returned (.bool true) ∧ w' = w from by
    have := rfn_any s w
    rw [hfn, decide_eq_true hk8] at this; exact this)
  have HPP := Lib.hid (show Calls Tryz.prog 13 #[.slice (some ⟨b, off, none⟩) (p + 1) cap] w fun e w' => e = .returned (.bool true) ∧ Below w.heap.size w w' from by
    have := rpoints_any (some ⟨b, off, none⟩) cap xs w (by unfold maxLen; omega) hS
    rw [hp, hn] at this; exact this)
  have HCL := Lib.hid (fun W (h : Below w.heap.size w W) (j : Nat) (x : Pt) (hx : xs[j]? = some x) => (show W.cell? ⟨b, off + j * 2, none⟩ = some (.int .i64 x.1) ∧ W.cell? ⟨b, off + j * 2 + 1, none⟩ = some (.int .i64 x.2) from ⟨(hS0.below h).at0 j x hx, (hS0.below h).at1 j x hx⟩))
  have HV := Lib.hid (fun x (hx : x ∈ xs) => (hall x hx).2)
  have HT := Lib.hid (fun x (hx : x ∈ xs) => (hall x hx).1)
  have HLT := Lib.hid (fun (h2 : 2 ≤ p + 1) => (show x0.1 < y.1 from by
    obtain ⟨hx0', ex⟩ := List.getElem?_eq_some_iff.1 hx0
    obtain ⟨hy0', ey⟩ := List.getElem?_eq_some_iff.1 hly
    have := List.pairwise_iff_getElem.1 hpw 0 p hx0' hy0' (by omega)
    rw [ex, ey] at this; exact this))
  obtain ⟨R, hR⟩ : ∃ R, overF k xs = R := ⟨_, rfl⟩
  have HRR := Lib.hid hR
  have HNM := Lib.hid hnm
  have HX0 := Lib.hid hx0
  have HLY := Lib.hid hly
  have HPT := Lib.hid hp
  have HN0 := Lib.hid hn
  obtain rfl : p = 0 := by omega
  have HK6 := Lib.hid hk6
  have t6 : (s.toList == [105, 110, 99, 114, 101, 97, 115, 101]) = false := by
    rw [beq_eq_false_iff_ne]; intro h; rw [toList_data] at h
    rcases hnm with ⟨rfl, rfl⟩ | ⟨rfl, rfl⟩ | ⟨rfl, rfl⟩ | ⟨rfl, rfl⟩ | ⟨rfl, rfl⟩ | ⟨rfl, rfl⟩ | ⟨rfl, rfl⟩ | ⟨rfl, rfl⟩
    all_goals first | exact absurd h (by decide) | exact absurd hk6 (by decide)
  have t7 : (s.toList == [114, 97, 116, 101]) = false := by
    rw [beq_eq_false_iff_ne]; intro h; rw [toList_data] at h
    rcases hnm with ⟨rfl, rfl⟩ | ⟨rfl, rfl⟩ | ⟨rfl, rfl⟩ | ⟨rfl, rfl⟩ | ⟨rfl, rfl⟩ | ⟨rfl, rfl⟩ | ⟨rfl, rfl⟩ | ⟨rfl, rfl⟩
    all_goals first | exact absurd h (by decide) | exact absurd hk6 (by decide)
  rw [hR]
  rw [hn] at h25 ⊢
  clear hS hS0 hpw hall hnm hx0 hly hp hk8 hfn hR h1 hk6
  have HN := HN0
  clear hn
  have jn0 : (((0 + 1 : Nat) : Int) == 0) = false := beq_eq_false_iff_ne.2 (by omega)
  have jn1 : ((0 + 1 : Nat) : Int) < 2 := by omega
  go_enter Tryz.func11, Tryz.ntmps11
  go_wp2_with fail
  refine HFN.out.mono ?_
  rintro e w1 ⟨rfl, hw1⟩
  rw [hw1]
  clear hw1
  go_wp2_with fail
  refine HPP.out.mono ?_
  rintro e w2 ⟨rfl, b2⟩
  have HBw2 := Lib.hid b2
  clear b2
  have cf : w2.cell? ⟨b, off + 1, none⟩ = some (.int .i64 x0.2) := by have := (HCL.out w2 HBw2.out 0 x0 HX0.out).2; simpa using this
  go_wp2_with fail
  go_quiet (fail)
  have HBw3 := Lib.hid (quiet_below HBw2.out nq)
  clear cf
  go_wp2
  go_loopw [7, 8, 9, 10, 11, 12] (fun v7 v8 v9 v10 v11 v12 wr => ∃ (k : Nat) (zs : List Int) (lo hi g : Int) (ov : Bool), v12 = .int .i64 k ∧ k ≤ 0 + 1 ∧ zs.length ≤ k ∧ v8 = .int .i64 lo ∧ v9 = .int .i64 hi ∧ v10 = .int .i64 g ∧ v11 = .bool ov ∧ Hid (LoopP xs x0 k zs lo hi g ov) ∧ wr.ownsRow w.heap.size 3 1 v7 zs.length (zs.map (Value.int .i64)) ∧ Hid (Below w.heap.size w wr)) (fun _ _ _ _ _ v12 _ => 0 + 1 - (intOf v12).toNat)
  case atStart => exact ⟨0, [], x0.2, x0.2, 0, false, rfl, Nat.zero_le _, Nat.zero_le _, rfl, rfl, rfl, rfl, loop_start xs x0, World.ownsRow_nil _ _ _ _, HBw3⟩
  case round =>
    obtain ⟨k, zs, lo, hi', g, ov, rfl, hk, hzk, rfl, rfl, rfl, rfl, H, hown, HBwr⟩ := hrel
    have HOwr := Lib.hid hown
    clear hown
    by_cases hkn : k < 0 + 1
    · have j1 : (k : Int) < ((0 + 1 : Nat) : Int) := by omega
      obtain ⟨x, hx⟩ := Pnt.get_lt HN.out hkn
      have HX := Lib.hid hx
      obtain ⟨vx1, vx2⟩ := HV.out x (List.mem_of_getElem? hx)
      have HZ := Lib.hid HBwr.out.size
      have c0 := (HCL.out wr HBwr.out k x hx).2
      clear hx
      go_wp2_with (at_builtin; go_must (refine wpList_append_own _ rfl _ _ 58 rfl w.heap.size 3 i0 (.int .i64 0) 1 8 Tryz.underlying58 hi hz0 hz1 hz2 rfl (by decide) _ _ _ rfl (HOwr.out.alloc _) ⟨wr.heap.size, 0, none⟩ 1 1 [.int .i64 x.2] rfl rfl (cell_one wr _ _ rfl) (one_i _) (by unfold maxLen; omega) (by omega) (by simp; have := HZ.out; omega) ?_))
      intro v3 w3 hown3 hgrow3 _
      have HBw3 := Lib.hid (Below.grown (HBwr.out.alloc HZ.out _) hgrow3 (by have := HZ.out; simp; omega) (fun j hj => by have := (HOwr.out.lt _ hj).1; omega) : Below w.heap.size w w3)
      have HOw3 := Lib.hid (show w3.ownsRow w.heap.size 3 1 v3 (zs ++ [x.2]).length ((zs ++ [x.2]).map (Value.int .i64)) by rw [List.length_append, List.map_append]; exact hown3)
      clear hown3 hgrow3 c0
      have c1 := (HCL.out w3 HBw3.out k x HX.out).2
      go_wp2_with fail
      go_quiet (fail)
      obtain ⟨w4, hwq⟩ : ∃ wq, w3.drewN nq = wq := ⟨_, rfl⟩
      have HBw4 := Lib.hid (show Below w.heap.size w w4 by rw [← hwq]; exact quiet_below HBw3.out nq)
      have HOw4 := Lib.hid (Pnt.own_grown HOw3.out (show Below w3.heap.size w3 w4 by rw [← hwq]; exact quiet_below (Below.refl _ _) nq))
      rw [hwq]
      clear hwq
      clear c1
      by_cases hk0 : k = 0
      · subst hk0
        have H2 := Lib.hid (loop_first H.out HX.out)
        go_wp2
        go_roundw
        case rel => exact ⟨0 + 1, zs ++ [x.2], min lo x.2, max hi' x.2, g, ov, by go_num, by omega, by rw [List.length_append]; exact Nat.add_le_add_right hzk 1, rfl, rfl, rfl, rfl, H2, HOw4.out, HBw4⟩
        case measure => first | (simp [intOf]; done) | (simp [intOf]; omega)
      · exact absurd hkn (by omega)
    · have j1 : ¬ ((k : Int) < ((0 + 1 : Nat) : Int)) := by omega
      have HE := Lib.hid (loop_end H.out (by rw [HN.out]; omega) HPT.out HX0.out)
      have hgb := grown_bound (xs := xs.take k) (by rw [List.length_take]; omega) (fun z hz => HV.out z (List.mem_of_mem_take hz))
      rw [← H.out.g] at hgb
      obtain ⟨gb1, gb2⟩ := hgb
      obtain ⟨o2, c2, rfl, hs, _⟩ := own_ints HOwr.out
      have h5 := over_five HPT.out HN.out HLY.out
      rcases HNM.out with ⟨rfl, rfl⟩ | ⟨rfl, rfl⟩ | ⟨rfl, rfl⟩ | ⟨rfl, rfl⟩ | ⟨rfl, rfl⟩ | ⟨rfl, rfl⟩ | ⟨rfl, rfl⟩ | ⟨rfl, rfl⟩
      · obtain ⟨SM, hSM⟩ : ∃ SM, sumF zs = SM := ⟨_, rfl⟩
        have hE := HE.out.o0
        have hER := sum_err (zs := zs)
        rw [hSM] at hE hER
        have HS := Lib.hid (rsum_any o2 c2 zs wr (by omega) hs)
        rw [hSM] at HS
        obtain ⟨v, ve⟩ := SM
        by_cases hve : ve = 0
        · subst hve
          have HF := Lib.hid (HRR.out.symm.trans hE)
          clear hE hER hSM
          go_wp2_with fail
          refine HS.out.mono ?_
          rintro e wv ⟨rfl, rfl⟩
          go_wp2
          go_ret3
          exact ⟨by rw [HF.out]; rfl, HBwr.out⟩
        · have tv : (ve != 0) = true := by simpa using hve
          have hv0 : v = 0 := hER hve
          subst hv0
          have tv2 : (ve == 0) = false := by simpa using hve
          rw [tv2] at hE
          have HF := Lib.hid (HRR.out.symm.trans hE)
          clear hE hER hSM hve
          go_wp2_with fail
          refine HS.out.mono ?_
          rintro e wv ⟨rfl, rfl⟩
          go_wp2
          go_ret3
          exact ⟨by rw [HF.out]; rfl, HBwr.out⟩
      · have HF := Lib.hid (HRR.out.symm.trans HE.out.o1)
        go_wp2
        go_ret3
        exact ⟨by rw [HF.out]; rfl, HBwr.out⟩
      · have HF := Lib.hid (HRR.out.symm.trans HE.out.o2)
        go_wp2
        go_ret3
        exact ⟨by rw [HF.out]; rfl, HBwr.out⟩
      · have hE := HE.out.o3
        rw [HN.out] at hE
        have HF := Lib.hid (HRR.out.symm.trans hE)
        go_wp2
        go_ret3
        exact ⟨by rw [HF.out]; rfl, HBwr.out⟩
      · obtain ⟨SM, hSM⟩ : ∃ SM, meanF zs = SM := ⟨_, rfl⟩
        have hE := HE.out.o4
        have hER := mean_err (zs := zs)
        rw [hSM] at hE hER
        have HS := Lib.hid (rmean_any o2 c2 zs wr (by omega) hs)
        rw [hSM] at HS
        obtain ⟨v, ve⟩ := SM
        by_cases hve : ve = 0
        · subst hve
          have HF := Lib.hid (HRR.out.symm.trans hE)
          clear hE hER hSM
          go_wp2_with fail
          refine HS.out.mono ?_
          rintro e wv ⟨rfl, rfl⟩
          go_wp2
          go_ret3
          exact ⟨by rw [HF.out]; rfl, HBwr.out⟩
        · have tv : (ve != 0) = true := by simpa using hve
          have hv0 : v = 0 := hER hve
          subst hv0
          have tv2 : (ve == 0) = false := by simpa using hve
          rw [tv2] at hE
          have HF := Lib.hid (HRR.out.symm.trans hE)
          clear hE hER hSM hve
          go_wp2_with fail
          refine HS.out.mono ?_
          rintro e wv ⟨rfl, rfl⟩
          go_wp2
          go_ret3
          exact ⟨by rw [HF.out]; rfl, HBwr.out⟩
      · have cl := (HCL.out wr HBwr.out 0 y HLY.out).2
        have HF := Lib.hid (HRR.out.symm.trans h5)
        go_wp2
        go_ret3
        exact ⟨by rw [HF.out]; rfl, HBwr.out⟩
      · exact absurd HK6.out (by decide)
      · exact absurd HK6.out (by decide)
end Go.Proofs.YthbameabfmoibaaGreat.Win
