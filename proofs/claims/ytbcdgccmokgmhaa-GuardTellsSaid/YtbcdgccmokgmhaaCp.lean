/- The law: every bytes' sum and frame, every bytes that are taken, all frames. -/
import Derived.Test.YtbcdgccmokgmhaaCo
import Derived.Test.YtbcdgccmokgmhaaCk
import Derived.Test.YtbcdgccmokgmhaaTxk
namespace Go.Proofs.Ytbcdgccmokgmhaa.Crc
open Go.RowKit Go.Lib

theorem allA_frame (s r : List UInt8) (h : s.length ≤ 12000) : allA (frameL s ++ r) = (s :: (allA r).1, (allA r).2) := by
  have h1 := take_frame s r h
  have h2 := allA_step (b := frameL s ++ r) (by rw [h1])
  rw [h1] at h2
  exact h2
theorem allA_few : ∀ (n : Nat) (b : List UInt8), b.length < n → (allA b).1.length ≤ b.length ∧ (allA b).2.length ≤ b.length
  | n + 1, b, h => by
    by_cases h0 : (takeF b).1 = 0
    · have hl := take_less h0
      have ih := allA_few n (takeF b).2.2 (by omega)
      rw [allA_step h0]
      simp only [List.length_cons]
      omega
    · rw [allA_stop h0]
      exact ⟨Nat.zero_le _, Nat.le_refl _⟩

set_option maxHeartbeats 4000000 in
set_option maxRecDepth 100000 in
theorem gtells_any (s b : ByteArray) (w : World) (hsm : s.size ≤ maxLen) (hbm : b.size ≤ maxLen) :
    Calls Try.prog 3 #[.string s, .string b] w fun e w' => e = .returned (.bool true) ∧ Below w.heap.size w w' := by
  have HA := Lib.hid (fun W => alive_any W)
  obtain ⟨ns, hsz⟩ : ∃ n, s.size = n := ⟨_, rfl⟩
  obtain ⟨m, hbz⟩ : ∃ m, b.size = m := ⟨_, rfl⟩
  unfold maxLen at hsm hbm
  rw [hsz] at hsm
  rw [hbz] at hbm
  have is1 : (ns : Int) ≤ 9223372036854775807 := by omega
  have ib1 : (m : Int) ≤ 9223372036854775807 := by omega
  by_cases h0 : 2000 < ns
  · have j1 : (2000 : Int) < ns := by omega
    go_enter Try.func3, Try.ntmps3
    go_wp2_with fail
    refine (HA.out _).mono ?_
    rintro e w1 ⟨rfl, b1⟩
    have HB1 := Lib.hid b1
    clear b1
    go_wp2
    go_ret
    exact ⟨rfl, HB1.out⟩
  have j1 : (ns : Int) ≤ 2000 := by omega
  by_cases h1 : 4000 < m
  · have j2 : (4000 : Int) < m := by omega
    go_enter Try.func3, Try.ntmps3
    go_wp2_with fail
    refine (HA.out _).mono ?_
    rintro e w1 ⟨rfl, b1⟩
    have HB1 := Lib.hid b1
    clear b1
    go_wp2
    go_ret
    exact ⟨rfl, HB1.out⟩
  have j2 : (m : Int) ≤ 4000 := by omega
  obtain ⟨i0, hi, hz0, hz1, hz2⟩ := info_parts BkX.infoE
  have HF := Lib.hid (fun W => frame_any s W (by omega))
  have HDF := Lib.hid (fun W => dframe_any s W (by omega))
  have HT := Lib.hid (fun W => take_any b W (by omega))
  have HDT := Lib.hid (fun W => dtake_is b W (by omega))
  have HO := Lib.hid (fun W => of_is s W (by omega))
  have HDO := Lib.hid (fun W => dsum_is s W (by omega))
  have hfd := frameS_data s
  have hfz := frameS_size s
  obtain ⟨f, hf⟩ : ∃ f, frameS s = f := ⟨_, rfl⟩
  rw [hf] at HF HDF hfd hfz
  obtain ⟨cs, hcs⟩ : ∃ c, crcN s.data.toList = c := ⟨_, rfl⟩
  rw [hcs] at HO HDO
  obtain ⟨x, y, g, hV⟩ : ∃ x y g, takeV b = .tuple #[.string x, .string y, .int .i64 g] := ⟨_, _, _, rfl⟩
  rw [hV] at HT HDT
  obtain ⟨L, hL⟩ : ∃ L, b.data.toList = L := ⟨_, rfl⟩
  have HX := Lib.hid (fun A => (show (b.extract A m).data.toList = L.drop A by rw [← hbz, ext_rest, hL]))
  have hLm : L.length = m := by rw [← hL, ← Lib.size_eq]; exact hbz
  have HL := Lib.hid hLm
  have HAll := Lib.hid (fun W => (all_any b W (by omega)).mono fun e w' ⟨h, hb⟩ => (show (∃ v, e = Ending.returned (.tuple #[v, .int .i64 ((m - (allA L).2.length : Nat) : Int)]) ∧ w'.ownsRow W.heap.size 9 1 v (allA L).1.length (BkX.flatE (strL (allA L).1))) ∧ Below W.heap.size W w' from by
    unfold AllR at h
    rw [hL, hbz] at h
    exact ⟨h, hb⟩))
  obtain ⟨fb, hfb⟩ : ∃ fb, f ++ b = fb := ⟨_, rfl⟩
  have hfbd : fb.data.toList = frameL s.data.toList ++ L := by rw [← hfb, app_data, hfd, hL]
  have hfbz : fb.size ≤ 7000 := by rw [← hfb, ByteArray.size_append]; omega
  have HAll2 := Lib.hid (fun W => (all_any fb W (by omega)).mono fun e w' ⟨h, hb⟩ => (show (∃ (v : Value) (z : Int), e = Ending.returned (.tuple #[v, .int .i64 z]) ∧ w'.ownsRow W.heap.size 9 1 v ((allA L).1.length + 1) (BkX.flatE (s :: strL (allA L).1))) ∧ Below W.heap.size W w' from by
    unfold AllR at h
    rw [hfbd, allA_frame _ _ (by rw [← Lib.size_eq]; omega)] at h
    obtain ⟨v, h1, h2⟩ := h
    refine ⟨⟨v, _, h1, ?_⟩, hb⟩
    have e1 : strL (s.data.toList :: (allA L).1) = s :: strL (allA L).1 := by unfold strL; rw [List.map_cons, str_of]
    simp only [e1, List.length_cons] at h2
    exact h2))
  have hfew := allA_few (L.length + 1) L (by omega)
  obtain ⟨D, hD⟩ : ∃ D, (allA L).1 = D := ⟨_, rfl⟩
  obtain ⟨R, hR⟩ : ∃ R, (allA L).2 = R := ⟨_, rfl⟩
  rw [hD, hR] at HAll
  rw [hD] at HAll2
  rw [hD, hR, hLm] at hfew
  have HD := Lib.hid hD
  have HR := Lib.hid hR
  obtain ⟨q, hq⟩ : ∃ q, D.length = q := ⟨_, rfl⟩
  obtain ⟨rl, hrl⟩ : ∃ rl, R.length = rl := ⟨_, rfl⟩
  rw [hq] at HAll HAll2 hfew
  rw [hrl] at HAll hfew
  have HQ := Lib.hid hq
  have HRL := Lib.hid hrl
  obtain ⟨q1, hq1⟩ : ∃ q1, q + 1 = q1 := ⟨_, rfl⟩
  rw [hq1] at HAll2
  have iq : (q : Int) + 1 = q1 := by omega
  have iq1 : (q1 : Int) ≤ 4001 := by omega
  have iq0 : (0 : Int) < q1 := by omega
  obtain ⟨MR, hMR⟩ : ∃ MR, m - rl = MR := ⟨_, rfl⟩
  rw [hMR] at HAll
  have imr : (m : Int) - rl = MR := by omega
  have ffz : f.size ≤ 2010 := by omega
  have HFB := Lib.hid hfb
  clear hf hcs hV hL hfd hfz hfbd hfb hD hR hq hrl h0 h1 hLm
  go_enter Try.func3, Try.ntmps3
  go_wp2_with fail
  refine (HA.out _).mono ?_
  rintro e w1 ⟨rfl, b1⟩
  have HB1 := Lib.hid b1
  clear b1
  go_wp2_with fail
  refine (HF.out _).mono ?_
  rintro e w2 ⟨rfl, b2⟩
  have HB2 := Lib.hid (HB1.out.trans (b2.mono HB1.out.size))
  clear b2
  go_wp2_with fail
  refine (HT.out _).mono ?_
  rintro e w3 ⟨rfl, b3⟩
  have HB3 := Lib.hid (HB2.out.trans (b3.mono HB2.out.size))
  clear b3
  go_wp2_with fail
  refine (HDT.out _).mono ?_
  rintro e w4 ⟨rfl, hn4⟩
  have HB4 := Lib.hid (show Below w.heap.size w w4 from by obtain ⟨n, rfl⟩ := hn4; exact HB3.out.trans ((drewN_below w3 n).mono HB3.out.size))
  clear hn4
  go_wp2_with fail
  refine (HDF.out _).mono ?_
  rintro e w5 ⟨rfl, b5⟩
  have HB5 := Lib.hid (HB4.out.trans (b5.mono HB4.out.size))
  clear b5
  go_wp2_with fail
  refine (HO.out _).mono ?_
  rintro e w6 ⟨rfl, rfl⟩
  go_wp2_with fail
  refine (HDO.out _).mono ?_
  rintro e w6 ⟨rfl, rfl⟩
  go_wp2_with fail
  clear HF HDF HT HDT HO HDO HA HB1 HB2 HB3 HB4
  go_loopw [13, 14] (fun v13 v14 wr => ∃ (A : Nat) (done : List (List UInt8)) (u : ByteArray), v14 = .string u ∧ A ≤ m ∧ done.length ≤ A ∧ Hid (u.data.toList = L.drop A) ∧ Hid (D = done ++ (allA (L.drop A)).1 ∧ R = (allA (L.drop A)).2) ∧ wr.ownsRow w.heap.size 9 1 v13 done.length (BkX.flatE (strL done)) ∧ Hid (Below w.heap.size w wr)) (fun _ v14 _ => match v14 with | .string u => u.size | _ => 0)
  case atStart =>
    refine ⟨0, [], b, rfl, Nat.zero_le _, Nat.le_refl _, ?_, ⟨by rw [← HD.out]; rfl, by rw [← HR.out]; rfl⟩, World.ownsRow_nil _ _ _ _, HB5.out⟩
    have h := HX.out 0
    rw [show b.extract 0 m = b from bytes_same (by rw [HX.out 0, ← HX.out 0, ext_data, List.drop_zero, Nat.sub_zero, List.take_of_length_le (by rw [← Lib.size_eq, hbz]; exact Nat.le_refl _)])] at h
    exact h
  case round =>
    obtain ⟨A, done, u, rfl, hA, hd, HU, HI, hown, HB⟩ := hrel
    have hus : u.size = m - A := by rw [Lib.size_eq, HU.out, List.length_drop, HL.out]
    have HDT := Lib.hid (fun W => dtake_is u W (by omega))
    by_cases h0 : (takeF (L.drop A)).1 = 0
    case pos =>
      obtain ⟨hr, hl⟩ := take_rest h0
      rw [List.length_drop, HL.out] at hl
      obtain ⟨sx, hs⟩ : ∃ s, (takeF (L.drop A)).2.1 = s := ⟨_, rfl⟩
      rw [hs, List.drop_drop] at hr
      rw [hs] at hl
      have hst := allA_step h0
      rw [hs, hr] at hst
      obtain ⟨z, hz⟩ : ∃ z : ByteArray, ⟨sx.toArray⟩ = z := ⟨_, rfl⟩
      obtain ⟨N, hN⟩ : ∃ N, sx.length + 10 = N := ⟨_, rfl⟩
      rw [hN] at hst hl hr
      obtain ⟨u2, hu2⟩ : ∃ u2 : ByteArray, ⟨(L.drop (A + N)).toArray⟩ = u2 := ⟨_, rfl⟩
      have HU2 := Lib.hid (show u2.data.toList = L.drop (A + N) by rw [← hu2, str_data])
      have HW := Lib.hid (show takeV u = .tuple #[.string z, .string u2, .int .i64 0] by
        unfold takeV; rw [HU.out, h0, hs, hr, hz, hu2]; rfl)
      rw [HW.out] at HDT
      have HI2 := Lib.hid (show D = (done ++ [sx]) ++ (allA (L.drop (A + N))).1 ∧ R = (allA (L.drop (A + N))).2 by
        rw [HI.out.1, HI.out.2, hst, List.append_assoc]; exact ⟨rfl, rfl⟩)
      have HZ := Lib.hid (show strL (done ++ [sx]) = strL done ++ [z] by rw [strL_snoc, hz])
      have hus2 : u2.size = m - (A + N) := by rw [Lib.size_eq, HU2.out, List.length_drop, HL.out]
      have hN1 : 1 ≤ N := by omega
      have hN2 : A + N ≤ m := by omega
      have hwr := HB.out.size
      have HM := Lib.hid (show u2.size < u.size by omega)
      clear HI HW hst hr hl hs h0 hz hus hus2 hu2 HU HAll HAll2
      go_wp2_with fail
      refine (HDT.out _).mono ?_
      rintro e w7 ⟨rfl, hn7⟩
      have b7 : Below wr.heap.size wr w7 := by obtain ⟨n, rfl⟩ := hn7; exact drewN_below wr n
      have HB7 := Lib.hid (HB.out.trans (b7.mono HB.out.size))
      have hown2 := BkX.own_grown hown b7
      have hw2 := HB7.out.size
      clear b7 hn7
      go_wp2_with (at_builtin; go_must (refine wpList_append_own _ rfl _ _ 31 rfl w.heap.size 9 i0 (.string ⟨#[]⟩) 1 16 Try.underlying31 hi hz0 hz1 hz2 rfl (by decide) _ _ _ rfl (hown2.alloc _) ⟨w7.heap.size, 0, none⟩ 1 1 [.string z] rfl rfl (BkX.cell_1 _ _ _) (BkX.encE_cells z) (by unfold maxLen; omega) (by omega) (by simp; omega) ?_); intro v' w3 hown' hgrow3 hnil3)
      have HB3 := Lib.hid (Below.grown (HB7.out.alloc (by omega) _) hgrow3 (by simp; omega) (fun j hj => (hown2.lt _ hj).1) : Below w.heap.size w w3)
      have ho3 : w3.ownsRow w.heap.size 9 1 v' (done ++ [sx]).length (BkX.flatE (strL (done ++ [sx]))) := by
        rw [HZ.out, BkX.flatE_append, BkX.flatE_one, List.length_append]; exact hown'
      clear hown' hgrow3 hnil3
      go_wp2
      go_roundw
      case rel => exact ⟨A + N, done ++ [sx], u2, rfl, hN2, by rw [List.length_append]; simp; omega, HU2, HI2, ho3, HB3⟩
      case measure => exact HM.out
    case neg =>
      obtain ⟨n, hn⟩ : ∃ n, (takeF (L.drop A)).1 = n := ⟨_, rfl⟩
      have h1 := take_none h0
      rw [hn] at h0
      have he : takeF u.data.toList = (n, [], []) := by rw [← hn, HU.out]; exact Prod.ext rfl (Prod.ext h1.1 h1.2)
      rw [takeV_err u n he] at HDT
      have j0 : ¬ (n : Int) = 0 := by omega
      have hs := allA_stop (b := L.drop A) (by rw [hn]; exact h0)
      obtain ⟨rfl, hRA⟩ : D = done ∧ R = L.drop A := by
        rw [HI.out.1, HI.out.2, hs]; exact ⟨List.append_nil _, rfl⟩
      have huz : u.size = rl := by rw [hus, ← HRL.out, hRA, List.length_drop, HL.out]
      have hql : D.length = q := HQ.out
      rw [hql] at hown
      have hsq : (strL D).length = q := by rw [strL_len]; exact hql
      have HSQ := Lib.hid hsq
      clear HI hs hn h1 he h0 hus HU hRA hql hd
      go_wp2_with fail
      refine (HDT.out _).mono ?_
      rintro e w7 ⟨rfl, hn7⟩
      have b7 : Below wr.heap.size wr w7 := by obtain ⟨n, rfl⟩ := hn7; exact drewN_below wr n
      have HB7 := Lib.hid (HB.out.trans (b7.mono HB.out.size))
      obtain ⟨o13, c13, rfl, h13⟩ := own_seesT hsq (BkX.own_grown hown b7)
      have H13 := Lib.hid h13
      clear b7 hn7 h13 hown HB hsq HDT
      go_wp2_with fail
      obtain ⟨W0, hW0⟩ : ∃ W0, w7.alloc (Obj.cells #[.slice none 0 0, .slice none 0 0, .slice none 0 0, .slice none 0 0, .slice none 0 0, .slice none 0 0, .slice none 0 0, .slice none 0 0, .slice none 0 0, .slice none 0 0, .slice none 0 0, .slice none 0 0, .slice none 0 0, .slice none 0 0, .slice none 0 0, .slice none 0 0, .slice none 0 0, .slice none 0 0, .slice none 0 0, .slice none 0 0] 44) = W0 := ⟨_, rfl⟩
      rw [hW0]
      have HK0 := Lib.hid (show Txb.Bk w7.heap.size W0 0 by rw [← hW0]; exact Txb.bk_start w7)
      have HW0 := Lib.hid (show Below w7.heap.size w7 W0 by rw [← hW0]; exact (Below.refl _ _).alloc (Nat.le_refl _) _)
      obtain ⟨B, hB⟩ : ∃ B, w7.heap.size = B := ⟨_, rfl⟩
      have HBB := Lib.hid hB
      rw [hB] at HK0 HW0 ⊢
      have hBw : w.heap.size ≤ B := by have := HB7.out.size; rw [hB] at this; exact this
      have h0 : B ≤ W0.heap.size := by have := HW0.out.size; rw [hB] at this; exact this
      have H13B := Lib.hid (fun W (hb : Below B w7 W) => (show SeesT W o13 (strL D) from H13.out.below (by rw [HBB.out]; exact hb)))
      clear hW0 hB H13
      refine (HAll.out W0).mono ?_
      rintro e w8 ⟨⟨va, rfl, ha⟩, b8⟩
      have h8 : W0.heap.size ≤ w8.heap.size := b8.size
      obtain ⟨oa, ca, rfl, hsa⟩ := own_seesT HSQ.out ha
      clear hsa
      have HA := Lib.hid ha
      have HB8 := Lib.hid (HW0.out.trans (b8.mono h0))
      have HK8 := Lib.hid (HK0.out.before (Nat.le_refl _) b8)
      clear ha b8
      go_wp2_with fail
      refine (Txb.book_keep HSQ.out HK8.out (by omega) h0 HA.out (by omega) (by omega) (s2 := w8.heap.size) h8 (fun b e => (HA.out.lt b e).2)).mono ?_
      rintro e w9 ⟨rfl, hk9, b9, f9⟩
      have h9 : w8.heap.size ≤ w9.heap.size := b9.size
      have HK9 := Lib.hid hk9
      have HA9 := Lib.hid (f9 _ _ _ (BkX.own_mono HA.out h0))
      have HB9 := Lib.hid (HB8.out.trans b9)
      clear hk9 b9 f9
      go_wp2_with fail
      rw [show f ++ b = fb from HFB.out]
      refine (HAll2.out w9).mono ?_
      rintro e w10 ⟨⟨vm, zm, rfl, hmr⟩, b10⟩
      have h10 : w9.heap.size ≤ w10.heap.size := b10.size
      have HSQ1 := Lib.hid (show (s :: strL D).length = q1 by rw [List.length_cons, HSQ.out]; exact hq1)
      obtain ⟨om, cm, rfl, hsm2⟩ := own_seesT HSQ1.out hmr
      clear hsm2
      have HV := Lib.hid hmr
      have HA10 := Lib.hid (BkX.own_grown HA9.out b10)
      have HB10 := Lib.hid (HB9.out.trans (b10.mono (by omega)))
      have HK10 := Lib.hid ((HK9.out.to h9).before (Nat.le_refl _) b10)
      clear hmr b10
      go_wp2_with fail
      refine (Txb.book_keep HSQ1.out HK10.out (by omega) (by omega) HV.out (by omega) (by omega) (s2 := w10.heap.size) h10 (fun b e => (HV.out.lt b e).2)).mono ?_
      rintro e w11 ⟨rfl, hk11, b11, f11⟩
      have h11 : w10.heap.size ≤ w11.heap.size := b11.size
      have HK11 := Lib.hid (hk11.to h11)
      have HB11 := Lib.hid (HB10.out.trans b11)
      have HA11 := Lib.hid (f11 _ _ _ HA10.out)
      have HV11 := Lib.hid (f11 _ _ _ (BkX.own_mono HV.out (by omega)))
      clear hk11 b11 f11
      have HSame := Lib.hid (show Calls Try.prog 17 #[.slice oa q ca, .slice o13 q c13] w11 fun e w' => e = .returned (.bool true) ∧ Below w11.heap.size w11 w' from by
        obtain ⟨o', c', e, h⟩ := own_seesT HSQ.out HA11.out
        cases e
        have h2 := same_any oa o13 ca c13 (strL D) (by rw [HSQ.out]; omega) w11 h (H13B.out w11 HB11.out)
        rwa [HSQ.out] at h2)
      obtain ⟨gm, hgm, hcm⟩ : ∃ gm, om = some ⟨gm, 0, none⟩ ∧ w11.cell? ⟨gm, 0, none⟩ = some (.string s) ∧ gm < w11.heap.size := by
        rcases BkX.own_open HV11.out with ⟨_, h, _⟩ | ⟨gm, cap, e, _, hg, _, _, hc⟩
        · omega
        · cases e
          exact ⟨gm, rfl, hc 0 _ (by rw [show s :: strL D = [s] ++ strL D from rfl, BkX.flatE_append, BkX.flatE_one]; rfl), hg⟩
      subst hgm
      have HCM := Lib.hid hcm
      have hB11 : B ≤ w11.heap.size := by omega
      clear hcm HA9 HA10 HA11 HV HV11 HK8 HK9 HK10 HA HK0 HAll HAll2 H13B h8 h9 h10
      go_wp2_with fail
      refine HSame.out.mono ?_
      rintro e w12 ⟨rfl, b12⟩
      have cm0 : w12.cell? ⟨gm, 0, none⟩ = some (.string s) := (b12.cell (p := ⟨gm, 0, none⟩) HCM.out.2).trans HCM.out.1
      have HB12 := Lib.hid (HB11.out.trans (b12.mono (by omega)))
      have HAp := Lib.hid (Txb.book_apart (HK11.out.below b12) HB12.out (by rw [HBB.out]; exact Nat.le_refl _))
      have HBZ := Lib.hid (HB7.out.trans (HB12.out.mono hBw))
      clear b12 HSame HCM HK11 HB11 HB10 HB9 HB8 HW0
      go_wp2_with fail
      refine HAp.out.mono ?_
      rintro e w13 ⟨rfl, b13⟩
      have HBE := Lib.hid (HB7.out.trans (b13.mono hBw))
      clear b13
      go_wp2
      go_ret
      exact ⟨rfl, HBE.out⟩
end Go.Proofs.Ytbcdgccmokgmhaa.Crc
