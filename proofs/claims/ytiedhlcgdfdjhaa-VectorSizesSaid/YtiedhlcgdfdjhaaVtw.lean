/- The walk of the statement on a vector without metrics less itself. -/
import Derived.Test.YtiedhlcgdfdjhaaVng
namespace Go.Proofs.Ytiedhlcgdfdjhaa.Vec
open Go.RowKit

theorem zeros_at {a : List Rw} {i : Nat} {y : Rw} (h : (a.map fun x => ((x.1, 0) : Rw))[i]? = some y) : ∃ x, a[i]? = some x ∧ y = (x.1, 0) := by
  rw [List.getElem?_map, Option.map_eq_some_iff] at h
  obtain ⟨x, hx, rfl⟩ := h
  exact ⟨x, hx, rfl⟩

set_option maxHeartbeats 16000000 in
set_option maxRecDepth 100000 in
theorem twice_any (o : Option Addr) (n c : Nat) (xs : List Rw) (w : World) (hn : xs.length = n) (hS : RowsS w w.heap.size o xs) :
    Calls Try.prog 3 #[.slice o n c] w fun e w' => e = .returned (.bool true) ∧ Below w.heap.size w w' := by
  obtain ⟨i0, hi, hz0, hz1, hz2⟩ := info_parts infoRow
  have HAl := Lib.hid (fun W => alive_any W)
  have HLt := Lib.hid (lightR_any o n c xs w _ hn hS)
  cases hl : lightR xs with
  | false =>
    rw [hl] at HLt
    clear hl hS
    go_enter Try.func3, Try.ntmps3
    go_wp2_with fail
    refine HLt.out.mono ?_
    rintro e w1 ⟨rfl, b1⟩
    go_wp2_with fail
    refine (HAl.out _).mono ?_
    rintro e w2 ⟨rfl, b2⟩
    go_wp2
    go_ret
    exact ⟨rfl, b1.trans (b2.mono b1.size)⟩
  | true =>
  obtain ⟨h60, hsm⟩ := lightR_mk hl
  rw [hl] at HLt
  have har := vecT_right xs
  have hal : (vecT xs).length ≤ 60 := Nat.le_trans (vecT_len xs) h60
  have HT := Lib.hid (fun W (hb : Below w.heap.size w W) => ltidy_any o n c xs W _ hn (by omega) hsm (hS.below frow hb))
  obtain ⟨t, ht⟩ : ∃ t, vecT xs = t := ⟨_, rfl⟩
  rw [ht] at har hal HT
  obtain ⟨S1, S2, S3⟩ := twice_plain har
  obtain ⟨nt, hnt⟩ : ∃ nt, t.length = nt := ⟨_, rfl⟩
  obtain ⟨a, ha⟩ : ∃ a, t.filter noMet = a := ⟨_, rfl⟩
  have hfl : a.length ≤ 60 := by rw [← ha]; exact Nat.le_trans (List.length_filter_le _ _) hal
  rw [ha] at S1 S2 S3
  obtain ⟨na, hna⟩ : ∃ na, a.length = na := ⟨_, rfl⟩
  have hM := fun (op : ByteArray) (r : List Rw × Int) (hop : op.size ≤ maxLen) (hr : matchR op a a 0 [] = r) (W : World) o c (s : RowsS W 0 o a) => (show Calls Try.prog 13 #[.string op, .slice o na c, .slice o na c, .int .i64 0, .slice none 0 0] W (AnsR W r) from by
    rw [← hr]; exact match_any op o o none na c na c 0 0 0 [] a a W hop hna hna rfl (by unfold maxLen; omega) (by unfold maxLen; omega) (Nat.zero_le _) 0 (Nat.zero_le _) s s (seesNil W))
  have HM1 := Lib.hid (hM _ _ (by decide) S1)
  have HM2 := Lib.hid (hM _ _ (by decide) S2)
  have HM3 := Lib.hid (hM _ _ (by decide) S3)
  have HSame := Lib.hid (fun (W : World) o1 o2 c1 c2 (l : List Rw) (h1 : l.length = na) (s1 : RowsS W 0 o1 l) (s2 : RowsS W 0 o2 l) => (show Calls Try.prog 14 #[.slice o1 na c1, .slice o2 na c2] W fun e w' => e = .returned (.bool true) ∧ Below W.heap.size W w' from by
    have := same_any o1 o2 na c1 na c2 l l W h1 h1 (by unfold maxLen; omega) (by unfold maxLen; omega) 0 s1 s2
    rw [sameR_refl] at this; exact this))
  have HNT := Lib.hid hnt
  have HA := Lib.hid ha
  have HNA := Lib.hid hna
  have HTR := Lib.hid har
  have hnt60 : nt ≤ 60 := by rw [← hnt]; exact hal
  have hna60 : na ≤ 60 := by rw [← hna]; exact hfl
  clear hl hS har hal S1 S2 S3 hnt ha hfl hna hsm ht hM
  go_enter Try.func3, Try.ntmps3
  go_wp2_with fail
  refine HLt.out.mono ?_
  rintro e w1 ⟨rfl, b1⟩
  go_wp2_with fail
  refine (HAl.out _).mono ?_
  rintro e w2 ⟨rfl, b2⟩
  have b12 := b1.trans (b2.mono b1.size)
  clear b1 b2
  go_wp2_with fail
  refine (HT.out _ b12).mono ?_
  rintro e w3 ⟨⟨vt, ust, rfl, hot⟩, b3⟩
  obtain ⟨oT, cT, rfl, hsT, _⟩ := hot.sees frow
  rw [HNT.out]
  have HB3 := Lib.hid (b12.trans (b3.mono b12.size))
  have HST := Lib.hid hsT
  clear b12 b3 hot hsT HLt HAl HT
  go_wp2
  go_loopw [3, 5] (fun va vi wr => ∃ (i : Nat) (us : List (List Value)), vi = .int .i64 i ∧ i ≤ nt ∧ us.length ≤ i ∧ OwnR wr w3.heap.size va us ((t.take i).filter noMet) ∧ Hid (Below w3.heap.size w3 wr)) (fun _ vi _ => nt - (intOf vi).toNat)
  case atStart => exact ⟨0, [], rfl, Nat.zero_le _, Nat.zero_le _, OwnG.nil _ _, Below.refl _ _⟩
  case round =>
    obtain ⟨i, us, rfl, hik, hus, hown, HB⟩ := hrel
    by_cases hin : i < nt
    · have j1 : (i : Int) < nt := by omega
      obtain ⟨x, hx⟩ := get_ltG HNT.out hin
      obtain ⟨b, off, rfl, hR⟩ := (HST.out.below frow HB.out).at hx
      obtain ⟨oL, cL, c0, c1, hL, lL⟩ := row_at hR hx
      obtain ⟨nL, hnL⟩ : ∃ nL, x.1.length = nL := ⟨_, rfl⟩
      have HG := Lib.hid (show Calls Try.prog 12 #[.slice oL nL cL, .string metricT] wr fun e w' => e = .returned (.string (getL metricT x.1)) ∧ wr = w' from by
        rw [← hnL]; exact rget_any oL cL x.1 metricT wr lL hL.sees)
      have hstep := take_filter noMet hx
      rw [hnL] at c0
      obtain ⟨g, hg⟩ : ∃ g, getL metricT x.1 = g := ⟨_, rfl⟩
      have hcx : noMet x = g.toList.isEmpty := by unfold noMet; rw [hg]
      rw [hg] at HG
      have HL := Lib.hid hL
      have HnL := Lib.hid hnL
      have HlL := Lib.hid lL
      have HO := Lib.hid hown
      clear hR hx hL hnL lL hg hown
      by_cases hg0 : g.toList = []
      · have g1 : (g.toList == []) = true := by rw [hg0]; rfl
        have g2 : g.toList.isEmpty = true := by rw [hg0]; rfl
        have hc : noMet x = true := by rw [hcx]; exact g2
        rw [hc, if_pos rfl] at hstep
        have HSt := Lib.hid hstep
        have hbs := HB.out.size
        have HLT := Lib.hid (fun g hg => HO.out.own.lt g hg)
        clear hstep hc hcx
        go_wp2_with fail
        refine HG.out.mono ?_
        rintro e w4 ⟨rfl, rfl⟩
        go_wp2_with (at_builtin; go_must (refine wpList_append_own _ rfl _ _ 22 rfl w3.heap.size 29 i0 (.agg #[.slice none 0 0, .int .i64 0]) 2 32 Try.underlying22 hi hz0 hz1 hz2 rfl (by decide) _ _ _ rfl (HO.out.own.alloc _) ⟨wr.heap.size, 0, none⟩ 1 1 [.slice oL nL cL, .int .i64 x.2] rfl rfl (cells_k _ _ _) (by intro v hv; simp at hv; rcases hv with rfl | rfl <;> rfl) (by unfold maxLen; omega) (by omega) (by simp; omega) ?_); intro vA wA hoA hgA hnA)
        have hal : Below wr.heap.size wr (wr.alloc (Obj.cells #[.slice oL nL cL, .int .i64 x.2] 29)) := (Below.refl _ _).alloc (Nat.le_refl _) _
        have HAp := Lib.hid (show OwnR wA w3.heap.size vA (us ++ [[.slice oL nL cL, .int .i64 x.2]]) ((t.take (i + 1)).filter noMet) from by
          rw [HSt.out]
          exact (HO.out.below frow hal).snoc frow (Nat.zero_le _) ⟨oL, cL, by rw [HnL.out], HL.out.below hal, HlL.out⟩ hoA hgA)
        have HBA := Lib.hid (Below.grown (HB.out.trans (hal.mono hbs)) hgA (by simp; omega) (fun g hg => (HLT.out g hg).1))
        clear hoA hgA hal hnA hbs
        go_roundw
        case rel => exact ⟨i + 1, _, by go_num, by omega, by simp; omega, HAp.out, HBA⟩
        case measure => simp [intOf]; omega
      · have g1 : (g.toList == []) = false := beq_eq_false_iff_ne.2 hg0
        have g2 : g.toList.isEmpty = false := by rw [List.isEmpty_eq_false_iff]; exact hg0
        have hc : noMet x = false := by rw [hcx]; exact g2
        rw [hc, if_neg (by decide)] at hstep
        have HSt := Lib.hid hstep
        clear hstep hc hcx
        go_wp2_with fail
        refine HG.out.mono ?_
        rintro e w4 ⟨rfl, rfl⟩
        go_wp2
        go_roundw
        case rel => exact ⟨i + 1, us, by go_num, by omega, by omega, by rw [HSt.out]; exact HO.out, HB⟩
        case measure => simp [intOf]; omega
    · have j1 : ¬ (i : Int) < nt := by omega
      have hE : t.take i = t := List.take_of_length_le (by rw [HNT.out]; omega)
      rw [hE, HA.out] at hown
      obtain ⟨oA, cA, rfl, hsA, _⟩ := hown.sees frow
      rw [HNA.out]
      have HSA := Lib.hid hsA
      have HB4 := Lib.hid (HB3.out.trans (HB.out.mono HB3.out.size))
      clear hown hsA hE
      go_wp2_with fail
      refine (HM1.out _ oA cA HSA.out).mono ?_
      rintro e w5 ⟨ho, b5⟩
      obtain ⟨vz, usz, rfl, hoz⟩ := out_own ho
      obtain ⟨oZ, cZ, rfl, hsZ, _⟩ := hoz.sees frow
      rw [List.length_map, HNA.out]
      have HSZ := Lib.hid hsZ
      have HSA5 := Lib.hid (HSA.out.below frow b5)
      have HB5 := Lib.hid (HB4.out.trans (b5.mono HB4.out.size))
      clear ho hoz hsZ b5 HSA HB4 HM1
      go_wp2_with fail
      refine (HM2.out _ oA cA HSA5.out).mono ?_
      rintro e w6 ⟨ho, b6⟩
      obtain ⟨vs, uss, rfl, hos⟩ := out_own ho
      obtain ⟨oS, cS, rfl, hsS, _⟩ := hos.sees frow
      rw [HNA.out]
      have HSS := Lib.hid hsS
      have HSZ6 := Lib.hid (HSZ.out.below frow b6)
      have HSA6 := Lib.hid (HSA5.out.below frow b6)
      have HB6 := Lib.hid (HB5.out.trans (b6.mono HB5.out.size))
      clear ho hos hsS b6 HSA5 HB5 HM2 HSZ
      go_wp2_with fail
      refine (HM3.out _ oA cA HSA6.out).mono ?_
      rintro e w7 ⟨ho, b7⟩
      obtain ⟨vq, usq, rfl, hoq⟩ := out_own ho
      obtain ⟨oQ, cQ, rfl, hsQ, _⟩ := hoq.sees frow
      rw [show ([] : List Rw).length = 0 from rfl]
      have HSZ7 := Lib.hid (HSZ6.out.below frow b7)
      have HSA7 := Lib.hid (HSA6.out.below frow b7)
      have HSm := Lib.hid (HSame.out w7 oS oA cS cA a HNA.out (HSS.out.below frow b7) HSA7.out)
      have HB7 := Lib.hid (HB6.out.trans (b7.mono HB6.out.size))
      clear ho hoq hsQ b7 HSA6 HB6 HM3 HSZ6 HSS HSame
      go_wp2_with fail
      refine HSm.out.mono ?_
      rintro e w8 ⟨rfl, b8⟩
      have HSZ8 := Lib.hid (HSZ7.out.below frow b8)
      have HSA8 := Lib.hid (HSA7.out.below frow b8)
      have HB8 := Lib.hid (HB7.out.trans (b8.mono HB7.out.size))
      clear b8 HSm HSZ7 HSA7 HB7
      go_wp2
      go_loopw [12] (fun v12 wi => ∃ k : Nat, v12 = .int .i64 k ∧ k ≤ na ∧ Hid (∃ q, wi = w8.drewN q)) (fun v12 _ => na - (intOf v12).toNat)
      case atStart => exact ⟨0, rfl, Nat.zero_le _, Lib.hid ⟨0, rfl⟩⟩
      case round =>
        obtain ⟨k, rfl, hk, HQ⟩ := hrel
        by_cases hkn : k < na
        · have j2 : (k : Int) < na := by omega
          obtain ⟨x, hx⟩ := get_ltG HNA.out hkn
          have hz : (a.map fun x => ((x.1, 0) : Rw))[k]? = some (x.1, 0) := by rw [List.getElem?_map, hx]; rfl
          obtain ⟨b1, off1, rfl, hR1⟩ := (HSZ8.out.below frow (quietB HQ.out)).at hz
          obtain ⟨b2, off2, rfl, hR2⟩ := (HSA8.out.below frow (quietB HQ.out)).at hx
          obtain ⟨o1, e1, c0, c1, hL1, l1⟩ := row_at hR1 hz
          obtain ⟨o2, e2, d0, d1, hL2, l2⟩ := row_at hR2 hx
          simp only at c0 c1 hL1 l1
          have HCL := Lib.hid (fun q => (show Calls Try.prog 15 #[.slice o1 x.1.length e1, .slice o2 x.1.length e2] (wr.drewN q) fun e w' => e = .returned (.bool true) ∧ ∃ p, w' = (wr.drewN q).drewN p from by
            have := sameLabels_quiet o1 o2 e1 e2 x.1 x.1 (wr.drewN q) l1 l2 (hL1.sees.below (quietB ⟨q, rfl⟩)) (hL2.sees.below (quietB ⟨q, rfl⟩))
            rw [Go.Proofs.Ytiedhlcgdfdjhaa.sameL_refl] at this
            exact this))
          clear hx hz hR1 hR2 hL1 hL2 l1 l2
          generalize x.1.length = nL at c0 d0 HCL
          go_wp2_with fail
          go_quiet (first | (go_at_call 15; exact Calls.quiet_of (HCL.out _)))
          have HQ2 := Lib.hid (quietQ HQ.out nq)
          go_wp2
          go_roundw
          case rel => exact ⟨k + 1, by go_num, by omega, HQ2⟩
          case measure => simp [intOf]; omega
        · have j2 : ¬ (k : Int) < na := by omega
          have HBf := Lib.hid (HB8.out.trans ((quietB HQ.out).mono HB8.out.size))
          go_wp2
          go_ret
          exact ⟨rfl, HBf.out⟩
end Go.Proofs.Ytiedhlcgdfdjhaa.Vec
