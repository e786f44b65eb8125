/- The walk of the statement on what is turned twice. -/
import Derived.Test.YtiedhlcgdfdjhaaVpn
namespace Go.Proofs.Ytiedhlcgdfdjhaa.Vec
open Go.RowKit

set_option maxHeartbeats 2000000 in
set_option maxRecDepth 100000 in
theorem neg_any (o : Option Addr) (n c : Nat) (xs : List Rw) (w : World) (hn : xs.length = n) (hm : n ≤ maxLen) (B : Nat) (hB : B ≤ w.heap.size) (hS : RowsS w B o xs) :
    Calls Try.prog 21 #[.slice o n c] w (AnsR w (scaleR ⟨#[45]⟩ xs 0 true)) := by
  have H := Lib.hid (scale_any ⟨#[45]⟩ o n c 0 true xs w (by decide) hn hm B hB hS)
  clear hS hn hm hB
  go_enter Try.func21, Try.ntmps21
  go_wp2_with fail
  refine H.out.mono ?_
  rintro e w1 ⟨⟨v, rfl, us, ho⟩, b1⟩
  have HO := Lib.hid ho
  clear ho
  go_wp2
  go_ret2
  exact ⟨⟨v, rfl, us, HO.out⟩, b1⟩
theorem take_filter (c : Rw → Bool) {t : List Rw} {i : Nat} {x : Rw} (h : t[i]? = some x) : (t.take (i + 1)).filter c = if c x then (t.take i).filter c ++ [x] else (t.take i).filter c := by
  rw [take_atG h, List.filter_append]
  cases hc : c x <;> simp [hc]

set_option maxHeartbeats 16000000 in
set_option maxRecDepth 100000 in
theorem negs_any (o : Option Addr) (n c : Nat) (xs : List Rw) (v : Int) (w : World) (hn : xs.length = n) (hS : RowsS w w.heap.size o xs) :
    Calls Try.prog 7 #[.slice o n c, .int .i64 v] w fun e w' => e = .returned (.bool true) ∧ Below w.heap.size w w' := by
  obtain ⟨i0, hi, hz0, hz1, hz2⟩ := info_parts infoRow
  have HAl := Lib.hid (fun W => alive_any W)
  have HLt := Lib.hid (lightR_any o n c xs w _ hn hS)
  cases hl : lightR xs with
  | false =>
    rw [hl] at HLt
    clear hl hS
    go_enter Try.func7, Try.ntmps7
    go_wp2_with fail
    refine HLt.out.mono ?_
    rintro e w1 ⟨rfl, b1⟩
    go_wp2_with fail
    refine (HAl.out _).mono ?_
    rintro e w2 ⟨rfl, b2⟩
    go_wp2
    go_ret
    exact ⟨rfl, b1.trans (b2.mono b1.size)⟩
  | true =>
  obtain ⟨h60, hsm⟩ := lightR_mk hl
  rw [hl] at HLt
  by_cases hv1 : 1000000 < v
  · clear hl hS
    go_enter Try.func7, Try.ntmps7
    go_wp2_with fail
    refine HLt.out.mono ?_
    rintro e w1 ⟨rfl, b1⟩
    go_wp2_with fail
    refine (HAl.out _).mono ?_
    rintro e w2 ⟨rfl, b2⟩
    go_wp2
    go_ret
    exact ⟨rfl, b1.trans (b2.mono b1.size)⟩
  by_cases hv2 : v < -1000000
  · clear hl hS
    go_enter Try.func7, Try.ntmps7
    go_wp2_with fail
    refine HLt.out.mono ?_
    rintro e w1 ⟨rfl, b1⟩
    go_wp2_with fail
    refine (HAl.out _).mono ?_
    rintro e w2 ⟨rfl, b2⟩
    go_wp2
    go_ret
    exact ⟨rfl, b1.trans (b2.mono b1.size)⟩
  have har := vecT_right xs
  have hal : (vecT xs).length ≤ 60 := Nat.le_trans (vecT_len xs) h60
  have HT := Lib.hid (fun W (hb : Below w.heap.size w W) => ltidy_any o n c xs W _ hn (by omega) hsm (hS.below frow hb))
  obtain ⟨t, ht⟩ : ∃ t, vecT xs = t := ⟨_, rfl⟩
  rw [ht] at har hal HT
  obtain ⟨rn, rx, hln, hlx, hrn, S1, S2, S3, S4⟩ := negs_plain har hv1 hv2
  obtain ⟨nt, hnt⟩ : ∃ nt, t.length = nt := ⟨_, rfl⟩
  obtain ⟨a, ha⟩ : ∃ a, t.filter midC = a := ⟨_, rfl⟩
  have hfl : a.length ≤ 60 := by rw [← ha]; exact Nat.le_trans (List.length_filter_le _ _) hal
  rw [ha] at hln S1 S2 S3
  obtain ⟨na, hna⟩ : ∃ na, a.length = na := ⟨_, rfl⟩
  have hlna : rn.length = na := by rw [hln, hna]
  have hlxa : rx.length = na := by rw [hlx, hlna]
  have HN1 := Lib.hid (fun (W : World) o c (s : RowsS W 0 o a) => (show Calls Try.prog 21 #[.slice o na c] W (AnsR W (rn, 0)) from by
    rw [← S1]; exact neg_any o na c a W hna (by unfold maxLen; omega) 0 (Nat.zero_le _) s))
  have HN2 := Lib.hid (fun (W : World) o c (s : RowsS W 0 o rn) => (show Calls Try.prog 21 #[.slice o na c] W (AnsR W (a, 0)) from by
    rw [← S2]; exact neg_any o na c rn W hlna (by unfold maxLen; omega) 0 (Nat.zero_le _) s))
  have HX1 := Lib.hid (fun (W : World) o c (s : RowsS W 0 o a) => (show Calls Try.prog 17 #[.string ⟨#[45]⟩, .slice o na c, .int .i64 v, .bool true] W (AnsR W (rx, 0)) from by
    rw [← S3]; exact scale_any _ o na c v true a W (by decide) hna (by unfold maxLen; omega) 0 (Nat.zero_le _) s))
  have HX2 := Lib.hid (fun (W : World) o c (s : RowsS W 0 o rn) => (show Calls Try.prog 17 #[.string ⟨#[43]⟩, .slice o na c, .int .i64 v, .bool false] W (AnsR W (rx, 0)) from by
    rw [← S4]; exact scale_any _ o na c v false rn W (by decide) hlna (by unfold maxLen; omega) 0 (Nat.zero_le _) s))
  have HSame := Lib.hid (fun (W : World) o1 o2 c1 c2 (l : List Rw) (h1 : l.length = na) (s1 : RowsS W 0 o1 l) (s2 : RowsS W 0 o2 l) => (show Calls Try.prog 14 #[.slice o1 na c1, .slice o2 na c2] W fun e w' => e = .returned (.bool true) ∧ Below W.heap.size W w' from by
    have := same_any o1 o2 na c1 na c2 l l W h1 h1 (by unfold maxLen; omega) (by unfold maxLen; omega) 0 s1 s2
    rw [sameR_refl] at this; exact this))
  have HNT := Lib.hid hnt
  have HA := Lib.hid ha
  have HNA := Lib.hid hna
  have HLN := Lib.hid hlna
  have HLX := Lib.hid hlxa
  have HTR := Lib.hid har
  have hnt60 : nt ≤ 60 := by rw [← hnt]; exact hal
  clear hl hS har hal hln hlx hrn S1 S2 S3 S4 hnt ha hfl hna hlna hlxa hsm ht
  go_enter Try.func7, Try.ntmps7
  go_wp2_with fail
  refine HLt.out.mono ?_
  rintro e w1 ⟨rfl, b1⟩
  go_wp2_with fail
  refine (HAl.out _).mono ?_
  rintro e w2 ⟨rfl, b2⟩
  have b12 := b1.trans (b2.mono b1.size)
  clear b1 b2
  go_wp2_with fail
  refine (HT.out _ b12).mono ?_
  rintro e w3 ⟨⟨vt, ust, rfl, hot⟩, b3⟩
  obtain ⟨oT, cT, rfl, hsT, _⟩ := hot.sees frow
  rw [HNT.out]
  have HB3 := Lib.hid (b12.trans (b3.mono b12.size))
  have HST := Lib.hid hsT
  clear b12 b3 hot hsT HLt HAl HT hv1 hv2
  go_wp2
  go_loopw [5, 7] (fun va vi wr => ∃ (i : Nat) (us : List (List Value)), vi = .int .i64 i ∧ i ≤ nt ∧ us.length ≤ i ∧ OwnR wr w3.heap.size va us ((t.take i).filter midC) ∧ Hid (Below w3.heap.size w3 wr)) (fun _ vi _ => nt - (intOf vi).toNat)
  case atStart => exact ⟨0, [], rfl, Nat.zero_le _, Nat.zero_le _, OwnG.nil _ _, Below.refl _ _⟩
  case round =>
    obtain ⟨i, us, rfl, hik, hus, hown, HB⟩ := hrel
    by_cases hin : i < nt
    · have j1 : (i : Int) < nt := by omega
      obtain ⟨x, hx⟩ := get_ltG HNT.out hin
      obtain ⟨b, off, rfl, hR⟩ := (HST.out.below frow HB.out).at hx
      obtain ⟨oL, cL, c0, c1, hL, lL⟩ := row_at hR hx
      obtain ⟨nL, hnL⟩ : ∃ nL, x.1.length = nL := ⟨_, rfl⟩
      have HG := Lib.hid (show Calls Try.prog 12 #[.slice oL nL cL, .string metricT] wr fun e w' => e = .returned (.string (getL metricT x.1)) ∧ wr = w' from by
        rw [← hnL]; exact rget_any oL cL x.1 metricT wr lL hL.sees)
      have hstep := take_filter midC hx
      rw [hnL] at c0
      obtain ⟨g, hg⟩ : ∃ g, getL metricT x.1 = g := ⟨_, rfl⟩
      have hcx : midC x = (g.toList.isEmpty && (decide (x.2 < 500000000000) && decide (-500000000000 < x.2))) := by unfold midC noMet; rw [hg]
      rw [hg] at HG
      have HL := Lib.hid hL
      have HnL := Lib.hid hnL
      have HlL := Lib.hid lL
      have HO := Lib.hid hown
      clear hR hx hL hnL lL hg hown
      by_cases hg0 : g.toList = []
      · have g1 : (g.toList == []) = true := by rw [hg0]; rfl
        have g2 : g.toList.isEmpty = true := by rw [hg0]; rfl
        by_cases q1 : x.2 < 500000000000
        · by_cases q2 : -500000000000 < x.2
          · have hc : midC x = true := by rw [hcx]; rw [g2, decide_eq_true q1, decide_eq_true q2]; rfl
            rw [hc, if_pos rfl] at hstep
            have HSt := Lib.hid hstep
            have hbs := HB.out.size
            have HLT := Lib.hid (fun g hg => HO.out.own.lt g hg)
            clear hstep hc hcx
            go_wp2_with fail
            refine HG.out.mono ?_
            rintro e w4 ⟨rfl, rfl⟩
            go_wp2_with (at_builtin; go_must (refine wpList_append_own _ rfl _ _ 22 rfl w3.heap.size 29 i0 (.agg #[.slice none 0 0, .int .i64 0]) 2 32 Try.underlying22 hi hz0 hz1 hz2 rfl (by decide) _ _ _ rfl (HO.out.own.alloc _) ⟨wr.heap.size, 0, none⟩ 1 1 [.slice oL nL cL, .int .i64 x.2] rfl rfl (cells_k _ _ _) (by intro v hv; simp at hv; rcases hv with rfl | rfl <;> rfl) (by unfold maxLen; omega) (by omega) (by simp; omega) ?_); intro vA wA hoA hgA hnA)
            have hal : Below wr.heap.size wr (wr.alloc (Obj.cells #[.slice oL nL cL, .int .i64 x.2] 29)) := (Below.refl _ _).alloc (Nat.le_refl _) _
            have HAp := Lib.hid (show OwnR wA w3.heap.size vA (us ++ [[.slice oL nL cL, .int .i64 x.2]]) ((t.take (i + 1)).filter midC) from by
              rw [HSt.out]
              exact (HO.out.below frow hal).snoc frow (Nat.zero_le _) ⟨oL, cL, by rw [HnL.out], HL.out.below hal, HlL.out⟩ hoA hgA)
            have HBA := Lib.hid (Below.grown (HB.out.trans (hal.mono hbs)) hgA (by simp; omega) (fun g hg => (HLT.out g hg).1))
            clear hoA hgA hal hnA hbs
            go_roundw
            case rel => exact ⟨i + 1, _, by go_num, by omega, by simp; omega, HAp.out, HBA⟩
            case measure => simp [intOf]; omega
          · have hc : midC x = false := by rw [hcx]; rw [decide_eq_false q2]; simp
            rw [hc, if_neg (by decide)] at hstep
            have HSt := Lib.hid hstep
            clear hstep hc hcx
            go_wp2_with fail
            refine HG.out.mono ?_
            rintro e w4 ⟨rfl, rfl⟩
            go_wp2
            go_roundw
            case rel => exact ⟨i + 1, us, by go_num, by omega, by omega, by rw [HSt.out]; exact HO.out, HB⟩
            case measure => simp [intOf]; omega
        · have hc : midC x = false := by rw [hcx]; rw [decide_eq_false q1]; simp
          rw [hc, if_neg (by decide)] at hstep
          have HSt := Lib.hid hstep
          clear hstep hc hcx
          go_wp2_with fail
          refine HG.out.mono ?_
          rintro e w4 ⟨rfl, rfl⟩
          go_wp2
          go_roundw
          case rel => exact ⟨i + 1, us, by go_num, by omega, by omega, by rw [HSt.out]; exact HO.out, HB⟩
          case measure => simp [intOf]; omega
      · have g1 : (g.toList == []) = false := beq_eq_false_iff_ne.2 hg0
        have g2 : g.toList.isEmpty = false := by rw [List.isEmpty_eq_false_iff]; exact hg0
        have hc : midC x = false := by rw [hcx]; rw [g2]; rfl
        rw [hc, if_neg (by decide)] at hstep
        have HSt := Lib.hid hstep
        clear hstep hc hcx
        go_wp2_with fail
        refine HG.out.mono ?_
        rintro e w4 ⟨rfl, rfl⟩
        go_wp2
        go_roundw
        case rel => exact ⟨i + 1, us, by go_num, by omega, by omega, by rw [HSt.out]; exact HO.out, HB⟩
        case measure => simp [intOf]; omega
    · have j1 : ¬ (i : Int) < nt := by omega
      have hE : t.take i = t := List.take_of_length_le (by rw [HNT.out]; omega)
      rw [hE, HA.out] at hown
      obtain ⟨oA, cA, rfl, hsA, _⟩ := hown.sees frow
      rw [HNA.out]
      have HSA := Lib.hid hsA
      have HB4 := Lib.hid (HB3.out.trans (HB.out.mono HB3.out.size))
      clear hown hsA hE
      go_wp2_with fail
      refine (HN1.out _ oA cA HSA.out).mono ?_
      rintro e w5 ⟨ho, b5⟩
      obtain ⟨vn, usn, rfl, hon⟩ := out_own ho
      obtain ⟨oN, cN, rfl, hsN, _⟩ := hon.sees frow
      rw [HLN.out]
      have HSN := Lib.hid hsN
      have HSA5 := Lib.hid (HSA.out.below frow b5)
      have HB5 := Lib.hid (HB4.out.trans (b5.mono HB4.out.size))
      clear ho hon hsN b5 HSA HB4 HN1
      go_wp2_with fail
      refine (HN2.out _ oN cN HSN.out).mono ?_
      rintro e w6 ⟨ho, b6⟩
      obtain ⟨vm, usm, rfl, hom⟩ := out_own ho
      obtain ⟨oM, cM, rfl, hsM, _⟩ := hom.sees frow
      rw [HNA.out]
      have HSM := Lib.hid hsM
      have HSN6 := Lib.hid (HSN.out.below frow b6)
      have HSA6 := Lib.hid (HSA5.out.below frow b6)
      have HB6 := Lib.hid (HB5.out.trans (b6.mono HB5.out.size))
      clear ho hom hsM b6 HSA5 HB5 HN2 HSN
      go_wp2_with fail
      refine (HX1.out _ oA cA HSA6.out).mono ?_
      rintro e w7 ⟨ho, b7⟩
      obtain ⟨vx, usx, rfl, hox⟩ := out_own ho
      obtain ⟨oX, cX, rfl, hsX, _⟩ := hox.sees frow
      rw [HLX.out]
      have HSX := Lib.hid hsX
      have HSM7 := Lib.hid (HSM.out.below frow b7)
      have HSN7 := Lib.hid (HSN6.out.below frow b7)
      have HSA7 := Lib.hid (HSA6.out.below frow b7)
      have HB7 := Lib.hid (HB6.out.trans (b7.mono HB6.out.size))
      clear ho hox hsX b7 HSA6 HB6 HX1 HSN6 HSM
      go_wp2_with fail
      refine (HX2.out _ oN cN HSN7.out).mono ?_
      rintro e w8 ⟨ho, b8⟩
      obtain ⟨vy, usy, rfl, hoy⟩ := out_own ho
      obtain ⟨oY, cY, rfl, hsY, _⟩ := hoy.sees frow
      rw [HLX.out]
      have HSm1 := Lib.hid (HSame.out w8 oM oA cM cA a HNA.out (HSM7.out.below frow b8) (HSA7.out.below frow b8))
      have HSm2 := Lib.hid (fun W (hb : Below w8.heap.size w8 W) => HSame.out W oX oY cX cY rx HLX.out ((HSX.out.below frow b8).below frow hb) (hsY.below frow hb))
      have HB8 := Lib.hid (HB7.out.trans (b8.mono HB7.out.size))
      clear ho hoy hsY b8 HSA7 HB7 HX2 HSN7 HSM7 HSX HSame
      go_wp2_with fail
      refine HSm1.out.mono ?_
      rintro e w9 ⟨rfl, b9⟩
      have HB9 := Lib.hid (HB8.out.trans (b9.mono HB8.out.size))
      have HSm3 := Lib.hid (HSm2.out w9 b9)
      clear b9 HSm1 HSm2
      go_wp2_with fail
      refine HSm3.out.mono ?_
      rintro e w10 ⟨rfl, b10⟩
      go_wp2
      go_ret
      exact ⟨rfl, HB9.out.trans (b10.mono HB9.out.size)⟩
end Go.Proofs.Ytiedhlcgdfdjhaa.Vec
