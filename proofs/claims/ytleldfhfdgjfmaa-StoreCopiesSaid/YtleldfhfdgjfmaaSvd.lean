/- The walk of the statement on copies, second part. -/
import Derived.Test.YtleldfhfdgjfmaaMg12
namespace Go.Proofs.Ytleldfhfdgjfmaa.Sto
open Go.RowKit

set_option maxHeartbeats 16000000 in
set_option maxRecDepth 100000 in
theorem copies_any (o1 o2 : Option Addr) (n1 c1 n2 c2 : Nat) (l more : List OpT) (w : World) (h1 : l.length = n1) (h2 : more.length = n2) (hm1 : n1 ≤ maxLen) (hm2 : n2 ≤ maxLen) (hS1 : SeesP w o1 l) (hS2 : SeesP w o2 more) :
    Calls Try.prog 8 #[.slice o1 n1 c1, .slice o2 n2 c2] w fun e w' => e = .returned (.bool true) ∧ Below w.heap.size w w' := by
  have HAlive := Lib.hid (fun W => alive_any W)
  have HL1 := Lib.hid (fun W (hb : Below w.heap.size w W) => lightP_any o1 n1 c1 l W h1 hm1 (hS1.below hb))
  have HL2 := Lib.hid (fun W (hb : Below w.heap.size w W) => lightP_any o2 n2 c2 more W h2 hm2 (hS2.below hb))
  have HS1 := Lib.hid hS1
  have HS2 := Lib.hid hS2
  have HN1 := Lib.hid h1
  have HN2 := Lib.hid h2
  unfold maxLen at hm1 hm2
  clear hS1 hS2 h1 h2
  cases hl1 : lightP l with
  | false =>
    rw [hl1] at HL1
    clear hl1 HL2
    go_enter Try.func8, Try.ntmps8
    go_wp2_with fail
    refine (HL1.out _ (Below.refl _ _)).mono ?_
    rintro e w1 ⟨rfl, b1⟩
    go_wp2_with fail
    refine (HAlive.out _).mono ?_
    rintro e w2 ⟨rfl, b2⟩
    go_wp2
    go_ret
    exact ⟨rfl, b1.trans (b2.mono b1.size)⟩
  | true =>
    have HSm1 := Lib.hid (lightP_small hl1)
    have hk1 := lightP_len hl1
    rw [HN1.out] at hk1
    rw [hl1] at HL1
    clear hl1
    cases hl2 : lightP more with
    | false =>
      rw [hl2] at HL2
      clear hl2
      go_enter Try.func8, Try.ntmps8
      go_wp2_with fail
      refine (HL1.out _ (Below.refl _ _)).mono ?_
      rintro e w1 ⟨rfl, b1⟩
      go_wp2_with fail
      refine (HL2.out _ b1).mono ?_
      rintro e w2 ⟨rfl, b2⟩
      have b12 := b1.trans (b2.mono b1.size)
      clear b1 b2
      go_wp2_with fail
      refine (HAlive.out _).mono ?_
      rintro e w3 ⟨rfl, b3⟩
      go_wp2
      go_ret
      exact ⟨rfl, b12.trans (b3.mono b12.size)⟩
    | true =>
      have HSm2 := Lib.hid (lightP_small hl2)
      have hk2 := lightP_len hl2
      rw [HN2.out] at hk2
      rw [hl2] at HL2
      clear hl2
      have jw : IntKind.i64.wrap ((n1 : Int) + (n2 : Int)) = (n1 : Int) + (n2 : Int) := by rw [IntKind.wrap_i64]; omega
      by_cases hsum : 120 < n1 + n2
      · have js : (120 : Int) < (n1 : Int) + (n2 : Int) := by omega
        go_enter Try.func8, Try.ntmps8
        go_wp2_with fail
        refine (HL1.out _ (Below.refl _ _)).mono ?_
        rintro e w1 ⟨rfl, b1⟩
        go_wp2_with fail
        refine (HL2.out _ b1).mono ?_
        rintro e w2 ⟨rfl, b2⟩
        have b12 := b1.trans (b2.mono b1.size)
        clear b1 b2
        go_wp2_with fail
        refine (HAlive.out _).mono ?_
        rintro e w3 ⟨rfl, b3⟩
        go_wp2
        go_ret
        exact ⟨rfl, b12.trans (b3.mono b12.size)⟩
      · have js : ¬ (120 : Int) < (n1 : Int) + (n2 : Int) := by omega
        go_enter Try.func8, Try.ntmps8
        go_wp2_with fail
        refine (HL1.out _ (Below.refl _ _)).mono ?_
        rintro e w1 ⟨rfl, b1⟩
        go_wp2_with fail
        refine (HL2.out _ b1).mono ?_
        rintro e w2 ⟨rfl, b2⟩
        have b12 := b1.trans (b2.mono b1.size)
        clear b1 b2
        go_wp2_with fail
        refine (HAlive.out _).mono ?_
        rintro e w3 ⟨rfl, b3⟩
        have HB3 := Lib.hid (b12.trans (b3.mono b12.size))
        clear b12 b3 HL1 HL2 HAlive js
        have hz3 := HB3.out.size
        go_wp2_with fail
        go_loopw [6] (fun v6 wr => ∃ k : Nat, v6 = .int .i64 k ∧ k ≤ n1 ∧ Hid (Own w3.heap.size wr w3.heap.size (putsC [] (l.take k))) ∧ Hid (Below w3.heap.size w3 wr)) (fun v6 _ => n1 - (intOf v6).toNat)
        case atStart => exact ⟨0, rfl, Nat.zero_le _, own_new w3 _ _ (Nat.le_refl _) (Below.refl _ _), (Below.refl _ _).alloc (Nat.le_refl _) _⟩
        case round =>
          obtain ⟨k, rfl, hk, HO, HB⟩ := hrel
          by_cases hkn : k < n1
          · have j1 : (k : Int) < n1 := by omega
            obtain ⟨x, hx⟩ : ∃ x, l[k]? = some x := ⟨_, List.getElem?_eq_getElem (by rw [HN1.out]; exact hkn)⟩
            have hBw : Below w.heap.size w wr := HB3.out.trans (HB.out.mono hz3)
            obtain ⟨b, off, rfl, oL, cL, a1, a2, a3, a4, a5, a6⟩ := (HS1.out.below hBw).at hx
            have hfk : Fine (putsC [] (l.take k)) := fine_puts _ fine_nil fun y hy => HSm1.out y (List.mem_of_mem_take hy)
            have HC := Lib.hid (put_own w3.heap.size wr.drew w3.heap.size x.2.1.length cL (putsC [] (l.take k)) oL x.2.1 x.2.2.1 x.2.2.2 (HO.out.on (Below.refl _ _).drew) hfk rfl (HSm1.out x (List.mem_of_getElem? hx)) (a3.below (Below.refl _ _).drew))
            have HST := Lib.hid (puts_step (xs := []) hx)
            clear hBw a1 a3 a4 hfk hx
            generalize x.2.1.length = nL at a2 HC
            generalize (putC (putsC [] (l.take k)) x.2.1 x.2.2.1 x.2.2.2).2 = er at HC
            go_wp2_with fail
            go_region_with (go_at_call 20; refine HC.out.mono ?_; rintro e w4 ⟨rfl, b4, q4⟩)
            all_goals
              have HB4 := Lib.hid (HB.out.trans ((Below.refl _ _).drew.trans b4))
              have HO4 := Lib.hid (show Own w3.heap.size w4 w3.heap.size (putsC [] (l.take (k + 1))) by rw [HST.out]; exact q4)
              clear b4 q4
              go_wp2
              go_roundw
              case rel => exact ⟨k + 1, by go_num, by omega, HO4, HB4⟩
              case measure => simp [intOf]; omega
          · have HZ := Lib.hid (show l.take k = l from List.take_of_length_le (by rw [HN1.out]; omega))
            rw [HZ.out] at HO
            obtain ⟨wo, hwo⟩ : ∃ wo : World, wr = wo := ⟨wr, rfl⟩
            subst wr
            obtain ⟨xs, hxs⟩ : ∃ xs, putsC [] l = xs := ⟨_, rfl⟩
            have hf : Fine xs := by rw [← hxs]; exact fine_puts _ fine_nil HSm1.out
            rw [hxs] at HO
            have HF := Lib.hid hf
            have HBw := Lib.hid (HB3.out.trans (HB.out.mono hz3))
            have HCp := Lib.hid (copy_any _ w3.heap.size xs wo HO.out hf)
            clear hxs hf HZ HB HB3
            go_wp2_with fail
            refine HCp.out.mono ?_
            rintro e w4 ⟨⟨q, rfl, qc⟩, b4⟩
            have HQ4 := Lib.hid qc
            have HP4 := Lib.hid (HO.out.below b4)
            have HB4 := Lib.hid (HBw.out.trans (b4.mono HBw.out.size))
            have HA4 := Lib.hid (all_any _ q xs w4 qc HF.out)
            have hz4 := b4.size
            clear b4 qc HCp
            go_wp2_with fail
            refine HA4.out.mono ?_
            rintro e w5 ⟨⟨va, ua, rfl, aa⟩, b5⟩
            have HQ5 := Lib.hid (HQ4.out.below b5)
            have HP5 := Lib.hid (HP4.out.below b5)
            have HB5 := Lib.hid (HB4.out.trans (b5.mono HB4.out.size))
            have HAa := Lib.hid aa
            have HA5 := Lib.hid (all_any _ w3.heap.size xs w5 HP5.out HF.out)
            have hz5 := b5.size
            clear b5 aa HA4 HQ4 HP4 HB4
            go_wp2_with fail
            refine HA5.out.mono ?_
            rintro e w6 ⟨⟨vb, ub, rfl, ab⟩, b6⟩
            obtain ⟨oa, ca, rfl, sa, la⟩ := (HAa.out.below b6).sees
            obtain ⟨ob, cb, rfl, sb, lb⟩ := ab.sees
            have HSame := Lib.hid (Ser.sameSeries_any oa ob ca cb xs xs w6 la lb sa sb)
            rw [Ser.sameL_refl] at HSame
            have HQ6 := Lib.hid (HQ5.out.below b6)
            have HP6 := Lib.hid (HP5.out.below b6)
            have HB6 := Lib.hid (HB5.out.trans (b6.mono HB5.out.size))
            have hz6 := b6.size
            clear b6 ab sa sb la lb HAa HA5 HQ5 HP5 HB5
            go_wp2_with fail
            refine HSame.out.mono ?_
            rintro e w7 ⟨rfl, b7⟩
            have HQ7 := Lib.hid (HQ6.out.below b7)
            have HP7 := Lib.hid (HP6.out.below b7)
            have HB7 := Lib.hid (HB6.out.trans (b7.mono HB6.out.size))
            have HPt7 := Lib.hid (points_any _ q xs w7 HQ7.out HF.out)
            have hz7 := b7.size
            clear b7 HSame HQ6 HP6 HB6
            obtain ⟨P, hP⟩ : ∃ P, pointsN (K := Labs) xs = P := ⟨_, rfl⟩
            have hP1000 : P ≤ 1000 := by rw [← hP]; exact points_le HF.out
            have HPP := Lib.hid hP
            rw [hP] at HPt7
            clear hP
            go_wp2_with fail
            refine HPt7.out.mono ?_
            rintro e w8 ⟨rfl, b8⟩
            have HQ8 := Lib.hid (HQ7.out.below b8)
            have HP8 := Lib.hid (HP7.out.below b8)
            have HB8 := Lib.hid (HB7.out.trans (b8.mono HB7.out.size))
            have HPt8 := Lib.hid (points_any _ w3.heap.size xs w8 HP8.out HF.out)
            rw [HPP.out] at HPt8
            have hz8 := b8.size
            clear b8 HPt7 HQ7 HP7 HB7
            go_wp2_with fail
            refine HPt8.out.mono ?_
            rintro e w9 ⟨rfl, b9⟩
            have HQ9 := Lib.hid (HQ8.out.below b9)
            have HP9 := Lib.hid (HP8.out.below b9)
            have HB9 := Lib.hid (HB8.out.trans (b9.mono HB8.out.size))
            have HA9 := Lib.hid (all_any _ w3.heap.size xs w9 HP9.out HF.out)
            have hz9 := b9.size
            clear b9 HPt8 HQ8 HP8 HB8
            go_wp2_with fail
            refine HA9.out.mono ?_
            rintro e w10 ⟨⟨vw, uw, rfl, aw⟩, b10⟩
            obtain ⟨ow, cw, rfl, _⟩ := aw.sees
            have HQ10 := Lib.hid (HQ9.out.below b10)
            have HP10 := Lib.hid (HP9.out.below b10)
            have HB10 := Lib.hid (HB9.out.trans (b10.mono HB9.out.size))
            have HAw := Lib.hid aw
            have HPt10 := Lib.hid (points_any _ w3.heap.size xs w10 HP10.out HF.out)
            rw [HPP.out] at HPt10
            have hz10 := b10.size
            obtain ⟨nx, hnx⟩ : ∃ nx, xs.length = nx := ⟨_, rfl⟩
            have HNX := Lib.hid hnx
            rw [hnx] at HAw ⊢
            clear b10 aw HA9 HQ9 HP9 HB9 hnx
            go_wp2_with fail
            refine HPt10.out.mono ?_
            rintro e w11 ⟨rfl, b11⟩
            have hz11 := b11.size
            have HQ11 := Lib.hid (show St (Span wo.heap.size w4.heap.size w11.heap.size w11) w11 q xs from (HQ10.out.below b11).same (Nat.le_refl _) (fun _ _ => rfl) (fun k hk => .inl hk) fun k hk => by rcases hk with hk | hk <;> omega)
            have HP11 := Lib.hid (HP10.out.below b11)
            have HB11 := Lib.hid (HB10.out.trans (b11.mono HB10.out.size))
            have HAw11 := Lib.hid (HAw.out.below b11)
            clear b11 HPt10 HQ10 HP10 HB10 HAw
            have HZS := Lib.hid (And.intro hz4 (And.intro hz5 (And.intro hz6 (And.intro hz7 (And.intro hz8 (And.intro hz9 (And.intro hz10 hz11)))))))
            clear hz4 hz5 hz6 hz7 hz8 hz9 hz10 hz11
            go_wp2
            go_loopw [10, 11] (fun v10 v11 wr => ∃ k ad : Nat, v11 = .int .i64 k ∧ v10 = .int .i64 ad ∧ k ≤ n2 ∧ ad ≤ k ∧ Hid (St (Span wo.heap.size w4.heap.size w11.heap.size wr) wr q (putsC xs (more.take k))) ∧ Hid (Sep (fun k => wo.heap.size ≤ k ∧ k < w4.heap.size) w11 wr) ∧ Hid (pointsN (K := Labs) (putsC xs (more.take k)) = P + ad)) (fun _ v11 _ => n2 - (intOf v11).toNat)
            case atStart => exact ⟨0, 0, rfl, rfl, Nat.zero_le _, Nat.le_refl _, HQ11.out, Sep.refl _ _, HPP.out⟩
            case round =>
              obtain ⟨i, ad, rfl, rfl, hi, had, HQi, HSi, HPi⟩ := hrel
              by_cases hin : i < n2
              · have j1 : (i : Int) < n2 := by omega
                obtain ⟨x, hx⟩ : ∃ x, more[i]? = some x := ⟨_, List.getElem?_eq_getElem (by rw [HN2.out]; exact hin)⟩
                have hle : w.heap.size ≤ wo.heap.size := HBw.out.size
                have hB0 : Below w.heap.size w wr := HB11.out.trans (HSi.out.below HB11.out.size fun k hk => by omega)
                obtain ⟨b, off, rfl, oL, cL, a1, a2, a3, a4, a5, a6⟩ := (HS2.out.below hB0).at hx
                have hfk : Fine (putsC xs (more.take i)) := fine_puts _ HF.out fun y hy => HSm2.out y (List.mem_of_mem_take hy)
                have HC := Lib.hid (put_span (w0 := w11) (w := wr.drew) q x.2.1.length cL (putsC xs (more.take i)) oL x.2.1 x.2.2.1 x.2.2.2 (HQi.out.below (Below.refl _ _).drew) (HSi.out.next (Sep.of_below (Below.refl _ _).drew)) rfl (by have := HZS.out; omega) hfk rfl (HSm2.out x (List.mem_of_getElem? hx)) (a3.below (Below.refl _ _).drew))
                have HST := Lib.hid (puts_step (xs := xs) hx)
                have HTW := Lib.hid (put_two (putsC xs (more.take i)) x.2.1 x.2.2.1 x.2.2.2)
                rw [← HST.out] at HC HTW
                clear hB0 a1 a3 a4 hfk hx hle
                generalize x.2.1.length = nL at a2 HC
                generalize (putC (putsC xs (more.take i)) x.2.1 x.2.2.1 x.2.2.2).2 = er at HC HTW
                have jj : IntKind.i64.wrap ((ad : Int) + 1) = (ad : Int) + 1 := by rw [IntKind.wrap_i64]; omega
                by_cases her : er = 0
                · subst her
                  have HP2 := Lib.hid (show pointsN (K := Labs) (putsC xs (more.take (i + 1))) = P + (ad + 1) by
                    rcases HTW.out with h | h
                    · rw [h.2, HPi.out]; omega
                    · exact absurd rfl h.1)
                  clear HTW
                  go_wp2_with fail
                  go_region_with (go_at_call 20; refine HC.out.mono ?_; rintro e w12 ⟨rfl, s12, q12⟩)
                  all_goals
                    have HS12 := Lib.hid s12
                    have HQ12 := Lib.hid q12
                    clear s12 q12
                    go_wp2
                    go_roundw
                    case rel => exact ⟨i + 1, ad + 1, by go_num, by go_num, by omega, by omega, HQ12, HS12, HP2⟩
                    case measure => simp [intOf]; omega
                · have HP2 := Lib.hid (show pointsN (K := Labs) (putsC xs (more.take (i + 1))) = P + ad by
                    rcases HTW.out with h | h
                    · exact absurd h.1 her
                    · rw [h.2, HPi.out])
                  have t1 : (er == 0) = false := by simp [her]
                  clear HTW
                  go_wp2_with fail
                  go_region_with (go_at_call 20; refine HC.out.mono ?_; rintro e w12 ⟨rfl, s12, q12⟩)
                  all_goals
                    have HS12 := Lib.hid s12
                    have HQ12 := Lib.hid q12
                    clear s12 q12
                    go_wp2
                    go_roundw
                    case rel => exact ⟨i + 1, ad, by go_num, by go_num, by omega, by omega, HQ12, HS12, HP2⟩
                    case measure => simp [intOf]; omega
              · have HZ2 := Lib.hid (show more.take i = more from List.take_of_length_le (by rw [HN2.out]; omega))
                rw [HZ2.out] at HQi HPi
                have hPs := HP11.out.sep HSi.out fun k hk hk2 => by omega
                have HPz := Lib.hid hPs
                have HAz := Lib.hid (HAw11.out.keep fun k h1 h2 => HSi.out.block k h2 fun hk => by have := HZS.out; omega)
                have HA12 := Lib.hid (all_any _ w3.heap.size xs wr hPs HF.out)
                have HBz := Lib.hid (show Below w.heap.size w wr from HB11.out.trans (HSi.out.below HB11.out.size fun k hk => by have := HBw.out.size; omega))
                have hfm : Fine (putsC xs more) := fine_puts _ HF.out HSm2.out
                have HFM := Lib.hid hfm
                clear hPs hfm HZ2
                go_wp2_with fail
                refine HA12.out.mono ?_
                rintro e w13 ⟨⟨vc, uc, rfl, ac⟩, b13⟩
                obtain ⟨oc, cc, rfl, sc, lc⟩ := ac.sees
                obtain ⟨od, cd, ed, sd, ld⟩ := (HAz.out.below b13).sees
                cases ed
                have HSame := Lib.hid (Ser.sameSeries_any oc ow cc cw xs xs w13 lc lc sc sd)
                rw [Ser.sameL_refl] at HSame
                rw [HNX.out] at HSame ⊢
                have HP13 := Lib.hid (HPz.out.below b13)
                have HQ13 := Lib.hid (HQi.out.below b13)
                have HB13 := Lib.hid (HBz.out.trans (b13.mono HBz.out.size))
                clear b13 ac sc sd lc ld HA12 HPz HQi HBz HAz
                go_wp2_with fail
                refine HSame.out.mono ?_
                rintro e w14 ⟨rfl, b14⟩
                have HP14 := Lib.hid (HP13.out.below b14)
                have HQ14 := Lib.hid (HQ13.out.below b14)
                have HB14 := Lib.hid (HB13.out.trans (b14.mono HB13.out.size))
                have HPt14 := Lib.hid (points_any _ w3.heap.size xs w14 HP14.out HF.out)
                rw [HPP.out] at HPt14
                clear b14 HSame HP13 HQ13 HB13
                go_wp2_with fail
                refine HPt14.out.mono ?_
                rintro e w15 ⟨rfl, b15⟩
                have HQ15 := Lib.hid (HQ14.out.below b15)
                have HB15 := Lib.hid (HB14.out.trans (b15.mono HB14.out.size))
                have HPt15 := Lib.hid (points_any _ q (putsC xs more) w15 HQ15.out HFM.out)
                rw [HPi.out] at HPt15
                have jp : IntKind.i64.wrap ((P : Int) + (ad : Int)) = (P : Int) + (ad : Int) := by rw [IntKind.wrap_i64]; omega
                clear b15 HPt14 HP14 HQ14 HB14
                go_wp2_with fail
                refine HPt15.out.mono ?_
                rintro e w16 ⟨rfl, b16⟩
                go_wp2
                go_ret
                exact ⟨rfl, HB15.out.trans (b16.mono HB15.out.size)⟩
end Go.Proofs.Ytleldfhfdgjfmaa.Sto
