import Derived.Test.YtbdnonphkobkoaaGreatGh
section
/- Vectors: what comes of pairs: the walk. -/

namespace Go.Proofs.YtbdnonphkobkoaaGreat.Vec
open Go.RowKit

def SmP (ps : List Pr) : Prop := ∀ p ∈ ps, SmL p.1.1 ∧ SmL p.2.1
theorem reckA_stop {op : ByteArray} {acc : List Rw} {p : Pr} {r : List Pr} {d1 d2 : Int} (hd : Fix.doF op p.2.2.1 p.2.2.2 = (d1, d2)) (h : ¬ d2 = 0) : reckA op acc (p :: r) = ([], d2) := by
  rw [reckA, hd, if_neg h]
theorem reckA_row {op : ByteArray} {acc : List Rw} {p : Pr} {r : List Pr} {d1 : Int} (hd : Fix.doF op p.2.2.1 p.2.2.2 = (d1, 0)) (hc : Fix.comparesF op = false) : reckA op acc (p :: r) = reckA op (acc ++ [(p.2.1, d1)]) r := by
  rw [reckA, hd, if_pos rfl, hc]; simp
theorem reckA_keep {op : ByteArray} {acc : List Rw} {p : Pr} {r : List Pr} (hd : Fix.doF op p.2.2.1 p.2.2.2 = (1, 0)) (hc : Fix.comparesF op = true) : reckA op acc (p :: r) = reckA op (acc ++ [p.1]) r := by
  rw [reckA, hd, if_pos rfl, hc]; simp
theorem reckA_pass {op : ByteArray} {acc : List Rw} {p : Pr} {r : List Pr} {d1 : Int} (hd : Fix.doF op p.2.2.1 p.2.2.2 = (d1, 0)) (h1 : ¬ d1 = 1) (hc : Fix.comparesF op = true) : reckA op acc (p :: r) = reckA op acc r := by
  rw [reckA, hd, if_pos rfl, hc]; simp [h1]

set_option maxHeartbeats 8000000 in
set_option maxRecDepth 100000 in
theorem reckon_any (op : ByteArray) (o : Option Addr) (n c : Nat) (ps : List Pr) (w : World) (B : Nat) (hs : op.size ≤ maxLen) (hn : ps.length = n) (hm : n ≤ 2000) (hl : SmP ps) (hS : SeeG (EPair B) 5 w o ps) :
    Calls Tryz.prog 43 #[.string op, .slice o n c] w (AnsR w (reckA op [] ps)) := by
  obtain ⟨i0, hi, hz0, hz1, hz2⟩ := info_parts infoRow
  have HN := Lib.hid hn
  have HS := Lib.hid hS
  have HL := Lib.hid hl
  have HD := Lib.hid (fun a b W => Fix.do_any op a b W hs)
  have HCp := Lib.hid (fun W => Fix.comp_any op W hs)
  obtain ⟨g, hg⟩ : ∃ g, Fix.comparesF op = g := ⟨_, rfl⟩
  have HG := Lib.hid hg
  rw [hg] at HCp
  clear hn hS hl hs hg
  go_enter Tryz.func43, Tryz.ntmps43
  go_wp2_with fail
  refine (HCp.out _).mono ?_
  rintro e w1 ⟨rfl, b1⟩
  have HB1 := Lib.hid b1
  clear b1 HCp
  go_wp2
  go_loopw [7, 9, 10, 11, 16] (fun v7 v9 v10 v11 v16 wr => ∃ (k : Nat) (us : List (List Value)) (acc : List Rw), v16 = .int .i64 k ∧ k ≤ n ∧ us.length ≤ k ∧ OwnR wr w.heap.size v7 us acc ∧ Hid (reckA op acc (ps.drop k) = reckA op [] ps) ∧ Hid (Below w.heap.size w wr)) (fun _ _ _ _ v16 _ => n - (Go.RowKit.intOf v16).toNat)
  case atStart => exact ⟨0, [], [], rfl, Nat.zero_le _, Nat.zero_le _, OwnG.nil _ _, rfl, HB1⟩
  case round =>
    obtain ⟨k, us, acc, rfl, hk, hus, hown, H, HB⟩ := hrel
    by_cases hkn : k < n
    · have j1 : (k : Int) < n := by omega
      obtain ⟨x, hx⟩ := get_ltG HN.out hkn
      obtain ⟨b, off, rfl, hR⟩ := (HS.out.below fpair HB.out).at hx
      obtain ⟨oL, cL, oK, cK, c0, c1, c2, c3, c4, hL, lL, hK, lK⟩ := pair_at hR hx
      obtain ⟨hsl, hsk⟩ := HL.out x (List.mem_of_getElem? hx)
      have HX := Lib.hid (drop_atG hx)
      obtain ⟨⟨xl, xv⟩, xk, xa, xb⟩ := x
      simp only at c0 c1 c2 c3 c4 hL lL hK lK hsl hsk
      obtain ⟨nL, hnL⟩ : ∃ nL, xl.length = nL := ⟨_, rfl⟩
      obtain ⟨nK, hnK⟩ : ∃ nK, xk.length = nK := ⟨_, rfl⟩
      rw [hnL] at c0
      rw [hnK] at c2
      obtain ⟨W1, hW1⟩ : ∃ W1, wr.alloc (Obj.cells #[.slice oL nL cL, .int .i64 xv, .slice oK nK cK, .int .i64 xa, .int .i64 xb] 76) = W1 := ⟨_, rfl⟩
      have HW1 := Lib.hid hW1
      have hbw : Below wr.heap.size wr W1 := by rw [← hW1]; exact (Below.refl _ _).alloc (Nat.le_refl _) _
      have hBx := HB.out.size
      have HBx := Lib.hid hBx
      have HB2 := Lib.hid (HB.out.trans (hbw.mono hBx))
      obtain ⟨d, hd⟩ : ∃ d, Fix.doF op xa xb = d := ⟨_, rfl⟩
      have HDo := Lib.hid (HD.out xa xb W1)
      rw [hd] at HDo
      obtain ⟨d1, d2⟩ := d
      simp only at HDo
      have HBX := Lib.hid (show ∀ W, Below W1.heap.size W1 W → ∀ j u, [Value.slice oL nL cL, .int .i64 xv, .slice oK nK cK, .int .i64 xa, .int .i64 xb][j]? = some u → W.cell? ⟨wr.heap.size, j, none⟩ = some u by
        intro W h; rw [← hW1] at h; exact boxk wr _ _ W h)
      have r3 := HBX.out W1 (Below.refl _ _) 3 _ rfl
      have r4 := HBX.out W1 (Below.refl _ _) 4 _ rfl
      have HO := Lib.hid (hown.below frow hbw)
      have HLT := Lib.hid (fun g hg => hown.own.lt g hg)
      have hzw : wr.heap.size < W1.heap.size := by rw [← hW1]; simp
      have HZ := Lib.hid hzw
      have HLb := Lib.hid (hL.below hbw)
      have HKb := Lib.hid (hK.below hbw)
      have HnL := Lib.hid hnL
      have HnK := Lib.hid hnK
      have HlK := Lib.hid lK
      have HlL := Lib.hid lL
      have Hsl := Lib.hid hsl
      have HDD := Lib.hid hd
      clear hR hx hL hK lL lK hsl hsk hnL hnK hbw hown hW1 hd hBx hzw
      by_cases hd2 : d2 = 0
      · subst hd2
        cases g with
        | false =>
          have H2 := Lib.hid (show reckA op (acc ++ [(xk, d1)]) (ps.drop (k + 1)) = reckA op [] ps by
            rw [← H.out, HX.out, reckA_row HDD.out HG.out])
          go_wp2_with fail
          rw [HW1.out]
          refine HDo.out.mono ?_
          rintro e w2 ⟨rfl, b2⟩
          have q2 := HBX.out w2 b2 2 _ rfl
          have HO2 := Lib.hid (HO.out.below frow b2)
          have HK2 := Lib.hid (HKb.out.below b2)
          have HB3 := Lib.hid (HB2.out.trans (b2.mono (Nat.le_trans HBx.out (Nat.le_of_lt HZ.out))))
          have hzz := HB3.out.size
          clear b2
          go_wp2_with (at_builtin; go_must (refine wpList_append_own _ rfl _ _ 22 rfl w.heap.size 53 i0 (.agg #[.slice none 0 0, .int .i64 0]) 2 32 Tryz.underlying22 hi hz0 hz1 hz2 rfl (by decide) _ _ _ rfl (HO2.out.own.alloc _) ⟨w2.heap.size, 0, none⟩ 1 1 [.slice oK nK cK, .int .i64 d1] rfl rfl (cells_k _ _ _) (by intro v hv; simp at hv; rcases hv with rfl | rfl <;> rfl) (by unfold maxLen; omega) (by omega) (by simp; omega) ?_); intro vA wA hoA hgA hnA)
          have hal : Below w2.heap.size w2 (w2.alloc (Obj.cells #[.slice oK nK cK, .int .i64 d1] 53)) := (Below.refl _ _).alloc (Nat.le_refl _) _
          have HA := Lib.hid (show OwnR wA w.heap.size vA (us ++ [[.slice oK nK cK, .int .i64 d1]]) (acc ++ [(xk, d1)]) from
            (HO2.out.below frow hal).snoc frow (Nat.zero_le _) ⟨oK, cK, by rw [HnK.out], HK2.out.below hal, HlK.out⟩ hoA hgA)
          have HBA := Lib.hid (Below.grown (HB3.out.trans (hal.mono hzz)) hgA (by simp; omega) (fun g hg => (HLT.out g hg).1))
          clear hoA hgA hal hnA hzz
          go_roundw
          case rel => exact ⟨k + 1, _, _, by go_num, by omega, by simp; omega, HA.out, H2, HBA⟩
          case measure => simp [Go.RowKit.intOf]; omega
        | true =>
          by_cases hd1 : d1 = 1
          · subst hd1
            have H2 := Lib.hid (show reckA op (acc ++ [(xl, xv)]) (ps.drop (k + 1)) = reckA op [] ps by
              rw [← H.out, HX.out, reckA_keep HDD.out HG.out])
            go_wp2_with fail
            rw [HW1.out]
            refine HDo.out.mono ?_
            rintro e w2 ⟨rfl, b2⟩
            have q0 := HBX.out w2 b2 0 _ rfl
            have q1 := HBX.out w2 b2 1 _ rfl
            have HO2 := Lib.hid (HO.out.below frow b2)
            have HC2 := Lib.hid (clone_row oL nL cL xl xv w2 HnL.out Hsl.out (HLb.out.below b2).sees)
            have HB3 := Lib.hid (HB2.out.trans (b2.mono (Nat.le_trans HBx.out (Nat.le_of_lt HZ.out))))
            have hzz := HB3.out.size
            clear b2
            go_wp2_with fail
            refine HC2.out.mono ?_
            rintro e w3 ⟨⟨oC, cC, rfl, hC⟩, b3⟩
            have HO3 := Lib.hid (HO2.out.below frow b3)
            have HC3 := Lib.hid hC
            have HB4 := Lib.hid (HB3.out.trans (b3.mono hzz))
            have hz4 := HB4.out.size
            clear b3 hC hzz
            go_wp2_with (at_builtin; go_must (refine wpList_append_own _ rfl _ _ 22 rfl w.heap.size 53 i0 (.agg #[.slice none 0 0, .int .i64 0]) 2 32 Tryz.underlying22 hi hz0 hz1 hz2 rfl (by decide) _ _ _ rfl (HO3.out.own.alloc _) ⟨w3.heap.size, 0, none⟩ 1 1 [.slice oC nL cC, .int .i64 xv] rfl rfl (cells_k _ _ _) (by intro v hv; simp at hv; rcases hv with rfl | rfl <;> rfl) (by unfold maxLen; omega) (by omega) (by simp; omega) ?_); intro vA wA hoA hgA hnA)
            have hal : Below w3.heap.size w3 (w3.alloc (Obj.cells #[.slice oC nL cC, .int .i64 xv] 53)) := (Below.refl _ _).alloc (Nat.le_refl _) _
            have HA := Lib.hid (show OwnR wA w.heap.size vA (us ++ [[.slice oC nL cC, .int .i64 xv]]) (acc ++ [(xl, xv)]) from
              (HO3.out.below frow hal).snoc frow (Nat.zero_le _) ⟨oC, cC, by rw [HnL.out], HC3.out.below hal, HlL.out⟩ hoA hgA)
            have HBA := Lib.hid (Below.grown (HB4.out.trans (hal.mono hz4)) hgA (by simp; omega) (fun g hg => (HLT.out g hg).1))
            clear hoA hgA hal hnA hz4
            go_roundw
            case rel => exact ⟨k + 1, _, _, by go_num, by omega, by simp; omega, HA.out, H2, HBA⟩
            case measure => simp [Go.RowKit.intOf]; omega
          · have t1 : (d1 == 1) = false := by rw [beq_eq_false_iff_ne]; exact hd1
            have H2 := Lib.hid (show reckA op acc (ps.drop (k + 1)) = reckA op [] ps by
              rw [← H.out, HX.out, reckA_pass HDD.out hd1 HG.out])
            clear hd1
            go_wp2_with fail
            rw [HW1.out]
            refine HDo.out.mono ?_
            rintro e w2 ⟨rfl, b2⟩
            have HO2 := Lib.hid (HO.out.below frow b2)
            have HB3 := Lib.hid (HB2.out.trans (b2.mono (Nat.le_trans HBx.out (Nat.le_of_lt HZ.out))))
            clear b2
            go_wp2
            go_roundw
            case rel => exact ⟨k + 1, _, _, by go_num, by omega, by omega, HO2.out, H2, HB3⟩
            case measure => simp [Go.RowKit.intOf]; omega
      · have t1 : (d2 != 0) = true := by rw [bne_iff_ne]; exact hd2
        have H2 := Lib.hid (show reckA op [] ps = ([], d2) by
          rw [← H.out, HX.out, reckA_stop HDD.out hd2])
        clear hd2
        go_wp2_with fail
        rw [HW1.out]
        refine HDo.out.mono ?_
        rintro e w2 ⟨rfl, b2⟩
        have HB3 := Lib.hid (HB2.out.trans (b2.mono (Nat.le_trans HBx.out (Nat.le_of_lt HZ.out))))
        clear b2
        go_wp2
        go_ret2
        refine ⟨⟨.slice none 0 0, ?_, [], ?_⟩, HB3.out⟩
        · rw [H2.out]; rfl
        · rw [H2.out]; exact OwnG.nil _ _
    · have j1 : ¬ (k : Int) < n := by omega
      have HE := Lib.hid (show orderR acc = reckA op [] ps by
        rw [← H.out, List.drop_eq_nil_of_le (by rw [HN.out]; omega), reckA])
      have hl := hown.len
      have hBx := HB.out.size
      have HI := Lib.hid (inOrder_any hBx (by omega) hown)
      rw [HE.out] at HI
      have HBx := Lib.hid hBx
      clear hown hl hBx
      go_wp2_with fail
      refine HI.out.mono ?_
      rintro e w2 ⟨⟨v, rfl, us2, ho⟩, b2⟩
      have HO := Lib.hid ho
      have HB2 := Lib.hid (HB.out.trans b2)
      clear ho b2
      go_wp2
      go_ret2
      exact ⟨⟨v, rfl, us2, HO.out⟩, HB2.out⟩
end Go.Proofs.YtbdnonphkobkoaaGreat.Vec
end

section
/- Vectors: Tidy and Scale: the walks. -/

namespace Go.Proofs.YtbdnonphkobkoaaGreat.Vec
open Go.RowKit

theorem decode_four (s : ByteArray) (i : Nat) : (Utf8.decode s i).2 ≤ 4 := by
  unfold Utf8.decode
  dsimp only
  repeat' split
  all_goals simp
theorem spell_size (s : ByteArray) : ∀ (n pos : Nat), s.size - pos ≤ n → s.size - pos ≤ 4 * (spell (s.data.toList.drop pos)).length
  | 0, pos, h => by omega
  | n + 1, pos, h => by
    by_cases hp : pos < s.size
    · have h1 := width1 s pos
      have h4 := decode_four s pos
      have ih := spell_size s n (pos + (Utf8.decode s pos).2) (by omega)
      rw [spell_at hp, List.length_cons]
      omega
    · omega
theorem nameGo_len : ∀ (l : List Int) (n : Nat), nameGo n l = true → n ≤ 30 → l.length ≤ 30 - n
  | [], _, _, _ => by simp
  | r :: rs, n, h, hn => by
    unfold nameGo at h
    split at h
    · cases h
    · next h2 =>
      have h30 : n ≠ 30 := fun e => h2 (.inl e)
      have := nameGo_len rs (n + 1) h (by omega)
      rw [List.length_cons]; omega
theorem name_size {s : ByteArray} (h : nameB s.data.toList = true) : s.size ≤ 120 := by
  have h1 := nameGo_len _ 0 h (by decide)
  have h2 := spell_size s s.size 0 (by omega)
  rw [List.drop_zero] at h2
  omega

theorem right_small {l : Labs} (h : rightB l = true) : SmL l := by
  obtain ⟨h1, _, h3⟩ := (right_iff l).1 h
  refine ⟨by omega, fun y hy => ?_⟩
  have := h3 y hy
  unfold fitsB at this
  rw [Bool.and_eq_true, Bool.and_eq_true] at this
  have h4 := name_size this.1
  have h5 : (y.2.size : Int) ≤ 60 := of_decide_eq_true this.2.2
  omega
theorem fit_mk {xs : List Rw} (h : fitR xs = true) : xs.length ≤ 2000 ∧ ∀ x ∈ xs, rightB x.1 = true ∧ Fix.rgt x.2 := by
  unfold fitR at h
  rw [Bool.and_eq_true, decide_eq_true_eq, List.all_eq_true] at h
  refine ⟨h.1, fun x hx => ?_⟩
  have := h.2 x hx
  rw [Bool.and_eq_true] at this
  exact ⟨this.1, of_decide_eq_true this.2⟩

set_option maxHeartbeats 8000000 in
set_option maxRecDepth 100000 in
theorem tidy_row (o : Option Addr) (n c : Nat) (xs : List Rw) (w : World) (B : Nat) (hn : xs.length = n) (hm : n ≤ maxLen) (hS : RowsS w B o xs) :
    Calls Tryz.prog 12 #[.slice o n c] w (AnsR w (tidyR xs)) := by
  obtain ⟨i0, hi, hz0, hz1, hz2⟩ := info_parts infoRow
  have HF := Lib.hid (fit_any o n c xs w B hn hm hS)
  have HN := Lib.hid hn
  have HS := Lib.hid hS
  clear hS hn
  cases hf : fitR xs with
  | false =>
    have HE := Lib.hid (show tidyR xs = ([], 1) by unfold tidyR; rw [hf]; rfl)
    rw [hf] at HF
    clear hf
    go_enter Tryz.func12, Tryz.ntmps12
    go_wp2_with fail
    refine HF.out.mono ?_
    rintro e w1 ⟨rfl, b1⟩
    go_wp2
    go_ret2
    refine ⟨⟨.slice none 0 0, ?_, [], ?_⟩, b1⟩
    · rw [HE.out]; rfl
    · rw [HE.out]; exact OwnG.nil _ _
  | true =>
    have HE := Lib.hid (show tidyR xs = orderR xs by unfold tidyR; rw [hf]; rfl)
    obtain ⟨hlen, hfit⟩ := fit_mk hf
    have HFit := Lib.hid hfit
    have hn2 : n ≤ 2000 := by rw [← HN.out]; exact hlen
    rw [hf] at HF
    clear hf hlen hfit hm
    go_enter Tryz.func12, Tryz.ntmps12
    go_wp2_with fail
    refine HF.out.mono ?_
    rintro e w1 ⟨rfl, b1⟩
    have HB1 := Lib.hid b1
    clear b1 HF
    go_wp2
    go_loopw [4, 6, 12] (fun v4 v6 v12 wr => ∃ (k : Nat) (us : List (List Value)), v12 = .int .i64 k ∧ k ≤ n ∧ us.length = k ∧ OwnR wr w.heap.size v4 us (xs.take k) ∧ Hid (Below w.heap.size w wr)) (fun _ _ v12 _ => n - (Go.RowKit.intOf v12).toNat)
    case atStart => exact ⟨0, [], rfl, Nat.zero_le _, rfl, OwnG.nil _ _, HB1⟩
    case round =>
      obtain ⟨k, us, rfl, hk, hus, hown, HB⟩ := hrel
      by_cases hkn : k < n
      · have j1 : (k : Int) < n := by omega
        obtain ⟨x, hx⟩ := get_ltG HN.out hkn
        obtain ⟨b, off, rfl, hR⟩ := (HS.out.below frow HB.out).at hx
        obtain ⟨oL, cL, c0, c1, hL, lL⟩ := row_at hR hx
        have hsm := right_small (HFit.out x (List.mem_of_getElem? hx)).1
        obtain ⟨nL, hnL⟩ : ∃ nL, x.1.length = nL := ⟨_, rfl⟩
        rw [hnL] at c0
        have hbw := below_box (Below.refl wr.heap.size wr) (.slice oL nL cL) (.int .i64 x.2) 53
        have hBx := HB.out.size
        have HB2 := Lib.hid (HB.out.trans (hbw.mono hBx))
        have hz2' := HB2.out.size
        have HZ := Lib.hid hz2'
        have HC := Lib.hid (clone_row oL nL cL x.1 x.2 _ hnL hsm (hL.sees.below hbw))
        have HO := Lib.hid (hown.below frow hbw)
        have HLT := Lib.hid (fun g hg => hown.own.lt g hg)
        have HX := Lib.hid (take_atG hx)
        have HnL := Lib.hid hnL
        have HlL := Lib.hid lL
        clear hR hx hL lL hsm hnL hbw hown hBx hz2'
        go_wp2_with fail
        refine HC.out.mono ?_
        rintro e w3 ⟨⟨oC, cC, rfl, hC⟩, b3⟩
        have HO3 := Lib.hid (HO.out.below frow b3)
        have HC3 := Lib.hid hC
        have HB4 := Lib.hid (HB2.out.trans (b3.mono HZ.out))
        have hz4 := HB4.out.size
        clear b3 hC
        go_wp2_with (at_builtin; go_must (refine wpList_append_own _ rfl _ _ 22 rfl w.heap.size 53 i0 (.agg #[.slice none 0 0, .int .i64 0]) 2 32 Tryz.underlying22 hi hz0 hz1 hz2 rfl (by decide) _ _ _ rfl (HO3.out.own.alloc _) ⟨w3.heap.size, 0, none⟩ 1 1 [.slice oC nL cC, .int .i64 x.2] rfl rfl (cells_k _ _ _) (by intro v hv; simp at hv; rcases hv with rfl | rfl <;> rfl) (by unfold maxLen; omega) (by omega) (by simp; omega) ?_); intro vA wA hoA hgA hnA)
        have hal : Below w3.heap.size w3 (w3.alloc (Obj.cells #[.slice oC nL cC, .int .i64 x.2] 53)) := (Below.refl _ _).alloc (Nat.le_refl _) _
        have HA := Lib.hid (show OwnR wA w.heap.size vA (us ++ [[.slice oC nL cC, .int .i64 x.2]]) (xs.take (k + 1)) from by
          rw [HX.out]
          exact (HO3.out.below frow hal).snoc frow (Nat.zero_le _) ⟨oC, cC, by rw [HnL.out], HC3.out.below hal, HlL.out⟩ hoA hgA)
        have HBA := Lib.hid (Below.grown (HB4.out.trans (hal.mono hz4)) hgA (by simp; omega) (fun g hg => (HLT.out g hg).1))
        clear hoA hgA hal hnA hz4
        go_roundw
        case rel => exact ⟨k + 1, _, by go_num, by omega, by simp [hus], HA.out, HBA⟩
        case measure => simp [Go.RowKit.intOf]; omega
      · have j1 : ¬ (k : Int) < n := by omega
        have hE : xs.take k = xs := List.take_of_length_le (by rw [HN.out]; omega)
        rw [hE] at hown
        have hBx := HB.out.size
        have HI := Lib.hid (inOrder_any hBx (by rw [HN.out]; exact hn2) hown)
        rw [← HE.out] at HI
        clear hown hBx hE
        go_wp2_with fail
        refine HI.out.mono ?_
        rintro e w2 ⟨⟨v, rfl, us2, ho⟩, b2⟩
        have HO := Lib.hid ho
        have HB2 := Lib.hid (HB.out.trans b2)
        clear ho b2
        go_wp2
        go_ret2
        exact ⟨⟨v, rfl, us2, HO.out⟩, HB2.out⟩
end Go.Proofs.YtbdnonphkobkoaaGreat.Vec
end

section
/- Vectors: Scale: the walk. -/

namespace Go.Proofs.YtbdnonphkobkoaaGreat.Vec
open Go.RowKit

theorem cells_at (w : World) (n : Nat) (hn : w.heap.size = n) (L : List Value) (t : TypeId) : ∀ j u, L[j]? = some u → (w.alloc (.cells L.toArray t)).cell? ((⟨n, 0, none⟩ : Addr).add j) = some u := by
  subst hn; exact cells_k w L t
theorem scale_no {op : ByteArray} {xs : List Rw} {v : Int} {left : Bool} (h : isOpB op = false ∨ Fix.rgtB v = false ∨ rightR xs = false) : scaleR op xs v left = ([], 1) := by
  unfold scaleR
  rcases h with h | h | h <;> rw [h] <;> simp
theorem scale_yes {op : ByteArray} {xs : List Rw} {v : Int} {left : Bool} (h1 : isOpB op = true) (h2 : Fix.rgtB v = true) (h3 : rightR xs = true) : scaleR op xs v left = reckA op [] (xs.map (pairS v left)) := by
  unfold scaleR
  rw [h1, h2, h3]; rfl
theorem ans_none {w w' : World} {r : List Rw × Int} {d : Int} (h : r = ([], d)) (hb : Below w.heap.size w w') : AnsR w r (.returned (.tuple #[.slice none 0 0, .int .i64 d])) w' := by
  subst h
  exact ⟨⟨.slice none 0 0, rfl, [], OwnG.nil _ _⟩, hb⟩
theorem seesNil (w : World) : SeesN w none [] := .inl rfl
def smallR (xs : List Rw) : Prop := ∀ x ∈ xs, rightB x.1 = true
theorem right_smR {xs : List Rw} (h : ∀ x ∈ xs, rightB x.1 = true ∧ Fix.rgt x.2) : SmR xs := fun x hx => right_small (h x hx).1
theorem pairS_sm {xs : List Rw} (v : Int) (left : Bool) (h : SmR xs) : SmP (xs.map (pairS v left)) := fun p hp => by
  obtain ⟨x, hx, rfl⟩ := List.mem_map.1 hp
  exact ⟨h x hx, (h x hx).key 0 []⟩

set_option maxHeartbeats 8000000 in
set_option maxRecDepth 100000 in
theorem scale_any (op : ByteArray) (o : Option Addr) (n c : Nat) (v : Int) (left : Bool) (xs : List Rw) (w : World) (hs : op.size ≤ maxLen) (hn : xs.length = n) (hm : n ≤ maxLen) (B : Nat) (hB : B ≤ w.heap.size) (hS : RowsS w B o xs) :
    Calls Tryz.prog 13 #[.string op, .slice o n c, .int .i64 v, .bool left] w (AnsR w (scaleR op xs v left)) := by
  obtain ⟨i0, hi, hz0, hz1, hz2⟩ := info_parts infoPair
  have HOp := Lib.hid (fun W => isOp_any op W hs)
  have HV := Lib.hid (fun W => Fix.right_any v W)
  have HR := Lib.hid (fun W (hb : Below w.heap.size w W) => right_row o n c xs W _ hn hm (hS.below frow hb))
  cases h1 : isOpB op with
  | false =>
    have HE := Lib.hid (show scaleR op xs v left = ([], 1) from scale_no (.inl h1))
    rw [h1] at HOp
    clear h1 hS
    go_enter Tryz.func13, Tryz.ntmps13
    go_wp2_with fail
    refine (HOp.out _).mono ?_
    rintro e w1 ⟨rfl, b1⟩
    go_wp2
    go_ret2
    exact ans_none HE.out b1
  | true =>
  cases h2 : Fix.rgtB v with
  | false =>
    have HE := Lib.hid (show scaleR op xs v left = ([], 1) from scale_no (.inr (.inl h2)))
    rw [h1] at HOp
    rw [h2] at HV
    clear h1 h2 hS
    go_enter Tryz.func13, Tryz.ntmps13
    go_wp2_with fail
    refine (HOp.out _).mono ?_
    rintro e w1 ⟨rfl, b1⟩
    go_wp2_with (go_at_call 41; refine (HV.out _).mono ?_; rintro e w3 ⟨rfl, rfl⟩)
    go_ret2
    exact ans_none HE.out b1
  | true =>
  cases h3 : rightR xs with
  | false =>
    have HE := Lib.hid (show scaleR op xs v left = ([], 1) from scale_no (.inr (.inr h3)))
    rw [h1] at HOp
    rw [h2] at HV
    rw [h3] at HR
    clear h1 h2 h3 hS
    go_enter Tryz.func13, Tryz.ntmps13
    go_wp2_with fail
    refine (HOp.out _).mono ?_
    rintro e w1 ⟨rfl, b1⟩
    go_wp2_with (first
      | (go_at_call 41; refine (HV.out _).mono ?_; rintro e w3 ⟨rfl, rfl⟩)
      | (go_at_call 24; refine (HR.out _ b1).mono ?_; rintro e w4 ⟨rfl, b4⟩))
    go_ret2
    exact ans_none HE.out (b1.trans (b4.mono b1.size))
  | true =>
  have HE := Lib.hid (show scaleR op xs v left = reckA op [] (xs.map (pairS v left)) from scale_yes h1 h2 h3)
  obtain ⟨hlen, hfit, _⟩ := right_fit h3
  have hsm := right_smR hfit
  have hn2 : n ≤ 2000 := by rw [← hn]; exact hlen
  have HK := Lib.hid (fun W (hb : Below w.heap.size w W) => keyAll_any 0 none o 0 0 n c [] xs W rfl hn hsm (Nat.zero_le _) hn2 B (Nat.le_trans hB hb.size) (hS.below frow hb) (seesNil W))
  have HSP := Lib.hid (pairS_sm v left hsm)
  have HN := Lib.hid hn
  have HSM := Lib.hid hsm
  rw [h1] at HOp
  rw [h2] at HV
  rw [h3] at HR
  clear h1 h2 h3 hS hlen hfit hsm hm hn
  go_enter Tryz.func13, Tryz.ntmps13
  go_wp2_with fail
  refine (HOp.out _).mono ?_
  rintro e w1 ⟨rfl, b1⟩
  go_wp2_with (first
    | (go_at_call 41; refine (HV.out _).mono ?_; rintro e w3 ⟨rfl, rfl⟩)
    | (go_at_call 24; refine (HR.out _ b1).mono ?_; rintro e w4 ⟨rfl, b4⟩; have b14 := b1.trans (b4.mono b1.size); clear b1 b4)
    | (go_at_call 42; refine (HK.out _ b14).mono ?_; rintro e w5 ⟨⟨vk, rfl, usk, hok⟩, b5⟩; obtain ⟨ok, ck, rfl, hsk, hmk⟩ := hok.sees fkey; have hlk : (xs.map (keyed 0 [])).length = n := ((List.length_map ..).trans HN.out); rw [hlk]; have HB5 := Lib.hid (b14.trans (b5.mono b14.size)); clear hok b5 b14 hmk hlk))
  have HSK := Lib.hid hsk
  clear hsk HK HV HR HOp
  go_loopw [10, 12, 13, 30] (fun v10 v12 v13 v30 wr => ∃ (k : Nat) (us : List (List Value)), v30 = .int .i64 k ∧ k ≤ n ∧ us.length = k ∧ OwnP B wr w5.heap.size v10 us ((xs.take k).map (pairS v left)) ∧ Hid (Below w5.heap.size w5 wr)) (fun _ _ _ v30 _ => n - (Go.RowKit.intOf v30).toNat)
  case atStart => exact ⟨0, [], rfl, Nat.zero_le _, rfl, OwnG.nil _ _, Below.refl _ _⟩
  case round =>
    obtain ⟨k, us, rfl, hk, hus, hown, HB⟩ := hrel
    by_cases hkn : k < n
    · have j1 : (k : Int) < n := by omega
      obtain ⟨x, hx⟩ := get_ltG HN.out hkn
      have hx2 : (xs.map (keyed 0 []))[k]? = some (x, keyR 0 [] x.1) := by rw [List.getElem?_map, hx]; rfl
      obtain ⟨b, off, rfl, hR⟩ := (HSK.out.below fkey HB.out).at hx2
      obtain ⟨oL, cL, oK, cK, c0, c1, c2, hL, lL, hK, lK⟩ := key_at hR hx2
      simp only at c0 c1 c2 hL lL hK lK
      obtain ⟨nL, hnL⟩ : ∃ nL, x.1.length = nL := ⟨_, rfl⟩
      obtain ⟨kl, hkl⟩ : ∃ kl, keyR 0 [] x.1 = kl := ⟨_, rfl⟩
      rw [hkl] at c2 hK lK
      obtain ⟨nK, hnK⟩ : ∃ nK, kl.length = nK := ⟨_, rfl⟩
      rw [hnL] at c0
      rw [hnK] at c2
      have HX := Lib.hid (show (xs.take (k + 1)).map (pairS v left) = (xs.take k).map (pairS v left) ++ [(x, kl, if left then (v, x.2) else (x.2, v))] by
        rw [take_atG hx, List.map_append, ← hkl]; rfl)
      have hBx := HB.out.size
      have HB2 := Lib.hid (HB5.out.trans (HB.out.mono HB5.out.size))
      have hwx := HB2.out.size
      have HLb := Lib.hid hL
      have HKb := Lib.hid hK
      have HnL := Lib.hid hnL
      have HnK := Lib.hid hnK
      have HlL := Lib.hid lL
      have HlK := Lib.hid lK
      have HO := Lib.hid hown
      have HLT := Lib.hid (fun g hg => hown.own.lt g hg)
      clear hR hx hx2 hL lL hK lK hnL hkl hnK hown hBx
      cases left with
      | true =>
        have hbw : Below wr.heap.size wr ((wr.alloc (Obj.cells #[.slice oL nL cL, .int .i64 x.2, .slice oK nK cK] 74)).alloc (Obj.cells #[.slice oL nL cL, .int .i64 x.2, .slice oK nK cK, .int .i64 v, .int .i64 x.2] 76)) := ((Below.refl _ _).alloc (Nat.le_refl _) _).alloc (by simp) _
        have hal : Below wr.heap.size wr (((wr.alloc (Obj.cells #[.slice oL nL cL, .int .i64 x.2, .slice oK nK cK] 74)).alloc (Obj.cells #[.slice oL nL cL, .int .i64 x.2, .slice oK nK cK, .int .i64 v, .int .i64 x.2] 76)).alloc (Obj.cells #[.slice oL nL cL, .int .i64 x.2, .slice oK nK cK, .int .i64 v, .int .i64 x.2] 76)) := hbw.alloc (by simp; omega) _
        have HBW := Lib.hid hbw
        have HAL := Lib.hid hal
        have HO2 := Lib.hid (HO.out.below fpair hbw)
        clear hbw hal
        go_wp2_with (at_builtin; go_must (refine wpList_append_own _ rfl _ _ 70 rfl w5.heap.size 76 i0 (.agg #[.slice none 0 0, .int .i64 0, .slice none 0 0, .int .i64 0, .int .i64 0]) 5 72 Tryz.underlying70 hi hz0 hz1 hz2 rfl (by decide) _ _ _ rfl (HO2.out.own.alloc _) ⟨wr.heap.size + 1 + 1, 0, none⟩ 1 1 [.slice oL nL cL, .int .i64 x.2, .slice oK nK cK, .int .i64 v, .int .i64 x.2] rfl rfl (cells_at _ _ (by simp) _ _) (by intro v hv; simp at hv; rcases hv with rfl | rfl | rfl | rfl | rfl <;> rfl) (by unfold maxLen; omega) (by omega) (by have := HB.out.size; simp; omega) ?_); intro vA wA hoA hgA hnA)
        have HA := Lib.hid (show OwnP B wA w5.heap.size vA (us ++ [[.slice oL nL cL, .int .i64 x.2, .slice oK nK cK, .int .i64 v, .int .i64 x.2]]) ((xs.take (k + 1)).map (pairS v true)) from by
          rw [HX.out]
          exact (HO.out.below fpair HAL.out).snoc fpair (Nat.le_trans hB HB5.out.size) ⟨oL, cL, oK, cK, by rw [HnL.out, HnK.out]; rfl, HLb.out.below HAL.out, HlL.out, HKb.out.below HAL.out, HlK.out⟩ hoA hgA)
        have HBA := Lib.hid (Below.grown (HB.out.trans (HAL.out.mono HB.out.size)) hgA (by simp; have := HB.out.size; omega) (fun g hg => (HLT.out g hg).1))
        clear hoA hgA hnA
        go_roundw
        case rel => exact ⟨k + 1, _, by go_num, by omega, by simp [hus], HA.out, HBA⟩
        case measure => simp [Go.RowKit.intOf]; omega
      | false =>
        have hbw : Below wr.heap.size wr ((wr.alloc (Obj.cells #[.slice oL nL cL, .int .i64 x.2, .slice oK nK cK] 74)).alloc (Obj.cells #[.slice oL nL cL, .int .i64 x.2, .slice oK nK cK, .int .i64 x.2, .int .i64 v] 76)) := ((Below.refl _ _).alloc (Nat.le_refl _) _).alloc (by simp) _
        have hal : Below wr.heap.size wr (((wr.alloc (Obj.cells #[.slice oL nL cL, .int .i64 x.2, .slice oK nK cK] 74)).alloc (Obj.cells #[.slice oL nL cL, .int .i64 x.2, .slice oK nK cK, .int .i64 x.2, .int .i64 v] 76)).alloc (Obj.cells #[.slice oL nL cL, .int .i64 x.2, .slice oK nK cK, .int .i64 x.2, .int .i64 v] 76)) := hbw.alloc (by simp; omega) _
        have HBW := Lib.hid hbw
        have HAL := Lib.hid hal
        have HO2 := Lib.hid (HO.out.below fpair hbw)
        clear hbw hal
        go_wp2_with (at_builtin; go_must (refine wpList_append_own _ rfl _ _ 70 rfl w5.heap.size 76 i0 (.agg #[.slice none 0 0, .int .i64 0, .slice none 0 0, .int .i64 0, .int .i64 0]) 5 72 Tryz.underlying70 hi hz0 hz1 hz2 rfl (by decide) _ _ _ rfl (HO2.out.own.alloc _) ⟨wr.heap.size + 1 + 1, 0, none⟩ 1 1 [.slice oL nL cL, .int .i64 x.2, .slice oK nK cK, .int .i64 x.2, .int .i64 v] rfl rfl (cells_at _ _ (by simp) _ _) (by intro v hv; simp at hv; rcases hv with rfl | rfl | rfl | rfl | rfl <;> rfl) (by unfold maxLen; omega) (by omega) (by have := HB.out.size; simp; omega) ?_); intro vA wA hoA hgA hnA)
        have HA := Lib.hid (show OwnP B wA w5.heap.size vA (us ++ [[.slice oL nL cL, .int .i64 x.2, .slice oK nK cK, .int .i64 x.2, .int .i64 v]]) ((xs.take (k + 1)).map (pairS v false)) from by
          rw [HX.out]
          exact (HO.out.below fpair HAL.out).snoc fpair (Nat.le_trans hB HB5.out.size) ⟨oL, cL, oK, cK, by rw [HnL.out, HnK.out]; rfl, HLb.out.below HAL.out, HlL.out, HKb.out.below HAL.out, HlK.out⟩ hoA hgA)
        have HBA := Lib.hid (Below.grown (HB.out.trans (HAL.out.mono HB.out.size)) hgA (by simp; have := HB.out.size; omega) (fun g hg => (HLT.out g hg).1))
        clear hoA hgA hnA
        go_roundw
        case rel => exact ⟨k + 1, _, by go_num, by omega, by simp [hus], HA.out, HBA⟩
        case measure => simp [Go.RowKit.intOf]; omega
    · have j1 : ¬ (k : Int) < n := by omega
      have hE : (xs.take k).map (pairS v left) = xs.map (pairS v left) := by rw [List.take_of_length_le (by rw [HN.out]; omega)]
      rw [hE] at hown
      obtain ⟨op2, cp, rfl, hsp, _⟩ := hown.sees fpair
      have hlp : (xs.map (pairS v left)).length = n := (List.length_map ..).trans HN.out
      have HK := Lib.hid (reckon_any op op2 n cp (xs.map (pairS v left)) wr B hs hlp hn2 HSP.out hsp)
      rw [← HE.out] at HK
      rw [hlp]
      have HBw := Lib.hid (HB5.out.trans (HB.out.mono HB5.out.size))
      clear hown hE hsp hlp
      go_wp2_with fail
      refine HK.out.mono ?_
      rintro e w6 ⟨⟨v6, rfl, us6, ho6⟩, b6⟩
      have hbs := HBw.out.size
      have HO := Lib.hid (ho6.own_le hbs)
      have HB6 := Lib.hid (HBw.out.trans (b6.mono hbs))
      clear ho6 b6 hbs
      go_wp2
      go_ret2
      exact ⟨⟨v6, rfl, us6, HO.out⟩, HB6.out⟩
end Go.Proofs.YtbdnonphkobkoaaGreat.Vec
end

section
/- Vectors: Match: the walk. -/

namespace Go.Proofs.YtbdnonphkobkoaaGreat.Vec
open Go.RowKit Go.Maps Go.WideMaps

theorem match_no {op : ByteArray} {xs ys : List Rw} {mode : Int} {ns : List ByteArray} (h : isOpB op = false ∨ rightR xs = false ∨ rightR ys = false) : matchR op xs ys mode ns = ([], 1) := by
  unfold matchR
  rcases h with h | h | h <;> rw [h] <;> simp
theorem match_twice {op : ByteArray} {xs ys : List Rw} {mode : Int} {ns : List ByteArray} (h1 : isOpB op = true) (h2 : rightR xs = true) (h3 : rightR ys = true) (h : onceB (keysR mode ns xs) = false ∨ onceB (keysR mode ns ys) = false) : matchR op xs ys mode ns = ([], 6) := by
  unfold matchR
  rw [h1, h2, h3]
  rcases h with h | h <;> rw [h] <;> simp
theorem match_yes {op : ByteArray} {xs ys : List Rw} {mode : Int} {ns : List ByteArray} (h1 : isOpB op = true) (h2 : rightR xs = true) (h3 : rightR ys = true) (h4 : onceB (keysR mode ns xs) = true) (h5 : onceB (keysR mode ns ys) = true) : matchR op xs ys mode ns = reckA op [] (xs.filterMap (pairM mode ns ys)) := by
  unfold matchR
  rw [h1, h2, h3, h4, h5]; rfl
theorem keys_eq (mode : Int) (ns : List ByteArray) (xs : List Rw) : (xs.map (keyed mode ns)).map (·.2) = keysR mode ns xs := by
  unfold keysR
  rw [List.map_map]; rfl
theorem pairM_sm {xs ys : List Rw} (mode : Int) (ns : List ByteArray) (h : SmR xs) : SmP (xs.filterMap (pairM mode ns ys)) := fun p hp => by
  obtain ⟨x, hx, hp⟩ := List.mem_filterMap.1 hp
  unfold pairM at hp
  obtain ⟨v, _, rfl⟩ := Option.map_eq_some_iff.1 hp
  exact ⟨h x hx, (h x hx).key mode ns⟩
theorem filterMap_snoc {α β : Type} (f : α → Option β) (l : List α) (x : α) : (l ++ [x]).filterMap f = l.filterMap f ++ (f x).toList := by
  rw [List.filterMap_append]
  congr 1
theorem map_kept {w W : World} {b n : Nat} {D : DataW Unit} (h : numsMap w b n D) (hb : Below w.heap.size w W) : numsMap W b n D := h.kept (grown_none hb) (by simp)

set_option maxHeartbeats 16000000 in
set_option maxRecDepth 100000 in
theorem match_any (op : ByteArray) (oa ob on : Option Addr) (na ca nb cb nn cn : Nat) (mode : Int) (ns : List ByteArray) (xs ys : List Rw) (w : World) (hs : op.size ≤ maxLen) (hna : xs.length = na) (hnb : ys.length = nb) (hnn : ns.length = nn) (hma : na ≤ maxLen) (hmb : nb ≤ maxLen) (hmn : nn ≤ maxLen) (B : Nat) (hB : B ≤ w.heap.size) (hSa : RowsS w B oa xs) (hSb : RowsS w B ob ys) (hN : SeesN w on ns) :
    Calls Tryz.prog 14 #[.string op, .slice oa na ca, .slice ob nb cb, .int .i64 mode, .slice on nn cn] w (AnsR w (matchR op xs ys mode ns)) := by
  obtain ⟨i0, hi, hz0, hz1, hz2⟩ := info_parts infoPair
  have HOp := Lib.hid (fun W => isOp_any op W hs)
  have HRa := Lib.hid (fun W (hb : Below w.heap.size w W) => right_row oa na ca xs W _ hna hma (hSa.below frow hb))
  have HRb := Lib.hid (fun W (hb : Below w.heap.size w W) => right_row ob nb cb ys W _ hnb hmb (hSb.below frow hb))
  cases h1 : isOpB op with
  | false =>
    have HE := Lib.hid (show matchR op xs ys mode ns = ([], 1) from match_no (.inl h1))
    rw [h1] at HOp
    clear h1 hSa hSb hN HRa HRb
    go_enter Tryz.func14, Tryz.ntmps14
    go_wp2_with fail
    refine (HOp.out _).mono ?_
    rintro e w1 ⟨rfl, b1⟩
    go_wp2
    go_ret2
    exact ans_none HE.out b1
  | true =>
  rw [h1] at HOp
  cases h2 : rightR xs with
  | false =>
    have HE := Lib.hid (show matchR op xs ys mode ns = ([], 1) from match_no (.inr (.inl h2)))
    rw [h2] at HRa
    clear h1 h2 hSa hSb hN HRb
    go_enter Tryz.func14, Tryz.ntmps14
    go_wp2_with fail
    refine (HOp.out _).mono ?_
    rintro e w1 ⟨rfl, b1⟩
    go_wp2_with fail
    refine (HRa.out _ b1).mono ?_
    rintro e w2 ⟨rfl, b2⟩
    go_wp2
    go_ret2
    exact ans_none HE.out (b1.trans (b2.mono b1.size))
  | true =>
  rw [h2] at HRa
  cases h3 : rightR ys with
  | false =>
    have HE := Lib.hid (show matchR op xs ys mode ns = ([], 1) from match_no (.inr (.inr h3)))
    rw [h3] at HRb
    clear h1 h2 h3 hSa hSb hN
    go_enter Tryz.func14, Tryz.ntmps14
    go_wp2_with fail
    refine (HOp.out _).mono ?_
    rintro e w1 ⟨rfl, b1⟩
    go_wp2_with fail
    refine (HRa.out _ b1).mono ?_
    rintro e w2 ⟨rfl, b2⟩
    have b12 := b1.trans (b2.mono b1.size)
    clear b1 b2
    go_wp2_with fail
    refine (HRb.out _ b12).mono ?_
    rintro e w3 ⟨rfl, b3⟩
    go_wp2
    go_ret2
    exact ans_none HE.out (b12.trans (b3.mono b12.size))
  | true =>
  rw [h3] at HRb
  obtain ⟨hlena, hfita, _⟩ := right_fit h2
  obtain ⟨hlenb, hfitb, _⟩ := right_fit h3
  have hsma := right_smR hfita
  have hsmb := right_smR hfitb
  have hna2 : na ≤ 2000 := by rw [← hna]; exact hlena
  have hnb2 : nb ≤ 2000 := by rw [← hnb]; exact hlenb
  have hla : (xs.map (keyed mode ns)).length = na := (List.length_map ..).trans hna
  have hlb : (ys.map (keyed mode ns)).length = nb := (List.length_map ..).trans hnb
  have hka : ∀ x ∈ xs.map (keyed mode ns), rightB x.2 = true ∧ SmL x.2 ∧ Fix.rgt x.1.2 := fun p hp => by
    obtain ⟨x, hx, rfl⟩ := List.mem_map.1 hp
    exact ⟨right_key mode ns (hfita x hx).1, (hsma x hx).key mode ns, (hfita x hx).2⟩
  have hkb : ∀ x ∈ ys.map (keyed mode ns), rightB x.2 = true ∧ SmL x.2 ∧ Fix.rgt x.1.2 := fun p hp => by
    obtain ⟨x, hx, rfl⟩ := List.mem_map.1 hp
    exact ⟨right_key mode ns (hfitb x hx).1, (hsmb x hx).key mode ns, (hfitb x hx).2⟩
  have HKa := Lib.hid (fun W (hb : Below w.heap.size w W) => keyAll_any mode on oa nn cn na ca ns xs W hnn hna hsma hmn hna2 B (Nat.le_trans hB hb.size) (hSa.below frow hb) (hN.below hb))
  have HKb := Lib.hid (fun W (hb : Below w.heap.size w W) => keyAll_any mode on ob nn cn nb cb ns ys W hnn hnb hsmb hmn hnb2 B (Nat.le_trans hB hb.size) (hSb.below frow hb) (hN.below hb))
  have HBa := Lib.hid (fun (W : World) o c (hS : SeeG (EKey B) 3 W o (xs.map (keyed mode ns))) => byText_any o na c (xs.map (keyed mode ns)) W B hla hna2 hka hS)
  have HBb := Lib.hid (fun (W : World) o c (hS : SeeG (EKey B) 3 W o (ys.map (keyed mode ns))) => byText_any o nb c (ys.map (keyed mode ns)) W B hlb hnb2 hkb hS)
  have HLA := Lib.hid hla
  have HLB := Lib.hid hlb
  have HKA := Lib.hid hka
  have HNA := Lib.hid hna
  have HSP := Lib.hid (pairM_sm (ys := ys) mode ns hsma)
  have HTw := Lib.hid (fun h => match_twice (mode := mode) (ns := ns) h1 h2 h3 h)
  have HYe := Lib.hid (fun h4 h5 => match_yes (mode := mode) (ns := ns) h1 h2 h3 h4 h5)
  clear h1 h2 h3 hSa hSb hN hlena hfita hlenb hfitb hsma hsmb hka hkb hla hlb hna hnb hnn
  go_enter Tryz.func14, Tryz.ntmps14
  go_wp2_with fail
  refine (HOp.out _).mono ?_
  rintro e w1 ⟨rfl, b1⟩
  go_wp2_with fail
  refine (HRa.out _ b1).mono ?_
  rintro e w2 ⟨rfl, b2⟩
  have b12 := b1.trans (b2.mono b1.size)
  clear b1 b2
  go_wp2_with fail
  refine (HRb.out _ b12).mono ?_
  rintro e w3 ⟨rfl, b3⟩
  have b13 := b12.trans (b3.mono b12.size)
  clear b12 b3
  go_wp2_with fail
  refine (HKa.out _ b13).mono ?_
  rintro e w4 ⟨⟨va, rfl, usa, hoa⟩, b4⟩
  obtain ⟨oA, cA, rfl, hsa, _⟩ := hoa.sees fkey
  rw [HLA.out]
  have b14 := b13.trans (b4.mono b13.size)
  clear b13 b4 hoa
  go_wp2_with fail
  refine (HKb.out _ b14).mono ?_
  rintro e w5 ⟨⟨vb, rfl, usb, hob⟩, b5⟩
  obtain ⟨oB, cB, rfl, hsb, _⟩ := hob.sees fkey
  rw [HLB.out]
  have hsa5 := hsa.below fkey b5
  have b15 := b14.trans (b5.mono b14.size)
  have HTa := Lib.hid (HBa.out w5 oA cA hsa5)
  have HSA := Lib.hid hsa5
  have HSB := Lib.hid hsb
  have HB5 := Lib.hid b15
  clear b14 b5 hob hsa hsb hsa5 b15 HOp HRa HRb HKa HKb HBa
  go_wp2_with fail
  refine HTa.out.mono ?_
  rintro e w6 ⟨hnum, b6⟩
  have HSA6 := Lib.hid (HSA.out.below fkey b6)
  have HTb := Lib.hid (HBb.out w6 oB cB (HSB.out.below fkey b6))
  have HB6 := Lib.hid (HB5.out.trans (b6.mono HB5.out.size))
  clear b6 HBb HSA HSB HTa HB5
  rcases hnum with ⟨hone, rfl, _⟩ | ⟨hone, rfl⟩
  case inr =>
    rw [keys_eq] at hone
    have HE := Lib.hid (HTw.out (.inl hone))
    clear hone HTw HYe
    go_wp2_with fail
    refine HTb.out.mono ?_
    rintro e w7 ⟨hnum, b7⟩
    have HB7 := Lib.hid (HB6.out.trans (b7.mono HB6.out.size))
    clear b7
    rcases hnum with ⟨_, rfl, _⟩ | ⟨_, rfl⟩
    all_goals
      go_wp2
      go_ret2
      exact ans_none HE.out HB7.out
  case inl =>
    rw [keys_eq] at hone
    have HOne := Lib.hid hone
    clear hone
    go_wp2_with fail
    refine HTb.out.mono ?_
    rintro e w7 ⟨hnum, b7⟩
    have HB7 := Lib.hid (HB6.out.trans (b7.mono HB6.out.size))
    have HSA7 := Lib.hid (HSA6.out.below fkey b7)
    clear b7 HSA6 HTb
    rcases hnum with ⟨hone, rfl, D, hD, hNum⟩ | ⟨hone, rfl⟩
    case inr =>
      rw [keys_eq] at hone
      have HE := Lib.hid (HTw.out (.inr hone))
      clear hone HTw HYe
      go_wp2
      go_ret2
      exact ans_none HE.out HB7.out
    case inl =>
      rw [keys_eq] at hone
      rw [HLB.out] at hD
      have HE := Lib.hid (HYe.out HOne.out hone)
      have HM := Lib.hid (fun W (hb : Below w7.heap.size w7 W) => map_kept hD hb)
      have HNum := Lib.hid hNum
      obtain ⟨mb, hmb'⟩ : ∃ mb, w6.heap.size = mb := ⟨_, rfl⟩
      rw [hmb'] at HM ⊢
      clear hone HTw HYe hD hNum HOne hmb'
      go_wp2_with fail
      go_loopw [18, 20, 21, 22, 62] (fun v18 v20 v21 v22 v62 wr => ∃ (k : Nat) (us : List (List Value)), v62 = .int .i64 k ∧ k ≤ na ∧ us.length ≤ k ∧ OwnP B wr w7.heap.size v18 us ((xs.take k).filterMap (pairM mode ns ys)) ∧ Hid (Below w7.heap.size w7 wr)) (fun _ _ _ _ v62 _ => na - (Go.RowKit.intOf v62).toNat)
      case atStart => exact ⟨0, [], rfl, Nat.zero_le _, Nat.zero_le _, OwnG.nil _ _, Below.refl _ _⟩
      case round =>
        obtain ⟨k, us, rfl, hk, hus, hown, HB⟩ := hrel
        by_cases hkn : k < na
        · have j1 : (k : Int) < na := by omega
          obtain ⟨x, hx⟩ := get_ltG HNA.out hkn
          have hx2 : (xs.map (keyed mode ns))[k]? = some (x, keyR mode ns x.1) := by rw [List.getElem?_map, hx]; rfl
          obtain ⟨b, off, rfl, hR⟩ := (HSA7.out.below fkey HB.out).at hx2
          obtain ⟨oL, cL, oK, cK, c0, c1, c2, hL, lL, hK, lK⟩ := key_at hR hx2
          obtain ⟨hrk, hsk, _⟩ := HKA.out _ (List.mem_of_getElem? hx2)
          have hfm := filterMap_snoc (pairM mode ns ys) (xs.take k) x
          rw [← take_atG hx] at hfm
          have hpm : pairM mode ns ys x = (findK (keyR mode ns x.1) (ys.map (keyed mode ns))).map fun v => (x, keyR mode ns x.1, x.2, v) := by rw [findK_keyed]; rfl
          simp only at c0 c1 c2 hL lL hK lK hrk hsk
          obtain ⟨nL, hnL⟩ : ∃ nL, x.1.length = nL := ⟨_, rfl⟩
          obtain ⟨kl, hkl⟩ : ∃ kl, keyR mode ns x.1 = kl := ⟨_, rfl⟩
          rw [hkl] at c2 hK lK hrk hsk hpm
          obtain ⟨nK, hnK⟩ : ∃ nK, kl.length = nK := ⟨_, rfl⟩
          rw [hnL] at c0
          rw [hnK] at c2
          have hD0 := HNum.out.has kl hrk
          have hAt := fun v hv => HNum.out.at0 kl v hrk hv
          have hz : (kT kl).size ≤ maxLen := Nat.le_trans (kT_size hsk) (by unfold maxLen; omega)
          have HKey := Lib.hid (keyOf_string_mk (P := Tryz.prog) Tryz.underlying9 (s := kT kl) hz)
          obtain ⟨W1, hW1⟩ : ∃ W1, wr.alloc (Obj.cells #[.slice oL nL cL, .int .i64 x.2, .slice oK nK cK] 74) = W1 := ⟨_, rfl⟩
          have HW1 := Lib.hid hW1
          have hbw : Below wr.heap.size wr W1 := by rw [← hW1]; exact (Below.refl _ _).alloc (Nat.le_refl _) _
          have hBx := HB.out.size
          have HBw := Lib.hid (HB.out.trans (hbw.mono hBx))
          have HT := Lib.hid (ktext_any oL oK nL cL nK cK x.2 kl W1 hnK hsk (hK.sees.below hbw))
          have HBX := Lib.hid (show ∀ W, Below W1.heap.size W1 W → ∀ j u, [Value.slice oL nL cL, .int .i64 x.2, .slice oK nK cK][j]? = some u → W.cell? ⟨wr.heap.size, j, none⟩ = some u by
            intro W h; rw [← hW1] at h; exact boxk wr _ _ W h)
          have HO := Lib.hid (hown.below fpair hbw)
          have HLT := Lib.hid (fun g hg => hown.own.lt g hg)
          have HLb := Lib.hid (hL.below hbw)
          have HKb := Lib.hid (hK.below hbw)
          have HnL := Lib.hid hnL
          have HnK := Lib.hid hnK
          have HlL := Lib.hid lL
          have HlK := Lib.hid lK
          obtain ⟨s, hss⟩ : ∃ s, kT kl = s := ⟨_, rfl⟩
          rw [hss] at HT HKey hD0 hAt
          obtain ⟨f, hf⟩ : ∃ f, findK kl (ys.map (keyed mode ns)) = f := ⟨_, rfl⟩
          rw [hf] at hD0 hAt hpm
          rw [hpm] at hfm
          clear hR hx hx2 hL lL hK lK hrk hsk hnL hkl hnK hbw hown hz hss hW1 hf hpm
          cases f with
          | none =>
            have HH := Lib.hid (show Maps.has D (.string s.data.toList) = false from hD0)
            have HFM := Lib.hid (show (xs.take (k + 1)).filterMap (pairM mode ns ys) = (xs.take k).filterMap (pairM mode ns ys) by rw [hfm]; simp)
            clear hD0 hAt hfm
            go_wp2_with fail
            rw [HW1.out]
            refine HT.out.mono ?_
            rintro e w8 ⟨rfl, b8⟩
            have hB8 := HBw.out.trans (b8.mono HBw.out.size)
            have hm8 := HM.out _ hB8
            have HB8 := Lib.hid hB8
            have HO8 := Lib.hid (HO.out.below fpair b8)
            clear b8 hB8
            go_wp2_with (at_lookup; refine wpList_lookup_own_ok_int _ rfl _ _ 78 rfl 9 3 .i64 (Maps.string_keyed Tryz.underlying9) Tryz.underlying78 Tryz.underlying3 (Tryz.zeroValue3 _) mb nb D rfl hm8 _ _ rfl HKey.out ?_; intro cc hat hwc; rw [HH.out]; clear hat hwc hm8)
            go_roundw
            case rel => exact ⟨k + 1, us, by go_num, by omega, by omega, by rw [HFM.out]; exact HO8.out, HB8⟩
            case measure => simp [Go.RowKit.intOf]; omega
          | some v =>
            have HH := Lib.hid (show Maps.has D (.string s.data.toList) = true from hD0)
            have HAt := Lib.hid (hAt v rfl)
            have HFM := Lib.hid (show (xs.take (k + 1)).filterMap (pairM mode ns ys) = (xs.take k).filterMap (pairM mode ns ys) ++ [(x, kl, x.2, v)] by rw [hfm]; simp)
            clear hD0 hAt hfm
            go_wp2_with fail
            rw [HW1.out]
            refine HT.out.mono ?_
            rintro e w8 ⟨rfl, b8⟩
            have q0 := HBX.out w8 b8 0 _ rfl
            have q1 := HBX.out w8 b8 1 _ rfl
            have q2 := HBX.out w8 b8 2 _ rfl
            have hB8 := HBw.out.trans (b8.mono HBw.out.size)
            have hm8 := HM.out _ hB8
            have HB8 := Lib.hid hB8
            have HO8 := Lib.hid (HO.out.below fpair b8)
            have HL8 := Lib.hid (HLb.out.below b8)
            have HK8 := Lib.hid (HKb.out.below b8)
            clear b8 hB8
            go_wp2_with (first
              | (at_lookup; refine wpList_lookup_own_ok_int _ rfl _ _ 78 rfl 9 3 .i64 (Maps.string_keyed Tryz.underlying9) Tryz.underlying78 Tryz.underlying3 (Tryz.zeroValue3 _) mb nb D rfl hm8 _ _ rfl HKey.out ?_; intro cc hat hwc; rw [HH.out]; have hcc : v = cc := (Lit.int.inj (DataW.lit.inj ((hat.symm).trans (HAt.out _)))).2.symm; subst hcc; clear hat hwc hm8)
              | (at_builtin; go_must (refine wpList_append_own _ rfl _ _ 70 rfl w7.heap.size 76 i0 (.agg #[.slice none 0 0, .int .i64 0, .slice none 0 0, .int .i64 0, .int .i64 0]) 5 72 Tryz.underlying70 hi hz0 hz1 hz2 rfl (by decide) _ _ _ rfl (HO8.out.own.alloc _) ⟨w8.heap.size, 0, none⟩ 1 1 [.slice oL nL cL, .int .i64 x.2, .slice oK nK cK, .int .i64 x.2, .int .i64 v] rfl rfl (cells_k _ _ _) (by intro v hv; simp at hv; rcases hv with rfl | rfl | rfl | rfl | rfl <;> rfl) (by unfold maxLen; omega) (by omega) (by have := HB8.out.size; simp; omega) ?_); intro vA wA hoA hgA hnA))
            have hal : Below w8.heap.size w8 (w8.alloc (Obj.cells #[.slice oL nL cL, .int .i64 x.2, .slice oK nK cK, .int .i64 x.2, .int .i64 v] 76)) := (Below.refl _ _).alloc (Nat.le_refl _) _
            have HA := Lib.hid (show OwnP B wA w7.heap.size vA (us ++ [[.slice oL nL cL, .int .i64 x.2, .slice oK nK cK, .int .i64 x.2, .int .i64 v]]) ((xs.take (k + 1)).filterMap (pairM mode ns ys)) from by
              rw [HFM.out]
              exact (HO8.out.below fpair hal).snoc fpair (Nat.le_trans hB HB7.out.size) ⟨oL, cL, oK, cK, by rw [HnL.out, HnK.out], HL8.out.below hal, HlL.out, HK8.out.below hal, HlK.out⟩ hoA hgA)
            have HBA := Lib.hid (Below.grown (HB8.out.trans (hal.mono HB8.out.size)) hgA (by have := HB8.out.size; simp; omega) (fun g hg => (HLT.out g hg).1))
            clear hoA hgA hnA hal
            go_roundw
            case rel => exact ⟨k + 1, _, by go_num, by omega, by simp; omega, HA.out, HBA⟩
            case measure => simp [Go.RowKit.intOf]; omega
        · have j1 : ¬ (k : Int) < na := by omega
          have hE : xs.take k = xs := List.take_of_length_le (by rw [HNA.out]; omega)
          rw [hE] at hown
          have hol := hown.len
          obtain ⟨oP, cP, rfl, hsp, _⟩ := hown.sees fpair
          obtain ⟨np, hnp⟩ : ∃ np, (xs.filterMap (pairM mode ns ys)).length = np := ⟨_, rfl⟩
          have HK := Lib.hid (reckon_any op oP np cP (xs.filterMap (pairM mode ns ys)) wr B hs hnp (by omega) HSP.out hsp)
          rw [← HE.out] at HK
          rw [hnp]
          have HBw := Lib.hid (HB7.out.trans (HB.out.mono HB7.out.size))
          clear hown hE hsp hnp hol
          go_wp2_with fail
          refine HK.out.mono ?_
          rintro e w9 ⟨⟨v9, rfl, us9, ho9⟩, b9⟩
          have hbs := HBw.out.size
          have HO := Lib.hid (ho9.own_le hbs)
          have HB9 := Lib.hid (HBw.out.trans (b9.mono hbs))
          clear ho9 b9 hbs
          go_wp2
          go_ret2
          exact ⟨⟨v9, rfl, us9, HO.out⟩, HB9.out⟩
end Go.Proofs.YtbdnonphkobkoaaGreat.Vec
end
