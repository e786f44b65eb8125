/- Vectors: the document's own reckoning of rows with a number. -/
import Derived.Test.YtbdnonphkobkoaaGreatVda
import Derived.Test.YtbdnonphkobkoaaGreatVdb
import Derived.Test.YtbdnonphkobkoaaGreatRb
namespace Go.Proofs.YtbdnonphkobkoaaGreat.Vec
open Go.RowKit Go.Lib

theorem isOp_yes {s : ByteArray} (h : ∀ a b, Fix.rgt a → Fix.rgt b → (Fix.doF s a b).2 ≠ 1) : isOpB s = true := by
  have := h 0 0 (by decide) (by decide)
  unfold isOpB
  simpa using this
theorem isOp_in {s : ByteArray} (h : s ∈ Fix.signs) : isOpB s = true := by
  simp only [Fix.signs, List.mem_cons, List.not_mem_nil, or_false] at h
  rcases h with rfl | rfl | rfl | rfl | rfl | rfl | rfl | rfl | rfl | rfl | rfl <;> decide +kernel
theorem isOp_out {s : ByteArray} (h : s ∉ Fix.signs) : isOpB s = false := by
  unfold isOpB
  rw [Fix.doF_none h]; rfl
theorem rop_any (s : ByteArray) (w : World) : Calls Tryz.prog 48 #[.string s] w fun e w' => e = .returned (.bool (isOpB s)) ∧ w = w' := by
  by_cases hs : s ∈ Fix.signs
  case neg => rw [isOp_out hs]; exact Fix.rop_none s w (Fix.NoSign.of hs)
  rw [isOp_in hs]
  simp only [Fix.signs, List.mem_cons, List.not_mem_nil, or_false] at hs
  rcases hs with rfl | rfl | rfl | rfl | rfl | rfl | rfl | rfl | rfl | rfl | rfl
  · exact Fix.rop_add w
  · exact Fix.rop_sub w
  · exact Fix.rop_mul w
  · exact Fix.rop_div w
  · exact Fix.rop_mod w
  · exact Fix.rop_eq w
  · exact Fix.rop_ne w
  · exact Fix.rop_lt w
  · exact Fix.rop_le w
  · exact Fix.rop_gt w
  · exact Fix.rop_ge w
theorem rvalue_any (v : Int) (w : World) : Calls Tryz.prog 35 #[.int .i64 v] w fun e w' => e = .returned (.bool (Fix.rgtB v)) ∧ w = w' := by
  by_cases h : Fix.rgt v
  · rw [show Fix.rgtB v = true from decide_eq_true h]; exact Fix.value_yes v w h
  · rw [show Fix.rgtB v = false from decide_eq_false h]; exact Fix.value_no v w h
theorem OutB.low {BE B B' : Nat} {r : List Rw × Int} {e : Ending} {w' : World} (h : OutB BE B r e w') (hB : B' ≤ B) : OutB BE B' r e w' := by
  obtain ⟨v, rfl, us, ho⟩ := h
  exact ⟨v, rfl, us, ho.own_le hB⟩

set_option maxHeartbeats 16000000 in
set_option maxRecDepth 100000 in
theorem rscale_any (op : ByteArray) (o : Option Addr) (n c : Nat) (xs : List Rw) (v : Int) (left : Bool) (w : World) (B : Nat) (hB : B ≤ w.heap.size) (hn : xs.length = n) (hm : n ≤ 1000) (hl : SmR xs) (hS : RowsS w B o xs) :
    Calls Tryz.prog 18 #[.string op, .slice o n c, .int .i64 v, .bool left] w fun e w' => OutB B w.heap.size (scaleR op xs v left) e w' ∧ Below w.heap.size w w' := by
  obtain ⟨i0, hi, hz0, hz1, hz2⟩ := info_parts infoRow
  have HRt := Lib.hid (rrightR_any o n c xs w B hB hn (by unfold maxLen; omega) hl hS)
  have HOp := Lib.hid (fun W => rop_any op W)
  have HVa := Lib.hid (fun W => rvalue_any v W)
  have HCp := Lib.hid (fun W => Fix.rcomp_any op W)
  have HD := Lib.hid (fun a b W => Fix.rdo_any op a b W)
  have HS := Lib.hid hS
  have HN := Lib.hid hn
  have HL := Lib.hid hl
  have HWB := Lib.hid hB
  cases hr : rightR xs with
  | false =>
    have HA := Lib.hid (show scaleR op xs v left = ([], 1) from by unfold scaleR; rw [hr, Bool.and_false, if_neg (by decide)])
    rw [hr] at HRt
    clear hr hS hn hl HD HCp HVa HOp
    go_enter Tryz.func18, Tryz.ntmps18
    go_wp2_with fail
    refine HRt.out.mono ?_
    rintro e w1 ⟨rfl, b1⟩
    have HB1 := Lib.hid b1
    clear b1
    go_wp2
    go_ret2
    refine ⟨⟨.slice none 0 0, ?_, [], ?_⟩, HB1.out⟩
    · rw [HA.out]; rfl
    · rw [HA.out]; exact OwnG.nil _ _
  | true =>
  rw [hr] at HRt
  cases ho : isOpB op with
  | false =>
    have HA := Lib.hid (show scaleR op xs v left = ([], 1) from by unfold scaleR; rw [ho, Bool.false_and, Bool.false_and, if_neg (by decide)])
    rw [ho] at HOp
    clear hr ho hS hn hl HD HCp HVa
    go_enter Tryz.func18, Tryz.ntmps18
    go_wp2_with fail
    refine HRt.out.mono ?_
    rintro e w1 ⟨rfl, b1⟩
    have HB1 := Lib.hid b1
    clear b1
    go_wp2_with fail
    refine (HOp.out _).mono ?_
    rintro e w2 ⟨rfl, rfl⟩
    go_wp2
    go_ret2
    refine ⟨⟨.slice none 0 0, ?_, [], ?_⟩, HB1.out⟩
    · rw [HA.out]; rfl
    · rw [HA.out]; exact OwnG.nil _ _
  | true =>
  rw [ho] at HOp
  cases hv : Fix.rgtB v with
  | false =>
    have HA := Lib.hid (show scaleR op xs v left = ([], 1) from by unfold scaleR; rw [hv, Bool.and_false, Bool.false_and, if_neg (by decide)])
    rw [hv] at HVa
    clear hr ho hv hS hn hl HD HCp
    go_enter Tryz.func18, Tryz.ntmps18
    go_wp2_with fail
    refine HRt.out.mono ?_
    rintro e w1 ⟨rfl, b1⟩
    have HB1 := Lib.hid b1
    clear b1
    go_wp2_with fail
    refine (HOp.out _).mono ?_
    rintro e w2 ⟨rfl, rfl⟩
    go_wp2_with fail
    refine (HVa.out _).mono ?_
    rintro e w2 ⟨rfl, rfl⟩
    go_wp2
    go_ret2
    refine ⟨⟨.slice none 0 0, ?_, [], ?_⟩, HB1.out⟩
    · rw [HA.out]; rfl
    · rw [HA.out]; exact OwnG.nil _ _
  | true =>
  rw [hv] at HVa
  have HA := Lib.hid (show scaleR op xs v left = reckA op [] (xs.map (pairS v left)) from by unfold scaleR; rw [hv, hr, ho]; rfl)
  obtain ⟨g, hg⟩ : ∃ g, Fix.comparesF op = g := ⟨_, rfl⟩
  have HG := Lib.hid hg
  rw [hg] at HCp
  clear hr ho hv hS hn hl hg
  cases left with
  | false =>
    go_enter Tryz.func18, Tryz.ntmps18
    go_wp2_with fail
    refine HRt.out.mono ?_
    rintro e w1 ⟨rfl, b1⟩
    have HB1 := Lib.hid b1
    clear b1
    go_wp2_with fail
    refine (HOp.out _).mono ?_
    rintro e w2 ⟨rfl, rfl⟩
    go_wp2_with fail
    refine (HVa.out _).mono ?_
    rintro e w2 ⟨rfl, rfl⟩
    clear HRt HOp HVa
    go_wp2
    go_loopw [10, 11] (fun v10 v11 wr => ∃ (k : Nat) (us : List (List Value)) (acc : List Rw), v11 = .int .i64 k ∧ k ≤ n ∧ us.length ≤ k ∧ OwnG (ERow B) 2 53 wr w.heap.size v10 us acc ∧ Hid (reckA op acc ((xs.drop k).map (pairS v false)) = reckA op [] (xs.map (pairS v false))) ∧ Hid (Below w.heap.size w wr)) (fun _ v11 _ => n - (Go.RowKit.intOf v11).toNat)
    case atStart => exact ⟨0, [], [], rfl, Nat.zero_le _, Nat.zero_le _, OwnG.nil _ _, rfl, HB1⟩
    case round =>
      obtain ⟨k, us, acc, rfl, hk, hus, hown, H, HB⟩ := hrel
      by_cases hkn : k < n
      · have j1 : (k : Int) < n := by omega
        obtain ⟨x, hx⟩ := get_ltG HN.out hkn
        have HX := Lib.hid (drop_atG hx)
        have Hsl := Lib.hid (HL.out x (List.mem_of_getElem? hx))
        obtain ⟨b, off, rfl, hR⟩ := (HS.out.below frow HB.out).at hx
        obtain ⟨oL, cL, c0, c1, hL, lL⟩ := row_at hR hx
        obtain ⟨xl, xv⟩ := x
        simp only at c0 c1 hL lL
        obtain ⟨nL, hnL⟩ : ∃ nL, xl.length = nL := ⟨_, rfl⟩
        rw [hnL] at c0
        have HnL := Lib.hid hnL
        have HlL := Lib.hid lL
        have HO := Lib.hid hown
        have HLT := Lib.hid (fun g hg => hown.own.lt g hg)
        obtain ⟨d1, hd1'⟩ : ∃ d1, (Fix.doF op xv v).1 = d1 := ⟨_, rfl⟩
        obtain ⟨d2, hd2'⟩ : ∃ d2, (Fix.doF op xv v).2 = d2 := ⟨_, rfl⟩
        have HDo := Lib.hid (HD.out xv v)
        have HDD := Lib.hid (show Fix.doF op xv v = (d1, d2) from by rw [← hd1', ← hd2'])
        rw [HDD.out] at HDo
        have HLW := Lib.hid hL
        have HC := Lib.hid (fun (W : World) (h : Below wr.heap.size wr W) => (show W.cell? ⟨b, off + k * 2, none⟩ = some (.slice oL nL cL) ∧ W.cell? ⟨b, off + k * 2 + 1, none⟩ = some (.int .i64 xv) from by
          have hb9 := World.block_lt_of_cell? _ _ c0
          exact ⟨(h.cell (p := ⟨b, off + k * 2, none⟩) hb9).trans c0, (h.cell (p := ⟨b, off + k * 2 + 1, none⟩) hb9).trans c1⟩))
        clear hR hx hL lL hnL hown hd1' hd2'
        have HWV := Lib.hid (Below.refl wr.heap.size wr)
        by_cases hd2 : d2 = 0
        · subst hd2
          cases g with
          | false =>
            have H2 := Lib.hid (show reckA op (acc ++ [(keyR 0 [] xl, d1)]) ((xs.drop (k + 1)).map (pairS v false)) = reckA op [] (xs.map (pairS v false)) by
              rw [← H.out, HX.out, List.map_cons, reckA_row HDD.out HG.out]; rfl)
            go_wp2_with fail
            refine (HDo.out _).mono ?_
            rintro e w2 ⟨rfl, rfl⟩
            go_wp2_with fail
            refine (HCp.out _).mono ?_
            rintro e w2 ⟨rfl, rfl⟩
            have HKe := Lib.hid (rkey_any 0 none oL 0 0 nL cL [] xl wr rfl HnL.out (by omega) (by have := Hsl.out.len; have := HnL.out; omega) (fun _ => rfl) (HLW.out.below HWV.out).sees (.inl rfl))
            go_wp2_with fail
            refine HKe.out.mono ?_
            rintro e w3 ⟨⟨vk, rfl, hok⟩, b3⟩
            obtain ⟨oK, cK, rfl, hLK, lK⟩ := labs_own (C := B) hok
            obtain ⟨nK, hnK⟩ : ∃ nK, (keyR 0 [] xl).length = nK := ⟨_, rfl⟩
            rw [hnK]
            have HO3 := Lib.hid ((HO.out.below frow HWV.out).below frow b3)
            have HLK := Lib.hid hLK
            have HB3 := Lib.hid ((HB.out.trans (HWV.out.mono HB.out.size)).trans (b3.mono (Nat.le_trans HB.out.size HWV.out.size)))
            have hz3 := HB3.out.size
            clear hok hLK b3 HKe
            go_wp2_with (at_builtin; go_must (refine wpList_append_own _ rfl _ _ 22 rfl w.heap.size 53 i0 (.agg #[.slice none 0 0, .int .i64 0]) 2 32 Tryz.underlying22 hi hz0 hz1 hz2 rfl (by decide) _ _ _ rfl (HO3.out.own.alloc _) ⟨w3.heap.size, 0, none⟩ 1 1 [.slice oK nK cK, .int .i64 d1] rfl rfl (cells_k _ _ _) (by intro v hv; simp at hv; rcases hv with rfl | rfl <;> rfl) (by unfold maxLen; omega) (by omega) (by simp; omega) ?_); intro vA wA hoA hgA hnA)
            have hal : Below w3.heap.size w3 (w3.alloc (Obj.cells #[.slice oK nK cK, .int .i64 d1] 53)) := (Below.refl _ _).alloc (Nat.le_refl _) _
            have HAp := Lib.hid (show OwnG (ERow B) 2 53 wA w.heap.size vA (us ++ [[.slice oK nK cK, .int .i64 d1]]) (acc ++ [(keyR 0 [] xl, d1)]) from
              (HO3.out.below frow hal).snoc frow HWB.out ⟨oK, cK, by rw [hnK], HLK.out.below hal, lK⟩ hoA hgA)
            have HBA := Lib.hid (Below.grown (HB3.out.trans (hal.mono hz3)) hgA (by simp; omega) (fun g hg => (HLT.out g hg).1))
            clear hoA hgA hal hnA hz3 hnK
            go_roundw
            case rel => exact ⟨k + 1, _, _, by go_num, by omega, by simp; omega, HAp.out, H2, HBA⟩
            case measure => simp [Go.RowKit.intOf]; omega
          | true =>
            by_cases hd1 : d1 = 1
            · subst hd1
              have H2 := Lib.hid (show reckA op (acc ++ [(xl, xv)]) ((xs.drop (k + 1)).map (pairS v false)) = reckA op [] (xs.map (pairS v false)) by
                rw [← H.out, HX.out, List.map_cons, reckA_keep HDD.out HG.out]; rfl)
              go_wp2_with fail
              refine (HDo.out _).mono ?_
              rintro e w2 ⟨rfl, rfl⟩
              go_wp2_with fail
              refine (HCp.out _).mono ?_
              rintro e w2 ⟨rfl, rfl⟩
              have HO3 := Lib.hid (HO.out.below frow HWV.out)
              have HB3 := Lib.hid (HB.out.trans (HWV.out.mono HB.out.size))
              have hz3 := HB3.out.size
              go_wp2_with (at_builtin; go_must (refine wpList_append_own _ rfl _ _ 22 rfl w.heap.size 53 i0 (.agg #[.slice none 0 0, .int .i64 0]) 2 32 Tryz.underlying22 hi hz0 hz1 hz2 rfl (by decide) _ _ _ rfl (HO3.out.own.alloc _) ⟨wr.heap.size, 0, none⟩ 1 1 [.slice oL nL cL, .int .i64 xv] rfl rfl (cells_k _ _ _) (by intro v hv; simp at hv; rcases hv with rfl | rfl <;> rfl) (by unfold maxLen; omega) (by omega) (by simp; omega) ?_); intro vA wA hoA hgA hnA)
              have hal : Below wr.heap.size wr (wr.alloc (Obj.cells #[.slice oL nL cL, .int .i64 xv] 53)) := (Below.refl _ _).alloc (Nat.le_refl _) _
              have HAp := Lib.hid (show OwnG (ERow B) 2 53 wA w.heap.size vA (us ++ [[.slice oL nL cL, .int .i64 xv]]) (acc ++ [(xl, xv)]) from
                (HO3.out.below frow hal).snoc frow HWB.out ⟨oL, cL, by rw [HnL.out], (HLW.out.below HWV.out).below hal, HlL.out⟩ hoA hgA)
              have HBA := Lib.hid (Below.grown (HB3.out.trans (hal.mono hz3)) hgA (by simp; omega) (fun g hg => (HLT.out g hg).1))
              clear hoA hgA hal hnA hz3
              go_roundw
              case rel => exact ⟨k + 1, _, _, by go_num, by omega, by simp; omega, HAp.out, H2, HBA⟩
              case measure => simp [Go.RowKit.intOf]; omega
            · have t1 : (d1 == 1) = false := by rw [beq_eq_false_iff_ne]; exact hd1
              have H2 := Lib.hid (show reckA op acc ((xs.drop (k + 1)).map (pairS v false)) = reckA op [] (xs.map (pairS v false)) by
                rw [← H.out, HX.out, List.map_cons, reckA_pass HDD.out hd1 HG.out])
              clear hd1
              go_wp2_with fail
              refine (HDo.out _).mono ?_
              rintro e w2 ⟨rfl, rfl⟩
              go_wp2_with fail
              refine (HCp.out _).mono ?_
              rintro e w2 ⟨rfl, rfl⟩
              go_wp2
              go_roundw
              case rel => exact ⟨k + 1, _, _, by go_num, by omega, by omega, HO.out.below frow HWV.out, H2, Lib.hid (HB.out.trans (HWV.out.mono HB.out.size))⟩
              case measure => simp [Go.RowKit.intOf]; omega
        · have t1 : (d2 != 0) = true := by rw [bne_iff_ne]; exact hd2
          have H2 := Lib.hid (show reckA op [] (xs.map (pairS v false)) = ([], d2) by
            rw [← H.out, HX.out, List.map_cons, reckA_stop HDD.out hd2])
          clear hd2
          go_wp2_with fail
          refine (HDo.out _).mono ?_
          rintro e w2 ⟨rfl, rfl⟩
          go_wp2
          go_ret2
          refine ⟨⟨.slice none 0 0, ?_, [], ?_⟩, HB.out.trans (HWV.out.mono HB.out.size)⟩
          · rw [HA.out, H2.out]; rfl
          · rw [HA.out, H2.out]; exact OwnG.nil _ _
      · have j1 : ¬ (k : Int) < n := by omega
        have HE := Lib.hid (show orderR acc = reckA op [] (xs.map (pairS v false)) by
          rw [← H.out, List.drop_eq_nil_of_le (by rw [HN.out]; omega)]; rfl)
        have hl := hown.len
        obtain ⟨oR, cR, rfl, hsR, _⟩ := hown.sees (frow (B := B))
        have HI := Lib.hid (rorder_any oR acc.length cR acc wr B (Nat.le_trans HWB.out HB.out.size) rfl (by omega) hsR)
        rw [HE.out] at HI
        have hBx := HB.out.size
        clear hown hl hsR
        go_wp2_with fail
        refine HI.out.mono ?_
        rintro e w2 ⟨ho, b2⟩
        have HOu := Lib.hid (ho.low hBx)
        have HB2 := Lib.hid (HB.out.trans (b2.mono hBx))
        obtain ⟨v2, rfl, _⟩ := ho
        clear b2
        go_wp2
        go_ret2
        exact ⟨by rw [HA.out]; exact HOu.out, HB2.out⟩
  | true =>
    go_enter Tryz.func18, Tryz.ntmps18
    go_wp2_with fail
    refine HRt.out.mono ?_
    rintro e w1 ⟨rfl, b1⟩
    have HB1 := Lib.hid b1
    clear b1
    go_wp2_with fail
    refine (HOp.out _).mono ?_
    rintro e w2 ⟨rfl, rfl⟩
    go_wp2_with fail
    refine (HVa.out _).mono ?_
    rintro e w2 ⟨rfl, rfl⟩
    clear HRt HOp HVa
    go_wp2
    go_loopw [10, 11] (fun v10 v11 wr => ∃ (k : Nat) (us : List (List Value)) (acc : List Rw), v11 = .int .i64 k ∧ k ≤ n ∧ us.length ≤ k ∧ OwnG (ERow B) 2 53 wr w.heap.size v10 us acc ∧ Hid (reckA op acc ((xs.drop k).map (pairS v true)) = reckA op [] (xs.map (pairS v true))) ∧ Hid (Below w.heap.size w wr)) (fun _ v11 _ => n - (Go.RowKit.intOf v11).toNat)
    case atStart => exact ⟨0, [], [], rfl, Nat.zero_le _, Nat.zero_le _, OwnG.nil _ _, rfl, HB1⟩
    case round =>
      obtain ⟨k, us, acc, rfl, hk, hus, hown, H, HB⟩ := hrel
      by_cases hkn : k < n
      · have j1 : (k : Int) < n := by omega
        obtain ⟨x, hx⟩ := get_ltG HN.out hkn
        have HX := Lib.hid (drop_atG hx)
        have Hsl := Lib.hid (HL.out x (List.mem_of_getElem? hx))
        obtain ⟨b, off, rfl, hR⟩ := (HS.out.below frow HB.out).at hx
        obtain ⟨oL, cL, c0, c1, hL, lL⟩ := row_at hR hx
        obtain ⟨xl, xv⟩ := x
        simp only at c0 c1 hL lL
        obtain ⟨nL, hnL⟩ : ∃ nL, xl.length = nL := ⟨_, rfl⟩
        rw [hnL] at c0
        have HnL := Lib.hid hnL
        have HlL := Lib.hid lL
        have HO := Lib.hid hown
        have HLT := Lib.hid (fun g hg => hown.own.lt g hg)
        obtain ⟨d1, hd1'⟩ : ∃ d1, (Fix.doF op v xv).1 = d1 := ⟨_, rfl⟩
        obtain ⟨d2, hd2'⟩ : ∃ d2, (Fix.doF op v xv).2 = d2 := ⟨_, rfl⟩
        have HDo := Lib.hid (HD.out v xv)
        have HDD := Lib.hid (show Fix.doF op v xv = (d1, d2) from by rw [← hd1', ← hd2'])
        rw [HDD.out] at HDo
        have HLW := Lib.hid hL
        have HC := Lib.hid (fun (W : World) (h : Below wr.heap.size wr W) => (show W.cell? ⟨b, off + k * 2, none⟩ = some (.slice oL nL cL) ∧ W.cell? ⟨b, off + k * 2 + 1, none⟩ = some (.int .i64 xv) from by
          have hb9 := World.block_lt_of_cell? _ _ c0
          exact ⟨(h.cell (p := ⟨b, off + k * 2, none⟩) hb9).trans c0, (h.cell (p := ⟨b, off + k * 2 + 1, none⟩) hb9).trans c1⟩))
        clear hR hx hL lL hnL hown hd1' hd2'
        go_wp2_with fail
        go_quiet (fail)
        obtain ⟨wv, hwv⟩ : ∃ wv, wr.drewN nq = wv := ⟨_, rfl⟩
        have HWV := Lib.hid (show Below wr.heap.size wr wv from by rw [← hwv]; exact quietB ⟨nq, rfl⟩)
        rw [hwv]
        obtain ⟨c0, c1⟩ := HC.out wv HWV.out
        clear hwv
        by_cases hd2 : d2 = 0
        · subst hd2
          cases g with
          | false =>
            have H2 := Lib.hid (show reckA op (acc ++ [(keyR 0 [] xl, d1)]) ((xs.drop (k + 1)).map (pairS v true)) = reckA op [] (xs.map (pairS v true)) by
              rw [← H.out, HX.out, List.map_cons, reckA_row HDD.out HG.out]; rfl)
            go_wp2_with fail
            refine (HDo.out _).mono ?_
            rintro e w2 ⟨rfl, rfl⟩
            go_wp2_with fail
            refine (HCp.out _).mono ?_
            rintro e w2 ⟨rfl, rfl⟩
            have HKe := Lib.hid (rkey_any 0 none oL 0 0 nL cL [] xl wv rfl HnL.out (by omega) (by have := Hsl.out.len; have := HnL.out; omega) (fun _ => rfl) (HLW.out.below HWV.out).sees (.inl rfl))
            go_wp2_with fail
            refine HKe.out.mono ?_
            rintro e w3 ⟨⟨vk, rfl, hok⟩, b3⟩
            obtain ⟨oK, cK, rfl, hLK, lK⟩ := labs_own (C := B) hok
            obtain ⟨nK, hnK⟩ : ∃ nK, (keyR 0 [] xl).length = nK := ⟨_, rfl⟩
            rw [hnK]
            have HO3 := Lib.hid ((HO.out.below frow HWV.out).below frow b3)
            have HLK := Lib.hid hLK
            have HB3 := Lib.hid ((HB.out.trans (HWV.out.mono HB.out.size)).trans (b3.mono (Nat.le_trans HB.out.size HWV.out.size)))
            have hz3 := HB3.out.size
            clear hok hLK b3 HKe
            go_wp2_with (at_builtin; go_must (refine wpList_append_own _ rfl _ _ 22 rfl w.heap.size 53 i0 (.agg #[.slice none 0 0, .int .i64 0]) 2 32 Tryz.underlying22 hi hz0 hz1 hz2 rfl (by decide) _ _ _ rfl (HO3.out.own.alloc _) ⟨w3.heap.size, 0, none⟩ 1 1 [.slice oK nK cK, .int .i64 d1] rfl rfl (cells_k _ _ _) (by intro v hv; simp at hv; rcases hv with rfl | rfl <;> rfl) (by unfold maxLen; omega) (by omega) (by simp; omega) ?_); intro vA wA hoA hgA hnA)
            have hal : Below w3.heap.size w3 (w3.alloc (Obj.cells #[.slice oK nK cK, .int .i64 d1] 53)) := (Below.refl _ _).alloc (Nat.le_refl _) _
            have HAp := Lib.hid (show OwnG (ERow B) 2 53 wA w.heap.size vA (us ++ [[.slice oK nK cK, .int .i64 d1]]) (acc ++ [(keyR 0 [] xl, d1)]) from
              (HO3.out.below frow hal).snoc frow HWB.out ⟨oK, cK, by rw [hnK], HLK.out.below hal, lK⟩ hoA hgA)
            have HBA := Lib.hid (Below.grown (HB3.out.trans (hal.mono hz3)) hgA (by simp; omega) (fun g hg => (HLT.out g hg).1))
            clear hoA hgA hal hnA hz3 hnK
            go_roundw
            case rel => exact ⟨k + 1, _, _, by go_num, by omega, by simp; omega, HAp.out, H2, HBA⟩
            case measure => simp [Go.RowKit.intOf]; omega
          | true =>
            by_cases hd1 : d1 = 1
            · subst hd1
              have H2 := Lib.hid (show reckA op (acc ++ [(xl, xv)]) ((xs.drop (k + 1)).map (pairS v true)) = reckA op [] (xs.map (pairS v true)) by
                rw [← H.out, HX.out, List.map_cons, reckA_keep HDD.out HG.out]; rfl)
              go_wp2_with fail
              refine (HDo.out _).mono ?_
              rintro e w2 ⟨rfl, rfl⟩
              go_wp2_with fail
              refine (HCp.out _).mono ?_
              rintro e w2 ⟨rfl, rfl⟩
              have HO3 := Lib.hid (HO.out.below frow HWV.out)
              have HB3 := Lib.hid (HB.out.trans (HWV.out.mono HB.out.size))
              have hz3 := HB3.out.size
              go_wp2_with (at_builtin; go_must (refine wpList_append_own _ rfl _ _ 22 rfl w.heap.size 53 i0 (.agg #[.slice none 0 0, .int .i64 0]) 2 32 Tryz.underlying22 hi hz0 hz1 hz2 rfl (by decide) _ _ _ rfl (HO3.out.own.alloc _) ⟨wv.heap.size, 0, none⟩ 1 1 [.slice oL nL cL, .int .i64 xv] rfl rfl (cells_k _ _ _) (by intro v hv; simp at hv; rcases hv with rfl | rfl <;> rfl) (by unfold maxLen; omega) (by omega) (by simp; omega) ?_); intro vA wA hoA hgA hnA)
              have hal : Below wv.heap.size wv (wv.alloc (Obj.cells #[.slice oL nL cL, .int .i64 xv] 53)) := (Below.refl _ _).alloc (Nat.le_refl _) _
              have HAp := Lib.hid (show OwnG (ERow B) 2 53 wA w.heap.size vA (us ++ [[.slice oL nL cL, .int .i64 xv]]) (acc ++ [(xl, xv)]) from
                (HO3.out.below frow hal).snoc frow HWB.out ⟨oL, cL, by rw [HnL.out], (HLW.out.below HWV.out).below hal, HlL.out⟩ hoA hgA)
              have HBA := Lib.hid (Below.grown (HB3.out.trans (hal.mono hz3)) hgA (by simp; omega) (fun g hg => (HLT.out g hg).1))
              clear hoA hgA hal hnA hz3
              go_roundw
              case rel => exact ⟨k + 1, _, _, by go_num, by omega, by simp; omega, HAp.out, H2, HBA⟩
              case measure => simp [Go.RowKit.intOf]; omega
            · have t1 : (d1 == 1) = false := by rw [beq_eq_false_iff_ne]; exact hd1
              have H2 := Lib.hid (show reckA op acc ((xs.drop (k + 1)).map (pairS v true)) = reckA op [] (xs.map (pairS v true)) by
                rw [← H.out, HX.out, List.map_cons, reckA_pass HDD.out hd1 HG.out])
              clear hd1
              go_wp2_with fail
              refine (HDo.out _).mono ?_
              rintro e w2 ⟨rfl, rfl⟩
              go_wp2_with fail
              refine (HCp.out _).mono ?_
              rintro e w2 ⟨rfl, rfl⟩
              go_wp2
              go_roundw
              case rel => exact ⟨k + 1, _, _, by go_num, by omega, by omega, HO.out.below frow HWV.out, H2, Lib.hid (HB.out.trans (HWV.out.mono HB.out.size))⟩
              case measure => simp [Go.RowKit.intOf]; omega
        · have t1 : (d2 != 0) = true := by rw [bne_iff_ne]; exact hd2
          have H2 := Lib.hid (show reckA op [] (xs.map (pairS v true)) = ([], d2) by
            rw [← H.out, HX.out, List.map_cons, reckA_stop HDD.out hd2])
          clear hd2
          go_wp2_with fail
          refine (HDo.out _).mono ?_
          rintro e w2 ⟨rfl, rfl⟩
          go_wp2
          go_ret2
          refine ⟨⟨.slice none 0 0, ?_, [], ?_⟩, HB.out.trans (HWV.out.mono HB.out.size)⟩
          · rw [HA.out, H2.out]; rfl
          · rw [HA.out, H2.out]; exact OwnG.nil _ _
      · have j1 : ¬ (k : Int) < n := by omega
        have HE := Lib.hid (show orderR acc = reckA op [] (xs.map (pairS v true)) by
          rw [← H.out, List.drop_eq_nil_of_le (by rw [HN.out]; omega)]; rfl)
        have hl := hown.len
        obtain ⟨oR, cR, rfl, hsR, _⟩ := hown.sees (frow (B := B))
        have HI := Lib.hid (rorder_any oR acc.length cR acc wr B (Nat.le_trans HWB.out HB.out.size) rfl (by omega) hsR)
        rw [HE.out] at HI
        have hBx := HB.out.size
        clear hown hl hsR
        go_wp2_with fail
        refine HI.out.mono ?_
        rintro e w2 ⟨ho, b2⟩
        have HOu := Lib.hid (ho.low hBx)
        have HB2 := Lib.hid (HB.out.trans (b2.mono hBx))
        obtain ⟨v2, rfl, _⟩ := ho
        clear b2
        go_wp2
        go_ret2
        exact ⟨by rw [HA.out]; exact HOu.out, HB2.out⟩
end Go.Proofs.YtbdnonphkobkoaaGreat.Vec
