/- Vectors: the document's own reckoning of two vectors. -/
import Derived.Test.YtbdnonphkobkoaaGreatVdc
namespace Go.Proofs.YtbdnonphkobkoaaGreat.Vec
open Go.RowKit Go.Lib

theorem keyed_step {mode : Int} {ns : List ByteArray} {a : List Rw} {k : Nat} {x : Rw} (h : a[k]? = some x) : keyed0 ((keysR mode ns a).take (k + 1)) = keyed0 ((keysR mode ns a).take k) ++ [(keyR mode ns x.1, 0)] := by
  have h' : (keysR mode ns a)[k]? = some (keyR mode ns x.1) := by unfold keysR; rw [List.getElem?_map, h]; rfl
  unfold keyed0
  rw [take_atG h', List.map_append]; rfl
theorem keyed_at {mode : Int} {ns : List ByteArray} {a : List Rw} {k : Nat} {x : Rw} (h : a[k]? = some x) : (keyed0 (keysR mode ns a))[k]? = some (keyR mode ns x.1, 0) := by
  unfold keyed0 keysR
  rw [List.getElem?_map, List.getElem?_map, h]; rfl
theorem keyed_len (mode : Int) (ns : List ByteArray) (a : List Rw) : (keyed0 (keysR mode ns a)).length = a.length := by
  unfold keyed0 keysR
  rw [List.length_map, List.length_map]
theorem inD_skip {op : ByteArray} {mode : Int} {ns : List ByteArray} {x y : Rw} {r acc : List Rw} (h : ¬ cmpL (keyR mode ns x.1) (keyR mode ns y.1) = 0) : inD op mode ns x (y :: r) acc = inD op mode ns x r acc := by
  rw [inD, if_neg h]
theorem inD_bad {op : ByteArray} {mode : Int} {ns : List ByteArray} {x y : Rw} {r acc : List Rw} {d1 d2 : Int} (h : cmpL (keyR mode ns x.1) (keyR mode ns y.1) = 0) (hd : Fix.doF op x.2 y.2 = (d1, d2)) (h2 : ¬ d2 = 0) : inD op mode ns x (y :: r) acc = ([], d2) := by
  rw [inD, if_pos h, hd, if_neg h2]
theorem inD_row {op : ByteArray} {mode : Int} {ns : List ByteArray} {x y : Rw} {r acc : List Rw} {d1 : Int} (h : cmpL (keyR mode ns x.1) (keyR mode ns y.1) = 0) (hd : Fix.doF op x.2 y.2 = (d1, 0)) (hc : Fix.comparesF op = false) : inD op mode ns x (y :: r) acc = inD op mode ns x r (acc ++ [(keyR mode ns x.1, d1)]) := by
  rw [inD, if_pos h, hd, if_pos rfl]
  unfold putP
  rw [hc, hd]; rfl
theorem inD_keep {op : ByteArray} {mode : Int} {ns : List ByteArray} {x y : Rw} {r acc : List Rw} (h : cmpL (keyR mode ns x.1) (keyR mode ns y.1) = 0) (hd : Fix.doF op x.2 y.2 = (1, 0)) (hc : Fix.comparesF op = true) : inD op mode ns x (y :: r) acc = inD op mode ns x r (acc ++ [x]) := by
  rw [inD, if_pos h, hd, if_pos rfl]
  unfold putP
  rw [hc, hd]; rfl
theorem inD_pass {op : ByteArray} {mode : Int} {ns : List ByteArray} {x y : Rw} {r acc : List Rw} {d1 : Int} (h : cmpL (keyR mode ns x.1) (keyR mode ns y.1) = 0) (hd : Fix.doF op x.2 y.2 = (d1, 0)) (h1 : ¬ d1 = 1) (hc : Fix.comparesF op = true) : inD op mode ns x (y :: r) acc = inD op mode ns x r acc := by
  rw [inD, if_pos h, hd, if_pos rfl]
  unfold putP
  rw [hc, hd, if_pos rfl, if_neg h1]
theorem mD_err {op : ByteArray} {mode : Int} {ns : List ByteArray} {x : Rw} {b r acc : List Rw} {d : Int} (h : inD op mode ns x b acc = ([], d)) (hd : ¬ d = 0) : mD op mode ns b (x :: r) acc = ([], d) := by
  rw [mD, h, if_neg hd]
theorem mD_on {op : ByteArray} {mode : Int} {ns : List ByteArray} {x : Rw} {b r acc acc2 : List Rw} (h : inD op mode ns x b acc = (acc2, 0)) : mD op mode ns b (x :: r) acc = mD op mode ns b r acc2 := by
  rw [mD, h, if_pos rfl]
theorem quiet_do (op : ByteArray) (a b : Int) {d1 d2 : Int} (h : Fix.doF op a b = (d1, d2)) (W : World) : Calls Tryz.prog 49 #[.string op, .int .i64 a, .int .i64 b] W fun e w' => e = .returned (.tuple #[.int .i64 d1, .int .i64 d2]) ∧ w' = W :=
  (Fix.rdo_any op a b W).mono fun e w' ⟨h1, h2⟩ => ⟨by rw [h1, h], h2.symm⟩

set_option maxHeartbeats 32000000 in
set_option maxRecDepth 100000 in
theorem rmatch_any (op : ByteArray) (oa ob on : Option Addr) (na ca nb cb nn cn : Nat) (a b : List Rw) (mode : Int) (ns : List ByteArray) (w : World) (B : Nat) (hB : B ≤ w.heap.size) (hna : a.length = na) (hnb : b.length = nb) (hnn : ns.length = nn) (hma : na ≤ 100) (hmb : nb ≤ 100) (hmn : nn ≤ 100000) (hcn : on = none → cn = 0) (hla : SmR a) (hlb : SmR b) (hSa : RowsS w B oa a) (hSb : RowsS w B ob b) (hN : SeesN w on ns) :
    Calls Tryz.prog 19 #[.string op, .slice oa na ca, .slice ob nb cb, .int .i64 mode, .slice on nn cn] w fun e w' => OutB B w.heap.size (matchR op a b mode ns) e w' ∧ Below w.heap.size w w' := by
  obtain ⟨i0, hi, hz0, hz1, hz2⟩ := info_parts infoRow
  have HRa := Lib.hid (rrightR_any oa na ca a w B hB hna (by unfold maxLen; omega) hla hSa)
  have HRb := Lib.hid (fun W (hb : Below w.heap.size w W) => rrightR_any ob nb cb b W B (Nat.le_trans hB hb.size) hnb (by unfold maxLen; omega) hlb (hSb.below frow hb))
  have HOp := Lib.hid (fun W => rop_any op W)
  have HCp := Lib.hid (fun W => Fix.rcomp_any op W)
  have HSa := Lib.hid hSa
  have HSb := Lib.hid hSb
  have HNA := Lib.hid hna
  have HNB := Lib.hid hnb
  have HLa := Lib.hid hla
  have HLb := Lib.hid hlb
  have HWB := Lib.hid hB
  have HKy := Lib.hid (fun (W : World) (hb : Below w.heap.size w W) (l : Labs) (nl : Nat) (oL : Option Addr) (cL : Nat) (h1 : l.length = nl) (h2 : SmL l) (h3 : Go.Proofs.YtbdnonphkobkoaaGreat.SeesO W oL l) => rkey_any mode on oL nn cn nl cL ns l W hnn h1 hmn (by have := h2.len; omega) hcn h3 (hN.below hb))
  cases hra : rightR a with
  | false =>
    have HA := Lib.hid (show matchR op a b mode ns = ([], 1) from by unfold matchR; rw [hra, Bool.and_false, Bool.false_and, if_neg (by decide)])
    rw [hra] at HRa
    clear hra hSa hSb hN hna hnb hnn hla hlb HCp HOp HRb HKy
    go_enter Tryz.func19, Tryz.ntmps19
    go_wp2_with fail
    refine HRa.out.mono ?_
    rintro e w1 ⟨rfl, b1⟩
    have HB1 := Lib.hid b1
    clear b1
    go_wp2
    go_ret2
    refine ⟨⟨.slice none 0 0, ?_, [], ?_⟩, HB1.out⟩
    · rw [HA.out]; rfl
    · rw [HA.out]; exact OwnG.nil _ _
  | true =>
  rw [hra] at HRa
  cases hrb : rightR b with
  | false =>
    have HA := Lib.hid (show matchR op a b mode ns = ([], 1) from by unfold matchR; rw [hrb, Bool.and_false, if_neg (by decide)])
    rw [hrb] at HRb
    clear hra hrb hSa hSb hN hna hnb hnn hla hlb HCp HOp HKy
    go_enter Tryz.func19, Tryz.ntmps19
    go_wp2_with fail
    refine HRa.out.mono ?_
    rintro e w1 ⟨rfl, b1⟩
    have HB1 := Lib.hid b1
    clear b1
    go_wp2_with fail
    refine (HRb.out _ HB1.out).mono ?_
    rintro e w2 ⟨rfl, b2⟩
    have HB2 := Lib.hid (HB1.out.trans (b2.mono HB1.out.size))
    clear b2
    go_wp2
    go_ret2
    refine ⟨⟨.slice none 0 0, ?_, [], ?_⟩, HB2.out⟩
    · rw [HA.out]; rfl
    · rw [HA.out]; exact OwnG.nil _ _
  | true =>
  rw [hrb] at HRb
  cases ho : isOpB op with
  | false =>
    have HA := Lib.hid (show matchR op a b mode ns = ([], 1) from by unfold matchR; rw [ho, Bool.false_and, Bool.false_and, if_neg (by decide)])
    rw [ho] at HOp
    clear hra hrb ho hSa hSb hN hna hnb hnn hla hlb HCp HKy
    go_enter Tryz.func19, Tryz.ntmps19
    go_wp2_with fail
    refine HRa.out.mono ?_
    rintro e w1 ⟨rfl, b1⟩
    have HB1 := Lib.hid b1
    clear b1
    go_wp2_with fail
    refine (HRb.out _ HB1.out).mono ?_
    rintro e w2 ⟨rfl, b2⟩
    have HB2 := Lib.hid (HB1.out.trans (b2.mono HB1.out.size))
    clear b2
    go_wp2_with fail
    refine (HOp.out _).mono ?_
    rintro e w3 ⟨rfl, rfl⟩
    go_wp2
    go_ret2
    refine ⟨⟨.slice none 0 0, ?_, [], ?_⟩, HB2.out⟩
    · rw [HA.out]; rfl
    · rw [HA.out]; exact OwnG.nil _ _
  | true =>
  rw [ho] at HOp
  have HA := Lib.hid (show matchR op a b mode ns = if onceB (keysR mode ns a) && onceB (keysR mode ns b) then reckA op [] (a.filterMap (pairM mode ns b)) else ([], 6) from by unfold matchR; rw [hra, hrb, ho]; rfl)
  have HKA := Lib.hid (show (keyed0 (keysR mode ns a)).length = na from by rw [keyed_len, hna])
  have HKB := Lib.hid (show (keyed0 (keysR mode ns b)).length = nb from by rw [keyed_len, hnb])
  have HKLa := Lib.hid (show (keysR mode ns a).length = na from by unfold keysR; rw [List.length_map, hna])
  have HKLb := Lib.hid (show (keysR mode ns b).length = nb from by unfold keysR; rw [List.length_map, hnb])
  have HOa := Lib.hid (keys_order (keysR mode ns a))
  have HOb := Lib.hid (keys_order (keysR mode ns b))
  have HMD := Lib.hid (fun (h : onceB (keysR mode ns b) = true) => mD_eq op (mode := mode) (ns := ns) (b := b) ((once_iff _).1 h) a [])
  obtain ⟨g, hg⟩ : ∃ g, Fix.comparesF op = g := ⟨_, rfl⟩
  have HG := Lib.hid hg
  rw [hg] at HCp
  clear hra hrb ho hSa hSb hN hna hnb hnn hla hlb hg
  go_enter Tryz.func19, Tryz.ntmps19
  go_wp2_with fail
  refine HRa.out.mono ?_
  rintro e w1 ⟨rfl, b1⟩
  have HB1 := Lib.hid b1
  clear b1
  go_wp2_with fail
  refine (HRb.out _ HB1.out).mono ?_
  rintro e w2 ⟨rfl, b2⟩
  have HB2 := Lib.hid (HB1.out.trans (b2.mono HB1.out.size))
  clear b2
  go_wp2_with fail
  refine (HOp.out _).mono ?_
  rintro e w3 ⟨rfl, rfl⟩
  clear HRa HRb HOp HB1
  go_wp2
  go_loopw [12, 14] (fun v12 v14 wr => ∃ (k : Nat) (us : List (List Value)), v14 = .int .i64 k ∧ k ≤ na ∧ us.length = k ∧ OwnG (ERow 0) 2 53 wr w.heap.size v12 us (keyed0 ((keysR mode ns a).take k)) ∧ Hid (Below w.heap.size w wr)) (fun _ v14 _ => na - (Go.RowKit.intOf v14).toNat)
  case atStart => exact ⟨0, [], rfl, Nat.zero_le _, rfl, OwnG.nil _ _, HB2⟩
  case round =>
    clear HB2
    obtain ⟨k, us, rfl, hk, hus, hown, HB⟩ := hrel
    have HBw := HB
    by_cases hkn : k < na
    · have j1 : (k : Int) < na := by omega
      obtain ⟨x, hx⟩ := get_ltG HNA.out hkn
      have HX2 := Lib.hid (keyed_step (mode := mode) (ns := ns) hx)
      have Hsl := Lib.hid (HLa.out x (List.mem_of_getElem? hx))
      obtain ⟨b0, off, rfl, hR⟩ := (HSa.out.below frow HBw.out).at hx
      obtain ⟨oL, cL, c0, _, hL, lL⟩ := row_at hR hx
      obtain ⟨nL, hnL⟩ : ∃ nL, x.1.length = nL := ⟨_, rfl⟩
      rw [hnL] at c0
      have HKe := Lib.hid (HKy.out wr HBw.out x.1 nL oL cL hnL Hsl.out hL.sees)
      have HO := Lib.hid hown
      have HLT := Lib.hid (fun g hg => hown.own.lt g hg)
      obtain ⟨key, hkey⟩ : ∃ key, keyR mode ns x.1 = key := ⟨_, rfl⟩
      rw [hkey] at HKe HX2
      clear hR hx hL lL hnL hown hkey
      go_wp2_with fail
      refine HKe.out.mono ?_
      rintro e w4 ⟨⟨vk, rfl, hok⟩, b4⟩
      obtain ⟨oK, cK, rfl, hLK, lK⟩ := labs_own (C := 0) hok
      obtain ⟨nK, hnK⟩ : ∃ nK, key.length = nK := ⟨_, rfl⟩
      rw [hnK]
      have HO3 := Lib.hid (HO.out.below frow b4)
      have HLK := Lib.hid hLK
      have HB3 := Lib.hid (HB.out.trans (b4.mono HB.out.size))
      have hz3 := HB3.out.size
      have hown4 := HO3.out.own.alloc (Obj.cells #[.slice oK nK cK, .int .i64 0] 53)
      rw [hus] at hown4
      clear hok hLK b4 HKe
      go_wp2_with (at_builtin; go_must (refine wpList_append_own _ rfl _ _ 22 rfl w.heap.size 53 i0 (.agg #[.slice none 0 0, .int .i64 0]) 2 32 Tryz.underlying22 hi hz0 hz1 hz2 rfl (by decide) _ _ _ rfl hown4 ⟨w4.heap.size, 0, none⟩ 1 1 [.slice oK nK cK, .int .i64 0] rfl rfl (cells_k _ _ _) (by intro v hv; simp at hv; rcases hv with rfl | rfl <;> rfl) (by unfold maxLen; omega) (by omega) (by simp; omega) ?_); intro vA wA hoA hgA hnA)
      have hal : Below w4.heap.size w4 (w4.alloc (Obj.cells #[.slice oK nK cK, .int .i64 0] 53)) := (Below.refl _ _).alloc (Nat.le_refl _) _
      have HAp := Lib.hid (show OwnG (ERow 0) 2 53 wA w.heap.size vA (us ++ [[.slice oK nK cK, .int .i64 0]]) (keyed0 ((keysR mode ns a).take (k + 1))) from by
        rw [HX2.out]
        exact (HO3.out.below frow hal).snoc frow (Nat.zero_le _) ⟨oK, cK, by rw [hnK], HLK.out.below hal, lK⟩ (by rw [hus]; exact hoA) hgA)
      have HBA := Lib.hid (Below.grown (HB3.out.trans (hal.mono hz3)) hgA (by simp; omega) (fun g hg => (HLT.out g hg).1))
      clear hoA hgA hal hnA hz3 hnK hown4
      go_roundw
      case rel => exact ⟨k + 1, _, by go_num, by omega, by simp; omega, HAp.out, HBA⟩
      case measure => simp [Go.RowKit.intOf]; omega
    · have j1 : ¬ (k : Int) < na := by omega
      have hown2 := hown
      rw [List.take_of_length_le (by rw [HKLa.out]; omega)] at hown2
      obtain ⟨oX, cX, rfl, hsX, _⟩ := hown2.sees (frow (B := 0))
      rw [HKA.out]
      obtain ⟨wx, hwx⟩ : ∃ wx : World, wr = wx := ⟨wr, rfl⟩
      subst wr
      have HX := Lib.hid hsX
      have hzx := HB.out.size
      clear hown hown2 hsX HBw hkn hus
      go_wp2_with fail
      go_loopw [13, 15] (fun v13 v15 wr => ∃ (k : Nat) (us : List (List Value)), v15 = .int .i64 k ∧ k ≤ nb ∧ us.length = k ∧ OwnG (ERow 0) 2 53 wr wx.heap.size v13 us (keyed0 ((keysR mode ns b).take k)) ∧ Hid (Below wx.heap.size wx wr)) (fun _ v15 _ => nb - (Go.RowKit.intOf v15).toNat)
      case atStart => exact ⟨0, [], rfl, Nat.zero_le _, rfl, OwnG.nil _ _, Lib.hid (Below.refl _ _)⟩
      case round =>
        clear hk
        obtain ⟨k, us, rfl, hk, hus, hown, HBy⟩ := hrel
        have HBw := Lib.hid (HB.out.trans (HBy.out.mono hzx))
        by_cases hkn : k < nb
        · have j2 : (k : Int) < nb := by omega
          obtain ⟨x, hx⟩ := get_ltG HNB.out hkn
          have HX2 := Lib.hid (keyed_step (mode := mode) (ns := ns) hx)
          have Hsl := Lib.hid (HLb.out x (List.mem_of_getElem? hx))
          obtain ⟨b0, off, rfl, hR⟩ := (HSb.out.below frow HBw.out).at hx
          obtain ⟨oL, cL, c0, _, hL, lL⟩ := row_at hR hx
          obtain ⟨nL, hnL⟩ : ∃ nL, x.1.length = nL := ⟨_, rfl⟩
          rw [hnL] at c0
          have HKe := Lib.hid (HKy.out wr HBw.out x.1 nL oL cL hnL Hsl.out hL.sees)
          have HO := Lib.hid hown
          have HLT := Lib.hid (fun g hg => hown.own.lt g hg)
          obtain ⟨key, hkey⟩ : ∃ key, keyR mode ns x.1 = key := ⟨_, rfl⟩
          rw [hkey] at HKe HX2
          clear hR hx hL lL hnL hown hkey
          go_wp2_with fail
          refine HKe.out.mono ?_
          rintro e w4 ⟨⟨vk, rfl, hok⟩, b4⟩
          obtain ⟨oK, cK, rfl, hLK, lK⟩ := labs_own (C := 0) hok
          obtain ⟨nK, hnK⟩ : ∃ nK, key.length = nK := ⟨_, rfl⟩
          rw [hnK]
          have HO3 := Lib.hid (HO.out.below frow b4)
          have HLK := Lib.hid hLK
          have HB3 := Lib.hid (HBy.out.trans (b4.mono HBy.out.size))
          have hz3 := HB3.out.size
          have hown4 := HO3.out.own.alloc (Obj.cells #[.slice oK nK cK, .int .i64 0] 53)
          rw [hus] at hown4
          clear hok hLK b4 HKe
          go_wp2_with (at_builtin; go_must (refine wpList_append_own _ rfl _ _ 22 rfl wx.heap.size 53 i0 (.agg #[.slice none 0 0, .int .i64 0]) 2 32 Tryz.underlying22 hi hz0 hz1 hz2 rfl (by decide) _ _ _ rfl hown4 ⟨w4.heap.size, 0, none⟩ 1 1 [.slice oK nK cK, .int .i64 0] rfl rfl (cells_k _ _ _) (by intro v hv; simp at hv; rcases hv with rfl | rfl <;> rfl) (by unfold maxLen; omega) (by omega) (by simp; omega) ?_); intro vA wA hoA hgA hnA)
          have hal : Below w4.heap.size w4 (w4.alloc (Obj.cells #[.slice oK nK cK, .int .i64 0] 53)) := (Below.refl _ _).alloc (Nat.le_refl _) _
          have HAp := Lib.hid (show OwnG (ERow 0) 2 53 wA wx.heap.size vA (us ++ [[.slice oK nK cK, .int .i64 0]]) (keyed0 ((keysR mode ns b).take (k + 1))) from by
            rw [HX2.out]
            exact (HO3.out.below frow hal).snoc frow (Nat.zero_le _) ⟨oK, cK, by rw [hnK], HLK.out.below hal, lK⟩ (by rw [hus]; exact hoA) hgA)
          have HBA := Lib.hid (Below.grown (HB3.out.trans (hal.mono hz3)) hgA (by simp; omega) (fun g hg => (HLT.out g hg).1))
          clear hoA hgA hal hnA hz3 hnK hown4
          go_roundw
          case rel => exact ⟨k + 1, _, by go_num, by omega, by simp; omega, HAp.out, HBA⟩
          case measure => simp [Go.RowKit.intOf]; omega
        · have j2 : ¬ (k : Int) < nb := by omega
          have hown2 := hown
          rw [List.take_of_length_le (by rw [HKLb.out]; omega)] at hown2
          obtain ⟨oY, cY, rfl, hsY, _⟩ := hown2.sees (frow (B := 0))
          rw [HKB.out]
          obtain ⟨wy, hwy⟩ : ∃ wy : World, wr = wy := ⟨wr, rfl⟩
          subst wr
          have HOX := Lib.hid (rorder_any oX na cX (keyed0 (keysR mode ns a)) wy 0 (Nat.zero_le _) HKA.out (by omega) (HX.out.below frow HBy.out))
          have HOY := Lib.hid (fun W (hb : Below wy.heap.size wy W) => rorder_any oY nb cY (keyed0 (keysR mode ns b)) W 0 (Nat.zero_le _) HKB.out (by omega) (hsY.below frow hb))
          have HXy := Lib.hid (HX.out.below frow HBy.out)
          have HYy := Lib.hid hsY
          clear hown hown2 hsY hkn hus HBy HB HX HKy
          go_wp2_with fail
          refine HOX.out.mono ?_
          rintro e w4 ⟨⟨v4, rfl, _⟩, b4⟩
          have HB4 := Lib.hid b4
          have HY4 := Lib.hid (HOY.out w4 b4)
          clear b4 HOX HOY
          go_wp2_with fail
          refine HY4.out.mono ?_
          rintro e wz ⟨⟨v5, rfl, _⟩, b5⟩
          have HB5 := Lib.hid (HB4.out.trans (b5.mono HB4.out.size))
          have HBz := Lib.hid (HBw.out.trans (HB5.out.mono HBw.out.size))
          clear b5 HB4 HY4
          obtain ⟨ea, hea⟩ : ∃ ea, (orderR (keyed0 (keysR mode ns a))).2 = ea := ⟨_, rfl⟩
          obtain ⟨eb, heb⟩ : ∃ eb, (orderR (keyed0 (keysR mode ns b))).2 = eb := ⟨_, rfl⟩
          rw [hea, heb]
          rw [HOa.out] at hea
          rw [HOb.out] at heb
          cases ha1 : onceB (keysR mode ns a) with
          | false =>
            rw [ha1, if_neg (by decide)] at hea
            subst hea
            clear heb
            have HA2 := Lib.hid (show matchR op a b mode ns = ([], 6) from by rw [HA.out, ha1, Bool.false_and, if_neg (by decide)])
            clear ha1
            go_wp2
            go_ret2
            refine ⟨⟨.slice none 0 0, ?_, [], ?_⟩, HBz.out⟩
            · rw [HA2.out]; rfl
            · rw [HA2.out]; exact OwnG.nil _ _
          | true =>
          rw [ha1, if_pos rfl] at hea
          subst hea
          cases hb1 : onceB (keysR mode ns b) with
          | false =>
            rw [hb1, if_neg (by decide)] at heb
            subst heb
            have HA2 := Lib.hid (show matchR op a b mode ns = ([], 6) from by rw [HA.out, hb1, Bool.and_false, if_neg (by decide)])
            clear ha1 hb1
            go_wp2
            go_ret2
            refine ⟨⟨.slice none 0 0, ?_, [], ?_⟩, HBz.out⟩
            · rw [HA2.out]; rfl
            · rw [HA2.out]; exact OwnG.nil _ _
          | true =>
          rw [hb1, if_pos rfl] at heb
          subst heb
          have HF := Lib.hid (show mD op mode ns b a [] = matchR op a b mode ns from by rw [HA.out, ha1, hb1, HMD.out hb1]; rfl)
          have HXz := Lib.hid (HXy.out.below frow HB5.out)
          have HYz := Lib.hid (HYy.out.below frow HB5.out)
          have HSaz := Lib.hid (HSa.out.below frow HBz.out)
          have HSbz := Lib.hid (HSb.out.below frow HBz.out)
          have hzz := HBz.out.size
          have HBZ := Lib.hid (Nat.le_trans HWB.out hzz)
          clear ha1 hb1 HMD HXy HYy HB5 HBw HSa HSb HOa HOb HA hzx
          go_wp2
          go_loopw [20, 21] (fun v20 v21 wr => ∃ (i : Nat) (us : List (List Value)) (acc : List Rw), v21 = .int .i64 i ∧ i ≤ na ∧ us.length ≤ 100 * i ∧ OwnG (ERow B) 2 53 wr wz.heap.size v20 us acc ∧ Hid (mD op mode ns b (a.drop i) acc = matchR op a b mode ns) ∧ Hid (Below wz.heap.size wz wr)) (fun _ v21 _ => na - (Go.RowKit.intOf v21).toNat)
          case atStart => exact ⟨0, [], [], rfl, Nat.zero_le _, Nat.zero_le _, OwnG.nil _ _, HF, Lib.hid (Below.refl _ _)⟩
          case round =>
            clear HF
            obtain ⟨i, us, acc, rfl, hin, hus, hown, H, HB⟩ := hrel
            by_cases hia : i < na
            · have j1 : (i : Int) < na := by omega
              obtain ⟨x, hx⟩ := get_ltG HNA.out hia
              have HXD := Lib.hid (drop_atG hx)
              have HXA := Lib.hid hx
              have HXK := Lib.hid (keyed_at (mode := mode) (ns := ns) hx)
              have HO := Lib.hid hown
              obtain ⟨acc0, hacc0⟩ : ∃ acc0, acc = acc0 := ⟨_, rfl⟩
              rw [hacc0] at H
              have HIN := Lib.hid (show inD op mode ns x (b.drop 0) acc = inD op mode ns x b acc0 from by rw [hacc0]; rfl)
              clear hx hown hacc0
              go_wp2_with fail
              go_loopw [20, 22] (fun v20 v22 wr => ∃ (k : Nat) (us : List (List Value)) (acc : List Rw), v22 = .int .i64 k ∧ k ≤ nb ∧ us.length ≤ 100 * i + k ∧ OwnG (ERow B) 2 53 wr wz.heap.size v20 us acc ∧ Hid (inD op mode ns x (b.drop k) acc = inD op mode ns x b acc0) ∧ Hid (Below wz.heap.size wz wr)) (fun _ v22 _ => nb - (Go.RowKit.intOf v22).toNat)
              case atStart => exact ⟨0, us, acc, rfl, Nat.zero_le _, hus, HO.out, HIN, HB⟩
              case round =>
                clear HO HIN HB hus
                obtain ⟨k, us, acc, rfl, hk, hus, hown, HI, HB⟩ := hrel
                by_cases hkb : k < nb
                · have j2 : (k : Int) < nb := by omega
                  obtain ⟨y, hy⟩ := get_ltG HNB.out hkb
                  have HYD := Lib.hid (drop_atG hy)
                  have hyk := keyed_at (mode := mode) (ns := ns) hy
                  obtain ⟨bx, fx, rfl, hRx⟩ := (HXz.out.below frow HB.out).at HXK.out
                  obtain ⟨by1, fy, rfl, hRy⟩ := (HYz.out.below frow HB.out).at hyk
                  obtain ⟨ba, fa, rfl, hRa⟩ := (HSaz.out.below frow HB.out).at HXA.out
                  obtain ⟨bb, fb, rfl, hRb⟩ := (HSbz.out.below frow HB.out).at hy
                  obtain ⟨oKx, cKx, c0, _, hKx, lKx⟩ := row_at hRx HXK.out
                  obtain ⟨oKy, cKy, c1, _, hKy, lKy⟩ := row_at hRy hyk
                  obtain ⟨oLa, cLa, c2, c3, hLa, lLa⟩ := row_at hRa HXA.out
                  obtain ⟨_, _, _, c4, _, _⟩ := row_at hRb hy
                  simp only at c0 c1 hKx lKx hKy lKy
                  have HC := Lib.hid (fun (W : World) (h : Below wr.heap.size wr W) => (show W.cell? ⟨bx, fx + i * 2, none⟩ = some (.slice oKx (keyR mode ns x.1).length cKx) ∧ W.cell? ⟨by1, fy + k * 2, none⟩ = some (.slice oKy (keyR mode ns y.1).length cKy) ∧ W.cell? ⟨ba, fa + i * 2, none⟩ = some (.slice oLa x.1.length cLa) ∧ W.cell? ⟨ba, fa + i * 2 + 1, none⟩ = some (.int .i64 x.2) ∧ W.cell? ⟨bb, fb + k * 2 + 1, none⟩ = some (.int .i64 y.2) from
                    ⟨(h.cell (World.block_lt_of_cell? _ _ c0)).trans c0, (h.cell (World.block_lt_of_cell? _ _ c1)).trans c1, (h.cell (World.block_lt_of_cell? _ _ c2)).trans c2, (h.cell (World.block_lt_of_cell? _ _ c3)).trans c3, (h.cell (World.block_lt_of_cell? _ _ c4)).trans c4⟩))
                  have HCQ := Lib.hid (fun q => rcompare_quiet oKx oKy cKx cKy _ _ (wr.drewN q) lKx lKy (hKx.sees.below (quietB ⟨q, rfl⟩)) (hKy.sees.below (quietB ⟨q, rfl⟩)))
                  obtain ⟨cc, hcc⟩ : ∃ cc, cmpL (keyR mode ns x.1) (keyR mode ns y.1) = cc := ⟨_, rfl⟩
                  rw [hcc] at HCQ
                  have HCC := Lib.hid hcc
                  have HO := Lib.hid hown
                  have HLT := Lib.hid (fun g hg => hown.own.lt g hg)
                  have HLx := Lib.hid hKx
                  have HlX := Lib.hid lKx
                  have HLa2 := Lib.hid hLa
                  have HlA := Lib.hid lLa
                  obtain ⟨nKx, hnKx⟩ : ∃ nKx, (keyR mode ns x.1).length = nKx := ⟨_, rfl⟩
                  obtain ⟨nKy, hnKy⟩ : ∃ nKy, (keyR mode ns y.1).length = nKy := ⟨_, rfl⟩
                  obtain ⟨nLa, hnLa⟩ : ∃ nLa, x.1.length = nLa := ⟨_, rfl⟩
                  rw [hnKx] at HC HCQ
                  rw [hnKy] at HC HCQ
                  rw [hnLa] at HC
                  have HnKx := Lib.hid hnKx
                  have HnLa := Lib.hid hnLa
                  clear hy hyk hRx hRy hRa hRb hKx hKy hLa lKx lKy lLa c0 c1 c2 c3 c4 hcc hown hnKx hnKy hnLa
                  obtain ⟨c0, c1, _, _, _⟩ := HC.out wr (Below.refl _ _)
                  by_cases hc0 : cc = 0
                  · have t0 : (cc != 0) = false := by rw [hc0]; rfl
                    have HC0 := Lib.hid (show cmpL (keyR mode ns x.1) (keyR mode ns y.1) = 0 from by rw [HCC.out, hc0])
                    clear hc0
                    go_wp2_with fail
                    go_quiet (first | (go_at_call 51; exact Calls.quiet_of (HCQ.out _)))
                    obtain ⟨wv, hwv⟩ : ∃ wv, wr.drewN nq = wv := ⟨_, rfl⟩
                    have HWV := Lib.hid (show Below wr.heap.size wr wv from by rw [← hwv]; exact quietB ⟨nq, rfl⟩)
                    rw [hwv]
                    clear hwv c0 c1 t0 nq
                    obtain ⟨_, _, _, c3, c4⟩ := HC.out wv HWV.out
                    obtain ⟨d1, hd1'⟩ : ∃ d1, (Fix.doF op x.2 y.2).1 = d1 := ⟨_, rfl⟩
                    obtain ⟨d2, hd2'⟩ : ∃ d2, (Fix.doF op x.2 y.2).2 = d2 := ⟨_, rfl⟩
                    have HDD := Lib.hid (show Fix.doF op x.2 y.2 = (d1, d2) from by rw [← hd1', ← hd2'])
                    have HDo := Lib.hid (fun W => quiet_do op x.2 y.2 HDD.out W)
                    clear hd1' hd2'
                    go_wp2_with fail
                    go_quiet (first | (go_at_call 49; exact Calls.quiet_of_same (HDo.out _)))
                    obtain ⟨wu, hwu⟩ : ∃ wu, wv.drewN nq = wu := ⟨_, rfl⟩
                    have HWU := Lib.hid (show Below wr.heap.size wr wu from by rw [← hwu]; exact HWV.out.trans ((quietB ⟨nq, rfl⟩ : Below wv.heap.size wv (wv.drewN nq)).mono HWV.out.size))
                    rw [hwu]
                    clear hwu c3 c4
                    obtain ⟨c0, _, c2, c3, _⟩ := HC.out wu HWU.out
                    have HBU := Lib.hid (HB.out.trans (HWU.out.mono HB.out.size))
                    have HOU := Lib.hid (HO.out.below frow HWU.out)
                    have hzu := HBU.out.size
                    by_cases hd2 : d2 = 0
                    · subst hd2
                      cases g with
                      | false =>
                        have H2 := Lib.hid (show inD op mode ns x (b.drop (k + 1)) (acc ++ [(keyR mode ns x.1, d1)]) = inD op mode ns x b acc0 from by rw [← HI.out, HYD.out, inD_row HC0.out HDD.out HG.out])
                        go_wp2_with fail
                        refine (HCp.out _).mono ?_
                        rintro e w9 ⟨rfl, rfl⟩
                        go_wp2_with (at_builtin; go_must (refine wpList_append_own _ rfl _ _ 22 rfl wz.heap.size 53 i0 (.agg #[.slice none 0 0, .int .i64 0]) 2 32 Tryz.underlying22 hi hz0 hz1 hz2 rfl (by decide) _ _ _ rfl (HOU.out.own.alloc _) ⟨wu.heap.size, 0, none⟩ 1 1 [.slice oKx nKx cKx, .int .i64 d1] rfl rfl (cells_k _ _ _) (by intro v hv; simp at hv; rcases hv with rfl | rfl <;> rfl) (by unfold maxLen; omega) (by omega) (by simp; omega) ?_); intro vA wA hoA hgA hnA)
                        have hal : Below wu.heap.size wu (wu.alloc (Obj.cells #[.slice oKx nKx cKx, .int .i64 d1] 53)) := (Below.refl _ _).alloc (Nat.le_refl _) _
                        have HAp := Lib.hid (show OwnG (ERow B) 2 53 wA wz.heap.size vA (us ++ [[.slice oKx nKx cKx, .int .i64 d1]]) (acc ++ [(keyR mode ns x.1, d1)]) from
                          (HOU.out.below frow hal).snoc frow HBZ.out ⟨oKx, cKx, by rw [← HnKx.out], ((HLx.out.below HWU.out).mono (Nat.zero_le _)).below hal, HlX.out⟩ hoA hgA)
                        have HBA := Lib.hid (Below.grown (HBU.out.trans (hal.mono hzu)) hgA (by simp; omega) (fun g hg => (HLT.out g hg).1))
                        clear hoA hgA hal hnA
                        go_roundw
                        case rel => exact ⟨k + 1, _, _, by go_num, by omega, by simp; omega, HAp.out, H2, HBA⟩
                        case measure => simp [Go.RowKit.intOf]; omega
                      | true =>
                        by_cases hd1 : d1 = 1
                        · subst hd1
                          have H2 := Lib.hid (show inD op mode ns x (b.drop (k + 1)) (acc ++ [x]) = inD op mode ns x b acc0 from by rw [← HI.out, HYD.out, inD_keep HC0.out HDD.out HG.out])
                          go_wp2_with fail
                          refine (HCp.out _).mono ?_
                          rintro e w9 ⟨rfl, rfl⟩
                          go_wp2_with (at_builtin; go_must (refine wpList_append_own _ rfl _ _ 22 rfl wz.heap.size 53 i0 (.agg #[.slice none 0 0, .int .i64 0]) 2 32 Tryz.underlying22 hi hz0 hz1 hz2 rfl (by decide) _ _ _ rfl (HOU.out.own.alloc _) ⟨wu.heap.size, 0, none⟩ 1 1 [.slice oLa nLa cLa, .int .i64 x.2] rfl rfl (cells_k _ _ _) (by intro v hv; simp at hv; rcases hv with rfl | rfl <;> rfl) (by unfold maxLen; omega) (by omega) (by simp; omega) ?_); intro vA wA hoA hgA hnA)
                          have hal : Below wu.heap.size wu (wu.alloc (Obj.cells #[.slice oLa nLa cLa, .int .i64 x.2] 53)) := (Below.refl _ _).alloc (Nat.le_refl _) _
                          have HAp := Lib.hid (show OwnG (ERow B) 2 53 wA wz.heap.size vA (us ++ [[.slice oLa nLa cLa, .int .i64 x.2]]) (acc ++ [x]) from
                            (HOU.out.below frow hal).snoc frow HBZ.out ⟨oLa, cLa, by rw [← HnLa.out], (HLa2.out.below HWU.out).below hal, HlA.out⟩ hoA hgA)
                          have HBA := Lib.hid (Below.grown (HBU.out.trans (hal.mono hzu)) hgA (by simp; omega) (fun g hg => (HLT.out g hg).1))
                          clear hoA hgA hal hnA
                          go_roundw
                          case rel => exact ⟨k + 1, _, _, by go_num, by omega, by simp; omega, HAp.out, H2, HBA⟩
                          case measure => simp [Go.RowKit.intOf]; omega
                        · have t1 : (d1 == 1) = false := by rw [beq_eq_false_iff_ne]; exact hd1
                          have H2 := Lib.hid (show inD op mode ns x (b.drop (k + 1)) acc = inD op mode ns x b acc0 from by rw [← HI.out, HYD.out, inD_pass HC0.out HDD.out hd1 HG.out])
                          clear hd1
                          go_wp2_with fail
                          refine (HCp.out _).mono ?_
                          rintro e w9 ⟨rfl, rfl⟩
                          go_wp2
                          go_roundw
                          case rel => exact ⟨k + 1, _, _, by go_num, by omega, by omega, HOU.out, H2, HBU⟩
                          case measure => simp [Go.RowKit.intOf]; omega
                    · have t1 : (d2 != 0) = true := by rw [bne_iff_ne]; exact hd2
                      have H2 := Lib.hid (show matchR op a b mode ns = ([], d2) from by
                        rw [← H.out, HXD.out]
                        exact mD_err (by rw [← HI.out, HYD.out, inD_bad HC0.out HDD.out hd2]) hd2)
                      clear hd2
                      go_wp2
                      go_ret2
                      refine ⟨⟨.slice none 0 0, ?_, [], ?_⟩, HBz.out.trans (HBU.out.mono hzz)⟩
                      · rw [H2.out]; rfl
                      · rw [H2.out]; exact OwnG.nil _ _
                  · have t0 : (cc != 0) = true := by rw [bne_iff_ne]; exact hc0
                    have H2 := Lib.hid (show inD op mode ns x (b.drop (k + 1)) acc = inD op mode ns x b acc0 from by rw [← HI.out, HYD.out, inD_skip (by rw [HCC.out]; exact hc0)])
                    clear hc0
                    go_wp2_with fail
                    go_quiet (first | (go_at_call 51; exact Calls.quiet_of (HCQ.out _)))
                    have HWV := Lib.hid (quietB (w := wr) ⟨nq, rfl⟩)
                    have HOU := Lib.hid (HO.out.below frow HWV.out)
                    have HBU := Lib.hid (HB.out.trans (HWV.out.mono HB.out.size))
                    go_wp2
                    go_roundw
                    case rel => exact ⟨k + 1, _, _, by go_num, by omega, by omega, HOU.out, H2, HBU⟩
                    case measure => simp [Go.RowKit.intOf]; omega
                · have j2 : ¬ (k : Int) < nb := by omega
                  have H2 := Lib.hid (show mD op mode ns b (a.drop (i + 1)) acc = matchR op a b mode ns from by
                    rw [← H.out, HXD.out]
                    refine (mD_on ?_).symm
                    rw [← HI.out, List.drop_eq_nil_of_le (by rw [HNB.out]; omega), inD])
                  have HO := Lib.hid hown
                  clear hown
                  go_wp2
                  go_roundw
                  case rel => exact ⟨i + 1, us, acc, by go_num, by omega, by omega, HO.out, H2, HB⟩
                  case measure => simp [Go.RowKit.intOf]; omega
            · have j1 : ¬ (i : Int) < na := by omega
              have HE := Lib.hid (show orderR acc = matchR op a b mode ns from by
                rw [← H.out, List.drop_eq_nil_of_le (by rw [HNA.out]; omega), mD])
              have hl := hown.len
              obtain ⟨oR, cR, rfl, hsR, _⟩ := hown.sees (frow (B := B))
              have hBx := HB.out.size
              have HI := Lib.hid (rorder_any oR acc.length cR acc wr B (Nat.le_trans HBZ.out hBx) rfl (by omega) hsR)
              rw [HE.out] at HI
              clear hown hl hsR
              go_wp2_with fail
              refine HI.out.mono ?_
              rintro e w9 ⟨ho, b9⟩
              have HOu := Lib.hid (ho.low (Nat.le_trans hzz hBx))
              have HB9 := Lib.hid (HBz.out.trans ((HB.out.trans (b9.mono hBx)).mono hzz))
              obtain ⟨v2, rfl, _⟩ := ho
              clear b9
              go_wp2
              go_ret2
              exact ⟨HOu.out, HB9.out⟩
end Go.Proofs.YtbdnonphkobkoaaGreat.Vec
