/- The groups of one row each, of all rows: the walk. -/
import Derived.Test.YtbdnonphkobkoaaGreatGre
import Derived.Test.YtbdnonphkobkoaaGreatGi
namespace Go.Proofs.YtbdnonphkobkoaaGreat.Grp
open Go.RowKit Go.Lib Go.Sort Vec

def one1 (mode : Int) (ns : List ByteArray) (x : Rw) : One := (byR mode ns x.1, x)
theorem infoGrp : (Tryz.prog.info? 115).map (fun i => (i.zero, i.size, i.bytes)) = some (some (.agg #[.slice none 0 0, .slice none 0 0]), 2, 48) := by kernel_rfl
theorem by_len (mode : Int) (ns : List ByteArray) (l : Labs) : (byR mode ns l).length ≤ l.length := by
  unfold byR; split
  · exact key_len _ _ _
  · exact Nat.zero_le _

set_option maxHeartbeats 4000000 in
set_option maxRecDepth 100000 in
theorem ones_any (mode : Int) (on o : Option Addr) (nn cn n c : Nat) (ns : List ByteArray) (xs : List Rw) (w : World) (hnn : ns.length = nn) (hn : xs.length = n) (hr : rightR xs = true) (hl : SmR xs) (hmn : nn ≤ maxLen) (hm : n ≤ 1000) (B : Nat) (_hB : B ≤ w.heap.size) (hS : RowsS w B o xs) (hN : SeesN w on ns)
    (hJ : ∀ (v : Value) (us : List (List Value)) (W : World), w.heap.size ≤ W.heap.size → OwnO W w.heap.size v us (Stb.srt ltOne (xs.map (one1 mode ns))) → Below w.heap.size w W → Calls Tryz.prog 134 #[v] W fun e w' => ∃ v2 us2 D, e = .returned v2 ∧ OwnG (EGrp D) 2 115 w' W.heap.size v2 us2 (splitR mode ns xs) ∧ Below W.heap.size W w') :
    Calls Tryz.prog 97 #[.int .i64 mode, .slice on nn cn, .slice o n c] w fun e w' => ∃ v2 us2 D, e = .returned v2 ∧ OwnG (EGrp D) 2 115 w' w.heap.size v2 us2 (splitR mode ns xs) ∧ Below w.heap.size w w' := by
  obtain ⟨i0, hi, hz0, hz1, hz2⟩ := info_parts infoGrp
  have hfit := right_fit hr
  have HT := Lib.hid (show Calls Tryz.prog 12 #[.slice o n c] w (AnsR w (xs, 0)) from by
    have := tidy_row o n c xs w B hn (by unfold maxLen; omega) hS
    have e : tidyR xs = (xs, 0) := by
      unfold tidyR
      have h2 := hr
      unfold rightR at h2
      rw [Bool.and_eq_true] at h2
      rw [if_pos h2.1]
      exact order_rises h2.2
    rwa [e] at this)
  have HN := Lib.hid hn
  have HL := Lib.hid hl
  have HNN := Lib.hid hnn
  have HM := Lib.hid hmn
  have HSN := Lib.hid hN
  have HJ := Lib.hid hJ
  clear hn hS hl hnn hN hmn hJ hr hfit
  go_enter Tryz.func97, Tryz.ntmps97
  go_wp2_with fail
  refine HT.out.mono ?_
  rintro e w2 ⟨⟨v, rfl, us, ho⟩, hb⟩
  obtain ⟨o2, c2, rfl, hs2, _⟩ := ho.sees frow
  have HS := Lib.hid hs2
  have HB2 := Lib.hid hb
  rw [HN.out]
  clear HT ho hs2 hb
  have HWs := Lib.hid (show w.heap.size ≤ w2.heap.size from HB2.out.size)
  go_wp2
  go_loopw [9, 19] (fun v9 v19 wr => ∃ (k : Nat) (us : List (List Value)), v19 = .int .i64 k ∧ k ≤ n ∧ us.length = k ∧ OwnO wr w2.heap.size v9 us ((xs.take k).map (one1 mode ns)) ∧ Hid (Below w2.heap.size w2 wr)) (fun _ v19 _ => n - (intOf v19).toNat)
  case atStart => exact ⟨0, [], rfl, Nat.zero_le _, rfl, OwnG.nil _ _, Below.refl _ _⟩
  case round =>
    obtain ⟨k, us, rfl, hk, hus, hown, HB⟩ := hrel
    by_cases hkn : k < n
    · have j1 : (k : Int) < n := by omega
      obtain ⟨x, hx⟩ := get_ltG HN.out hkn
      obtain ⟨b, off, rfl, hR⟩ := (HS.out.below frow HB.out).at hx
      obtain ⟨oL, cL, c0, c1, hL, lL⟩ := row_at hR hx
      have hsm := HL.out x (List.mem_of_getElem? hx)
      obtain ⟨nL, hnL⟩ : ∃ nL, x.1.length = nL := ⟨_, rfl⟩
      obtain ⟨kl, hkl⟩ : ∃ kl, byR mode ns x.1 = kl := ⟨_, rfl⟩
      obtain ⟨nK, hnK⟩ : ∃ nK, kl.length = nK := ⟨_, rfl⟩
      rw [hnL] at c0
      obtain ⟨W1, hW1⟩ : ∃ W1, wr.alloc (Obj.cells #[.slice oL nL cL, .int .i64 x.2] 53) = W1 := ⟨_, rfl⟩
      have HW1 := Lib.hid hW1
      have HBW := Lib.hid (show Below wr.heap.size wr W1 by rw [← hW1]; exact below_box (Below.refl _ _) _ _ _)
      have HB1 := Lib.hid (HB.out.trans (HBW.out.mono HB.out.size))
      have HBX := Lib.hid (show ∀ W, Below W1.heap.size W1 W → W.cell? ⟨wr.heap.size, 0, none⟩ = some (.slice oL nL cL) ∧ W.cell? ⟨wr.heap.size, 1, none⟩ = some (.int .i64 x.2) by rw [← hW1]; exact box2 wr _ _ _)
      have HLS := Lib.hid (hL.below HBW.out)
      obtain ⟨W2, hW2⟩ : ∃ W2, W1.alloc (Obj.cells #[.slice oL nL cL, .int .i64 x.2] 53) = W2 := ⟨_, rfl⟩
      have HW2 := Lib.hid hW2
      have HB12 := Lib.hid (show Below W1.heap.size W1 W2 by rw [← hW2]; exact (Below.refl _ _).alloc (Nat.le_refl _) _)
      have HRO := Lib.hid (show ∀ W, Below W2.heap.size W2 W → W.heap[W1.heap.size]? = some (Obj.cells #[.slice oL nL cL, .int .i64 x.2] 53 (0, 0)) from by
        rw [← hW2]
        intro W h
        have hW : (W1.alloc (.cells #[.slice oL nL cL, .int .i64 x.2] 53)).heap[W1.heap.size]? = some (.cells #[.slice oL nL cL, .int .i64 x.2] 53 (0, 0)) := Array.getElem?_push_size
        exact (h.block _ (heap_lt hW)).trans hW)
      have HC0 := fun (Wb : World) (hWb : Below W1.heap.size W1 Wb) W (hb : Hid (Below Wb.heap.size Wb W)) => (by_any mode on oL nn cn nL cL ns x.1 W HNN.out hnL hsm HM.out ((hL.sees.below HBW.out).below (hWb.trans (hb.out.mono hWb.size))) (HSN.out.below (HB2.out.trans ((HB1.out.trans ((hWb.trans (hb.out.mono hWb.size)).mono HB1.out.size)).mono HB2.out.size)))).mono (fun e w' q => show ∃ oK cK, e = .returned (.slice oK nK cK) ∧ (w'.cell? ⟨wr.heap.size, 0, none⟩ = some (.slice oL nL cL) ∧ w'.cell? ⟨wr.heap.size, 1, none⟩ = some (.int .i64 x.2)) ∧ Hid (LabS w' 0 oK kl) ∧ Hid (Below Wb.heap.size Wb w') from by
        obtain ⟨⟨v, rfl, ho⟩, h2⟩ := q
        rw [hkl] at ho
        obtain ⟨oK, cK, rfl, h3, _⟩ := labs_own (C := 0) ho
        have h4 := hb.out.trans (h2.mono hb.out.size)
        exact ⟨oK, cK, by rw [hnK], HBX.out _ (hWb.trans (h4.mono hWb.size)), h3, h4⟩)
      have HC := Lib.hid (HC0 W1 (Below.refl _ _))
      have HCb := Lib.hid (HC0 W2 HB12.out)
      clear HC0
      have rb := Lib.hid (show Below W1.heap.size W1 W1.drew from (Below.refl _ _).drew)
      have rb2 := Lib.hid (show Below W2.heap.size W2 W2.drew from (Below.refl _ _).drew)
      obtain ⟨t0, t1⟩ := HBX.out W2 HB12.out
      obtain ⟨r0, r1⟩ := HBX.out W1 (Below.refl _ _)
      have HO := Lib.hid (hown.below (firmOne (B := 0)) HBW.out)
      have HLT := Lib.hid (fun g hg => hown.own.lt g hg)
      have HLW := Lib.hid (show wr.heap.size < W1.heap.size by rw [← hW1]; simp)
      have HX := Lib.hid (show (xs.take (k + 1)).map (one1 mode ns) = (xs.take k).map (one1 mode ns) ++ [(kl, x)] by
        rw [take_atG hx, List.map_append, ← hkl]; rfl)
      have HnL := Lib.hid hnL
      have HnK := Lib.hid hnK
      have HlL := Lib.hid lL
      have HlK := Lib.hid (show kl.length ≤ maxLen by rw [← hkl]; exact Nat.le_trans (by_len _ _ _) lL)
      clear hR hx hL lL hsm hnL hkl hnK hown hW1 hW2
      go_wp2_with fail
      rw [HW1.out]
      go_region_held3 (fun w' => w'.cell? ⟨wr.heap.size, 0, none⟩ = some (.slice oL nL cL) ∧ w'.cell? ⟨wr.heap.size, 1, none⟩ = some (.int .i64 x.2)) (first | exact ⟨s0, s1⟩ | exact ⟨r0, r1⟩ | exact ⟨t0, t1⟩ | exact cB | exact cG | exact cA | (rw [HW2.out]; exact ⟨t0, t1⟩)) (first
        | (go_at_call 32; go_fit (HC.out _ rb); rintro e wq ⟨oK, cK, rfl, ⟨s0, s1⟩, sl, sb⟩; have cB := HBX.out (wq.alloc (Obj.cells #[.slice oL nL cL, .int .i64 x.2] 53)) (sb.out.trans ((Below.refl _ _).alloc sb.out.size _)); have cG := HBX.out ((wq.alloc (Obj.cells #[.slice oL nL cL, .int .i64 x.2] 53)).alloc (Obj.cells #[.slice oK nK cK, .slice (some ⟨wq.heap.size, 0, none⟩) 1 1] 115)) (sb.out.trans (((Below.refl _ _).alloc sb.out.size _).alloc (by have := sb.out.size; simp; omega) _)))
        | (go_at_call 32; rw [HW2.out]; go_fit (HCb.out _ rb2); rintro e wq ⟨oK, cK, rfl, ⟨s0, s1⟩, sl, sb⟩; have cG := HBX.out (wq.alloc (Obj.cells #[.slice oK nK cK, .slice (some ⟨W1.heap.size, 0, none⟩) 1 1] 115)) ((HB12.out.trans (sb.out.mono HB12.out.size)).trans ((Below.refl _ _).alloc (HB12.out.trans (sb.out.mono HB12.out.size)).size _)))
        | (refine own_stepL rfl (.tmp 23) (.tmp 32) 112 rfl w2.heap.size 115 i0 (.agg #[.slice none 0 0, .slice none 0 0]) 2 48 Tryz.underlying112 hi hz0 hz1 hz2 rfl (by decide) _ _ _ rfl (((HO.out.below (firmOne (B := 0)) sb.out).own.alloc _).alloc _) ⟨wq.heap.size + 1, 0, none⟩ 1 1 [.slice oK nK cK, .slice (some ⟨wq.heap.size, 0, none⟩) 1 1] rfl rfl (by have h9 := cells_k (wq.alloc (Obj.cells #[.slice oL nL cL, .int .i64 x.2] 53)) [.slice oK nK cK, .slice (some ⟨wq.heap.size, 0, none⟩) 1 1] 115; rw [show (wq.alloc (Obj.cells #[.slice oL nL cL, .int .i64 x.2] 53)).heap.size = wq.heap.size + 1 by simp] at h9; exact h9) (by intro v hv; simp at hv; rcases hv with rfl | rfl <;> rfl) (by unfold maxLen; omega) (by omega) (by have h7 := HB1.out.size; have h8 := (sb.out).size; simp; omega) ?_
           intro vA wA hoA hgA
           have hfw := sb.out
           have hp : wr.heap.size < wq.heap.size := Nat.lt_of_lt_of_le HLW.out hfw.size
           have hal : Below wq.heap.size wq ((wq.alloc (Obj.cells #[.slice oL nL cL, .int .i64 x.2] 53)).alloc (Obj.cells #[.slice oK nK cK, .slice (some ⟨wq.heap.size, 0, none⟩) 1 1] 115)) := (((Below.refl wq.heap.size wq).alloc (Nat.le_refl _) _).alloc (by simp) _)
           have hx1 := HBX.out ((wq.alloc (Obj.cells #[.slice oL nL cL, .int .i64 x.2] 53)).alloc (Obj.cells #[.slice oK nK cK, .slice (some ⟨wq.heap.size, 0, none⟩) 1 1] 115)) (hfw.trans (hal.mono hfw.size))
           have hpb : wA.heap[wr.heap.size]? = (((wq.alloc (Obj.cells #[.slice oL nL cL, .int .i64 x.2] 53)).alloc (Obj.cells #[.slice oK nK cK, .slice (some ⟨wq.heap.size, 0, none⟩) 1 1] 115))).heap[wr.heap.size]? := hgA.block _ (Nat.lt_of_lt_of_le hp hal.size) (fun e => by have := (HLT.out _ e.symm).2; omega)
           have cA : wA.cell? ⟨wr.heap.size, 0, none⟩ = some (.slice oL nL cL) ∧ wA.cell? ⟨wr.heap.size, 1, none⟩ = some (.int .i64 x.2) := ⟨(cell_same hpb).trans hx1.1, (cell_same hpb).trans hx1.2⟩
           have hrow := (show ((wq.alloc (Obj.cells #[.slice oL nL cL, .int .i64 x.2] 53)).alloc (Obj.cells #[.slice oK nK cK, .slice (some ⟨wq.heap.size, 0, none⟩) 1 1] 115)).heap[wq.heap.size]? = some (Obj.cells #[.slice oL nL cL, .int .i64 x.2] 53 (0, 0)) from by
             have h9 : (wq.alloc (Obj.cells #[.slice oL nL cL, .int .i64 x.2] 53)).heap[wq.heap.size]? = some (.cells #[.slice oL nL cL, .int .i64 x.2] 53 (0, 0)) := Array.getElem?_push_size
             rw [Below.heap_alloc _ _ _ (by simp)]; exact h9)
           have HA := Lib.hid (show OwnO wA w2.heap.size vA (us ++ [[.slice oK nK cK, .slice (some ⟨wq.heap.size, 0, none⟩) 1 1]]) ((xs.take (k + 1)).map (one1 mode ns)) by
             rw [HX.out]
             exact ((HO.out.below (firmOne (B := 0)) hfw).below (firmOne (B := 0)) hal).snoc (firmOne (B := 0)) (Nat.zero_le _) ⟨oK, cK, _, oL, cL, (0, 0), by rw [HnK.out], sl.out.below hal, HlK.out, by rw [HnL.out]; exact hrow, (HLS.out.below hfw).below hal, HlL.out⟩ hoA hgA)
           have HBA := Lib.hid (Below.grown ((HB1.out.trans (hfw.mono HB1.out.size)).trans (hal.mono (Nat.le_trans HB1.out.size hfw.size))) hgA (by have h7 := HB1.out.size; have h8 := hfw.size; have h9 := hal.size; omega) (fun g hg => (HLT.out g hg).1))
           clear hoA hgA hal hp hfw hx1 hpb hrow)
        | (refine own_stepL rfl (.tmp 23) (.tmp 32) 112 rfl w2.heap.size 115 i0 (.agg #[.slice none 0 0, .slice none 0 0]) 2 48 Tryz.underlying112 hi hz0 hz1 hz2 rfl (by decide) _ _ _ rfl ((HO.out.below (firmOne (B := 0)) (HB12.out.trans (sb.out.mono HB12.out.size))).own.alloc _) ⟨wq.heap.size, 0, none⟩ 1 1 [.slice oK nK cK, .slice (some ⟨W1.heap.size, 0, none⟩) 1 1] rfl rfl (cells_k _ _ _) (by intro v hv; simp at hv; rcases hv with rfl | rfl <;> rfl) (by unfold maxLen; omega) (by omega) (by have h7 := HB1.out.size; have h8 := ((HB12.out.trans (sb.out.mono HB12.out.size))).size; simp; omega) ?_
           intro vA wA hoA hgA
           have hfw := (HB12.out.trans (sb.out.mono HB12.out.size))
           have hp : wr.heap.size < wq.heap.size := Nat.lt_of_lt_of_le HLW.out hfw.size
           have hal : Below wq.heap.size wq (wq.alloc (Obj.cells #[.slice oK nK cK, .slice (some ⟨W1.heap.size, 0, none⟩) 1 1] 115)) := ((Below.refl wq.heap.size wq).alloc (Nat.le_refl _) _)
           have hx1 := HBX.out (wq.alloc (Obj.cells #[.slice oK nK cK, .slice (some ⟨W1.heap.size, 0, none⟩) 1 1] 115)) (hfw.trans (hal.mono hfw.size))
           have hpb : wA.heap[wr.heap.size]? = ((wq.alloc (Obj.cells #[.slice oK nK cK, .slice (some ⟨W1.heap.size, 0, none⟩) 1 1] 115))).heap[wr.heap.size]? := hgA.block _ (Nat.lt_of_lt_of_le hp hal.size) (fun e => by have := (HLT.out _ e.symm).2; omega)
           have cA : wA.cell? ⟨wr.heap.size, 0, none⟩ = some (.slice oL nL cL) ∧ wA.cell? ⟨wr.heap.size, 1, none⟩ = some (.int .i64 x.2) := ⟨(cell_same hpb).trans hx1.1, (cell_same hpb).trans hx1.2⟩
           have hrow := (show (wq.alloc (Obj.cells #[.slice oK nK cK, .slice (some ⟨W1.heap.size, 0, none⟩) 1 1] 115)).heap[W1.heap.size]? = some (Obj.cells #[.slice oL nL cL, .int .i64 x.2] 53 (0, 0)) from by
             have h9 := HRO.out wq sb.out
             rw [Below.heap_alloc _ _ _ (heap_lt h9)]; exact h9)
           have HA := Lib.hid (show OwnO wA w2.heap.size vA (us ++ [[.slice oK nK cK, .slice (some ⟨W1.heap.size, 0, none⟩) 1 1]]) ((xs.take (k + 1)).map (one1 mode ns)) by
             rw [HX.out]
             exact ((HO.out.below (firmOne (B := 0)) hfw).below (firmOne (B := 0)) hal).snoc (firmOne (B := 0)) (Nat.zero_le _) ⟨oK, cK, _, oL, cL, (0, 0), by rw [HnK.out], sl.out.below hal, HlK.out, by rw [HnL.out]; exact hrow, (HLS.out.below hfw).below hal, HlL.out⟩ hoA hgA)
           have HBA := Lib.hid (Below.grown ((HB1.out.trans (hfw.mono HB1.out.size)).trans (hal.mono (Nat.le_trans HB1.out.size hfw.size))) hgA (by have h7 := HB1.out.size; have h8 := hfw.size; have h9 := hal.size; omega) (fun g hg => (HLT.out g hg).1))
           clear hoA hgA hal hp hfw hx1 hpb hrow))
      all_goals
        go_wp2
        go_roundw
        case rel => exact ⟨k + 1, _, by go_num, by omega, by simp [hus], HA.out, HBA⟩
        case measure => simp [intOf]; omega
    · have HE := Lib.hid (show (xs.take k).map (one1 mode ns) = xs.map (one1 mode ns) by rw [List.take_of_length_le (by rw [HN.out]; omega)])
      have j1 : ¬ (k : Int) < n := by omega
      rw [HE.out] at hown
      have HSo := Lib.hid (sortOnes_any (by rw [List.length_map, HN.out]; omega) hown)
      have HLT := Lib.hid (fun g hg => hown.own.lt g hg)
      clear hown hus
      go_wp2_with fail
      refine HSo.out.mono ?_
      rintro e w3 ⟨rfl, us3, ho3, hg3⟩
      have HB3 := Lib.hid (show Below w2.heap.size w2 w3 from HB.out.grown hg3 HB.out.size (fun g hg => (HLT.out g hg).1))
      have HJ3 := Lib.hid (HJ.out _ us3 w3 (Nat.le_trans HWs HB3.out.size) (ho3.own_le HWs) (HB2.out.trans (HB3.out.mono HB2.out.size)))
      clear ho3 hg3 HSo HLT
      go_wp2_with fail
      refine HJ3.out.mono ?_
      rintro e w4 ⟨v4, us4, D, rfl, ho4, hb4⟩
      have HR := Lib.hid (show OwnG (EGrp D) 2 115 w4 w.heap.size v4 us4 (splitR mode ns xs) ∧ Below w.heap.size w w4 from
        ⟨ho4.own_le (Nat.le_trans HWs HB3.out.size), HB2.out.trans ((HB3.out.trans (hb4.mono HB3.out.size)).mono HB2.out.size)⟩)
      clear ho4 hb4 HJ3
      go_wp2
      go_ret
      exact ⟨_, us4, D, rfl, HR.out.1, HR.out.2⟩
end Go.Proofs.YtbdnonphkobkoaaGreat.Grp
