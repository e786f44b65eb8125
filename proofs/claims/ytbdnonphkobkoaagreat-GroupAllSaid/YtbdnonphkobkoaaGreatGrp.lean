/- Groups: Split: the walk. -/
import Derived.Test.YtbdnonphkobkoaaGreatGro
namespace Go.Proofs.YtbdnonphkobkoaaGreat.Grp
open Go.RowKit Go.Lib Go.Sort Vec

/-- Rows of a group, as a list of lists has them. -/
def EPart : Elem (List Rw) := fun w u x => ∃ b cR cs m, u = [.slice (some ⟨b, 0, none⟩) x.length cR] ∧ w.heap[b]? = some (.cells cs 53 m) ∧ SeesG (ERow 0) 2 w b 0 x ∧ x.length ≤ maxLen
theorem neRP : 53 ≠ 22 := by decide
theorem neLP : 62 ≠ 22 := by decide
theorem firmPart {B : Nat} : Firm EPart 1 22 B where
  wide := fun w u x ⟨b, cR, cs, m, h, _⟩ => by rw [h]; rfl
  below := fun w w' u x ⟨b, cR, cs, m, h1, h5, h6, h7⟩ hb => ⟨b, cR, cs, m, h1, (hb.block b (heap_lt h5)).trans h5, SeesG.below frow h6 hb, h7⟩
  grown := fun w w' u x row ⟨b, cR, cs, m, h1, h5, h6, h7⟩ hr hg => by
    have h8 := heap_grown h5 neRP (fun g hg => (hr g hg).2) hg
    exact ⟨b, cR, cs, m, h1, h8, sees_grown neLP h6 (h8.trans h5.symm) (fun g hg => (hr g hg).2) hg, h7⟩
  cell := fun w u x ⟨b, cR, cs, m, h, _⟩ v hv => by rw [h] at hv; simp at hv; rcases hv with rfl; rfl
theorem infoPart : (Tryz.prog.info? 22).map (fun i => (i.zero, i.size, i.bytes)) = some (some (.slice none 0 0), 1, 24) := by kernel_rfl

set_option maxHeartbeats 8000000 in
set_option maxRecDepth 100000 in
theorem parts_any (mode : Int) (on o : Option Addr) (nn cn nx c : Nat) (ns : List ByteArray) (xs : List Rw) (w : World) (hnn : ns.length = nn) (hn : xs.length = nx) (hr : rightR xs = true) (hl : SmR xs) (hmn : nn ≤ maxLen) (hm : nx ≤ 1000) (B : Nat) (hB : B ≤ w.heap.size) (hS : RowsS w B o xs) (hN : SeesN w on ns) :
    Calls Tryz.prog 31 #[.int .i64 mode, .slice on nn cn, .slice o nx c] w fun e w' => (∃ v us, e = .returned v ∧ OwnG EPart 1 22 w' w.heap.size v us ((splitR mode ns xs).map (·.2))) ∧ Below w.heap.size w w' := by
  obtain ⟨i0, hi, hz0, hz1, hz2⟩ := info_parts infoPart
  have HQ := Lib.hid (right_row o nx c xs w B hn (by unfold maxLen; omega) hS)
  have HSp := Lib.hid (fun W (hb : Below w.heap.size w W) => split_any mode on o nn cn nx c ns xs W hnn hn hr hl hmn hm B (Nat.le_trans hB hb.size) (hS.below frow hb) (hN.below hb))
  have HG := Lib.hid (show (splitR mode ns xs).length ≤ nx from by rw [← hn]; exact split_len mode ns xs)
  rw [hr] at HQ
  obtain ⟨gs, hgs⟩ : ∃ gs, splitR mode ns xs = gs := ⟨_, rfl⟩
  rw [hgs] at HSp HG ⊢
  clear hnn hn hr hl hmn hB hS hN hgs
  go_enter Tryz.func31, Tryz.ntmps31
  go_wp2_with fail
  refine HQ.out.mono ?_
  rintro e w2 ⟨rfl, hb⟩
  have HB2 := Lib.hid hb
  have HSp2 := Lib.hid (HSp.out w2 hb)
  clear hb HQ HSp
  go_wp2_with fail
  refine HSp2.out.mono ?_
  rintro e w3 ⟨v3, us3, D, rfl, ho3, hb3⟩
  obtain ⟨o3, c3, rfl, hs3, _⟩ := ho3.sees (firmGrp (B := 0))
  have HS3 := Lib.hid hs3
  have HB3 := Lib.hid (HB2.out.trans (hb3.mono HB2.out.size))
  obtain ⟨m, hmg⟩ : ∃ m, gs.length = m := ⟨_, rfl⟩
  have hmb : m ≤ nx := by rw [← hmg]; exact HG.out
  have HM := Lib.hid hmg
  rw [hmg]
  have hw3 : w.heap.size ≤ w3.heap.size := HB3.out.size
  clear ho3 hs3 hb3 HSp2 hmg HB2
  go_wp2
  go_loopw [7, 18] (fun v7 v18 wr => ∃ (k : Nat) (us : List (List Value)), v18 = .int .i64 k ∧ k ≤ m ∧ us.length = k ∧ OwnG EPart 1 22 wr w3.heap.size v7 us ((gs.take k).map (·.2)) ∧ Hid (Below w3.heap.size w3 wr)) (fun _ v18 _ => m - (intOf v18).toNat)
  case atStart => exact ⟨0, [], rfl, Nat.zero_le _, rfl, OwnG.nil _ _, Below.refl _ _⟩
  case round =>
    obtain ⟨k, us, rfl, hk, hus, hown, HB⟩ := hrel
    by_cases hkm : k < m
    · have j1 : (k : Int) < m := by omega
      obtain ⟨g, hg⟩ := get_ltG HM.out hkm
      obtain ⟨b, off, rfl, hR⟩ := (HS3.out.below (firmGrp (B := 0)) HB.out).at hg
      obtain ⟨u, ⟨oK, cK, bR, cR, cs, mR, rfl, hL, lK, _, hbR, hsR, lR⟩, hcell⟩ := hR.at0 k g hg
      have c0 := hcell 0 _ rfl
      have c1 := hcell 1 _ rfl
      rw [Nat.add_zero] at c0
      rw [← Nat.add_assoc] at c1
      obtain ⟨nK, hnK⟩ : ∃ nK, g.1.length = nK := ⟨_, rfl⟩
      obtain ⟨nR, hnR⟩ : ∃ nR, g.2.length = nR := ⟨_, rfl⟩
      rw [hnK] at c0
      rw [hnR] at c1
      have HNR := Lib.hid hnR
      have HX := Lib.hid (show (gs.take (k + 1)).map (·.2) = (gs.take k).map (·.2) ++ [g.2] from by rw [take_atG hg, List.map_append]; rfl)
      have HE := Lib.hid (show EPart wr [.slice (some ⟨bR, 0, none⟩) g.2.length cR] g.2 from ⟨bR, cR, cs, mR, rfl, hbR, hsR, lR⟩)
      have HO := Lib.hid hown
      have HLT := Lib.hid (fun j hj => hown.own.lt j hj)
      have hO2 := (hown.own.alloc (Obj.cells #[.slice oK nK cK, .slice (some ⟨bR, 0, none⟩) nR cR] 115)).alloc (Obj.cells #[.slice (some ⟨bR, 0, none⟩) nR cR] 22)
      rw [hus] at hO2
      have hal : Below wr.heap.size wr ((wr.alloc (Obj.cells #[.slice oK nK cK, .slice (some ⟨bR, 0, none⟩) nR cR] 115)).alloc (Obj.cells #[.slice (some ⟨bR, 0, none⟩) nR cR] 22)) := ((Below.refl wr.heap.size wr).alloc (Nat.le_refl _) _).alloc (by simp) _
      have HAL := Lib.hid hal
      have hcl := cells_k (wr.alloc (Obj.cells #[.slice oK nK cK, .slice (some ⟨bR, 0, none⟩) nR cR] 115)) [.slice (some ⟨bR, 0, none⟩) nR cR] 22
      rw [show (wr.alloc (Obj.cells #[.slice oK nK cK, .slice (some ⟨bR, 0, none⟩) nR cR] 115)).heap.size = wr.heap.size + 1 by simp] at hcl
      have HW := Lib.hid HB.out.size
      clear hR hcell hL lK hbR hsR lR hg hnK hnR hown hal
      go_wp2_with (at_builtin; go_must (refine wpList_append_own _ rfl _ _ 36 rfl w3.heap.size 22 i0 (.slice none 0 0) 1 24 Tryz.underlying36 hi hz0 hz1 hz2 rfl (by decide) _ k us.flatten rfl hO2 ⟨wr.heap.size + 1, 0, none⟩ 1 1 [.slice (some ⟨bR, 0, none⟩) nR cR] rfl rfl hcl (by intro v hv; simp at hv; rcases hv with rfl; rfl) (by unfold maxLen; omega) (by omega) (by have := HW.out; simp; omega) ?_); intro vA wA hoA hgA hnA)
      have HA := Lib.hid (show OwnG EPart 1 22 wA w3.heap.size vA (us ++ [[.slice (some ⟨bR, 0, none⟩) nR cR]]) ((gs.take (k + 1)).map (·.2)) from by
        rw [HX.out]
        exact (HO.out.below (firmPart (B := 0)) HAL.out).snoc (firmPart (B := 0)) (Nat.zero_le _) (by have h9 := (firmPart (B := 0)).below _ _ _ _ HE.out HAL.out; rw [HNR.out] at h9; exact h9) (by rw [hus]; exact hoA) hgA)
      have HBA := Lib.hid (show Below w3.heap.size w3 wA from Below.grown (HB.out.trans (HAL.out.mono HB.out.size)) hgA (by have := HW.out; simp; omega) (fun q hq => (HLT.out q hq).1))
      clear hoA hgA hnA hO2 hcl
      go_wp2
      go_roundw
      case rel => exact ⟨k + 1, _, by go_num, by omega, by simp [hus], HA.out, HBA⟩
      case measure => simp [intOf]; omega
    · have hkk : k = m := by omega
      subst hkk
      have j1 : ¬ (k : Int) < k := by omega
      have HF := Lib.hid (show OwnG EPart 1 22 _ w.heap.size _ us (gs.map (·.2)) ∧ Below w.heap.size w _ from
        ⟨by have h9 := hown.own_le hw3; rwa [List.take_of_length_le (by rw [HM.out]; omega)] at h9, HB3.out.trans (HB.out.mono HB3.out.size)⟩)
      clear hown
      go_wp2
      go_ret
      exact ⟨⟨_, rfl, us, HF.out.1⟩, HF.out.2⟩
end Go.Proofs.YtbdnonphkobkoaaGreat.Grp
