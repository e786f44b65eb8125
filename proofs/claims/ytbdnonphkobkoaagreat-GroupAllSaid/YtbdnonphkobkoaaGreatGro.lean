/- Groups: Do, where all goes well: the walk. -/
import Derived.Test.YtbdnonphkobkoaaGreatGrn
namespace Go.Proofs.YtbdnonphkobkoaaGreat.Grp
open Go.RowKit Go.Lib Go.Sort Vec

theorem rowsOf_snoc (a : Nat × Int) (gs : List Grp) {k : Nat} {g : Grp} (h : gs[k]? = some g) : rowsOf a (gs.take (k + 1)) = rowsOf a (gs.take k) ++ (reckG a g).1 := by
  rw [take_atG h]; simp [rowsOf]

set_option maxHeartbeats 8000000 in
set_option maxRecDepth 100000 in
theorem do_ok (name : ByteArray) (n mode : Int) (on o : Option Addr) (nn cn nx c : Nat) (ns : List ByteArray) (xs : List Rw) (w : World) (a : Nat × Int) (ha : aggF name n = some a) (he : ∀ g ∈ splitR mode ns xs, (reckG a g).2 = 0) (hnn : ns.length = nn) (hn : xs.length = nx) (hr : rightR xs = true) (hl : SmR xs) (hmn : nn ≤ maxLen) (hm : nx ≤ 1000) (B : Nat) (hB : B ≤ w.heap.size) (hS : RowsS w B o xs) (hN : SeesN w on ns) :
    Calls Tryz.prog 29 #[.string name, .int .i64 n, .int .i64 mode, .slice on nn cn, .slice o nx c] w fun e w' => (∃ v us s, e = .returned (.tuple #[v, .int .i64 0]) ∧ OwnR w' w.heap.size v us s ∧ s.Perm (rowsOf a (splitR mode ns xs)) ∧ (s.Pairwise fun x y => leR x y = true)) ∧ Below w.heap.size w w' := by
  obtain ⟨i0, hi, hz0, hz1, hz2⟩ := info_parts infoRow
  have hA := agg_ok ha
  have HR := Lib.hid (read_any name n w)
  have HQ := Lib.hid (right_row o nx c xs w B hn (by unfold maxLen; omega) hS)
  have HSp := Lib.hid (fun W (hb : Below w.heap.size w W) => split_any mode on o nn cn nx c ns xs W hnn hn hr hl hmn hm B (Nat.le_trans hB hb.size) (hS.below frow hb) (hN.below hb))
  have HG := Lib.hid (show (∀ g ∈ splitR mode ns xs, (reckG a g).2 = 0 ∧ g.2 ≠ [] ∧ g.2.length ≤ nx) ∧ (splitR mode ns xs).length ≤ nx ∧ ∀ k, (rowsOf a ((splitR mode ns xs).take k)).length ≤ nx from
    ⟨fun g hg => ⟨he g hg, split_ne mode ns xs g hg, by rw [← hn]; exact group_len hg⟩, by rw [← hn]; exact split_len mode ns xs, fun k => by rw [← hn]; exact rows_small a mode ns xs k⟩)
  have HAA := Lib.hid hA
  rw [hr] at HQ
  rw [ha] at HR
  obtain ⟨gs, hgs⟩ : ∃ gs, splitR mode ns xs = gs := ⟨_, rfl⟩
  rw [hgs] at HSp HG ⊢
  clear ha he hnn hn hr hl hmn hB hS hN hgs hA
  go_enter Tryz.func29, Tryz.ntmps29
  go_wp2_with fail
  refine HR.out.mono ?_
  rintro e w1 ⟨⟨v, rfl, hv⟩, rfl⟩
  obtain rfl := hv a rfl
  have HAV := Lib.hid (fun (W : World) (oK : Option Addr) (nK cK b n cap : Nat) (g : Grp) h1 h2 h3 h4 h5 h6 h7 => reckon_any a HAA.out.1 HAA.out.2.1 oK nK cK b n cap g W h1 h2 h3 h4 h5 h6 h7)
  generalize aggV a = av at HAV ⊢
  clear hv HR
  go_wp2_with fail
  refine HQ.out.mono ?_
  rintro e w2 ⟨rfl, hb⟩
  have HB2 := Lib.hid hb
  have HSp2 := Lib.hid (HSp.out w2 hb)
  clear hb HQ HSp
  go_wp2_with fail
  refine HSp2.out.mono ?_
  rintro e w3 ⟨v3, us3, D, rfl, ho3, hb3⟩
  obtain ⟨o3, c3, rfl, hs3, _⟩ := ho3.sees (firmGrp (B := 0))
  have HS3 := Lib.hid hs3
  have HB3 := Lib.hid (HB2.out.trans (hb3.mono HB2.out.size))
  obtain ⟨m, hmg⟩ : ∃ m, gs.length = m := ⟨_, rfl⟩
  have hmb : m ≤ nx := by rw [← hmg]; exact HG.out.2.1
  have HM := Lib.hid hmg
  rw [hmg]
  have hw3 : w1.heap.size ≤ w3.heap.size := HB3.out.size
  clear ho3 hs3 hb3 HSp2 hmg HB2
  go_wp2
  go_loopw [14, 37] (fun v14 v37 wr => ∃ (k : Nat) (us : List (List Value)), v37 = .int .i64 k ∧ k ≤ m ∧ OwnR wr w3.heap.size v14 us (rowsOf a (gs.take k)) ∧ Hid (Below w3.heap.size w3 wr)) (fun _ v37 _ => m - (intOf v37).toNat)
  case atStart => exact ⟨0, [], rfl, Nat.zero_le _, by simpa [rowsOf] using OwnG.nil _ _, Below.refl _ _⟩
  case round =>
    obtain ⟨k, us, rfl, hk, hown, HB⟩ := hrel
    by_cases hkm : k < m
    · have j1 : (k : Int) < m := by omega
      obtain ⟨g, hg⟩ := get_ltG HM.out hkm
      obtain ⟨b, off, rfl, hR⟩ := (HS3.out.below (firmGrp (B := 0)) HB.out).at hg
      obtain ⟨u, ⟨oK, cK, bR, cR, cs, mR, rfl, hL, lK, _, _, hsR, lR⟩, hcell⟩ := hR.at0 k g hg
      have c0 := hcell 0 _ rfl
      have c1 := hcell 1 _ rfl
      rw [Nat.add_zero] at c0
      rw [← Nat.add_assoc] at c1
      obtain ⟨g1, g2, g3⟩ := HG.out.1 g (List.mem_of_getElem? hg)
      obtain ⟨nK, hnK⟩ : ∃ nK, g.1.length = nK := ⟨_, rfl⟩
      obtain ⟨nR, hnR⟩ : ∃ nR, g.2.length = nR := ⟨_, rfl⟩
      rw [hnK] at c0
      rw [hnR] at c1
      obtain ⟨W1, hW1⟩ : ∃ W1, wr.alloc (Obj.cells #[.slice oK nK cK, .slice (some ⟨bR, 0, none⟩) nR cR] 115) = W1 := ⟨_, rfl⟩
      have HW1 := Lib.hid hW1
      have HBW := Lib.hid (show Below wr.heap.size wr W1 by rw [← hW1]; exact below_box (Below.refl _ _) _ _ _)
      have HBX := Lib.hid (show W1.cell? ⟨wr.heap.size, 0, none⟩ = some (.slice oK nK cK) ∧ W1.cell? ⟨wr.heap.size, 1, none⟩ = some (.slice (some ⟨bR, 0, none⟩) nR cR) by
        rw [← hW1]
        exact ⟨boxk wr [.slice oK nK cK, .slice (some ⟨bR, 0, none⟩) nR cR] _ _ (Below.refl _ _) 0 _ rfl, boxk wr [.slice oK nK cK, .slice (some ⟨bR, 0, none⟩) nR cR] _ _ (Below.refl _ _) 1 _ rfl⟩)
      have HRk := Lib.hid (HAV.out W1 oK nK cK bR nR cR g hnK hnR g2 (by omega) (hL.below HBW.out) lK (SeesG.below frow hsR HBW.out))
      have hne := reck_ne g2 (fun h => (HAA.out.2.1 h).1) g1
      have hsm := HG.out.2.2 (k + 1)
      rw [rowsOf_snoc a gs hg, List.length_append] at hsm
      have HX := Lib.hid (rowsOf_snoc a gs hg)
      obtain ⟨rg, hrg⟩ : ∃ rg, (reckG a g).1 = rg := ⟨_, rfl⟩
      have hre : reckG a g = (rg, 0) := by rw [← hrg, ← g1]
      rw [hre] at HRk
      rw [hrg] at hne hsm HX
      have HO := Lib.hid (hown.below frow HBW.out)
      have HLT := Lib.hid (fun j hj => hown.own.lt j hj)
      have HNe := Lib.hid hne
      obtain ⟨tot, htot⟩ : ∃ tot, (rowsOf a (gs.take k)).length = tot := ⟨_, rfl⟩
      have HTot := Lib.hid htot
      rw [htot] at hsm
      obtain ⟨r0, r1⟩ := HBX.out
      clear hR hcell hL lK hsR lR hg g1 g2 hnK hnR hW1 hrg hre hown hne htot
      go_wp2_with fail
      rw [HW1.out]
      refine HRk.out.mono ?_
      rintro e w4 ⟨⟨o4, k4, c4, rfl, hk4, hs4⟩, hb4⟩
      obtain ⟨b4, off4, rfl, hs5⟩ : ∃ b4 off4, o4 = some ⟨b4, off4, none⟩ ∧ SeesG (ERow 0) 2 w4 b4 off4 rg := by
        rcases hs4 with h | h
        · exact absurd h HNe.out
        · exact h
      obtain ⟨us4, hu1, hu2, hu3⟩ := sees_us rg off4 hs5
      have HU := Lib.hid (And.intro hu1 hu2)
      have hk4' : rg.length = k4 := hk4.symm
      have hfl : us4.flatten.length = k4 * 2 := by
        have : ∀ u ∈ us4, u.length = 2 := fun u hu => by
          obtain ⟨j, hj⟩ := List.getElem?_of_mem hu
          obtain ⟨x, hx⟩ := get_ltG (xs := rg) rfl (show j < rg.length by rw [← hu1]; exact (List.getElem?_eq_some_iff.1 hj).1)
          obtain ⟨u2, h2, h3⟩ := hu2 j x hx
          rw [hj] at h2; cases h2
          exact (frow (B := 0)).wide _ _ _ h3
        rw [flat_lenG this, hu1, hk4']
      have h1c : ∀ v ∈ us4.flatten, v.oneCell' = true := fun v hv => by
        obtain ⟨u, hu, hv⟩ := List.mem_flatten.1 hv
        obtain ⟨j, hj⟩ := List.getElem?_of_mem hu
        obtain ⟨x, hx⟩ := get_ltG (xs := rg) rfl (show j < rg.length by rw [← hu1]; exact (List.getElem?_eq_some_iff.1 hj).1)
        obtain ⟨u2, h2, h3⟩ := hu2 j x hx
        rw [hj] at h2; cases h2
        exact (frow (B := 0)).cell _ _ _ h3 v hv
      have hcells : ∀ j u, us4.flatten[j]? = some u → w4.cell? ((⟨b4, off4, none⟩ : Addr).add j) = some u := fun j u hu => by
        rw [Addr.add_lit]; exact hu3 j u hu
      have HB4 := Lib.hid hb4
      have hO4 := (HO.out.below frow hb4).own
      have htl := (HO.out.below frow hb4).len
      rw [HTot.out] at htl
      rw [htl] at hO4
      have HO4 := Lib.hid hO4
      have hmx : tot + k4 ≤ nx := by rw [hk4'] at hsm; exact hsm
      have HK4 := Lib.hid hk4'
      have HTL := Lib.hid htl
      have hbase : w3.heap.size ≤ w4.heap.size := Nat.le_trans HB.out.size (Nat.le_trans HBW.out.size HB4.out.size)
      clear hu1 hu2 hu3 hs4 hs5 hk4 hb4 hk4' htl hO4 hsm
      go_wp2_with (at_builtin; go_must (refine wpList_append_own _ rfl _ _ 22 rfl w3.heap.size 53 i0 (.agg #[.slice none 0 0, .int .i64 0]) 2 32 Tryz.underlying22 hi hz0 hz1 hz2 rfl (by decide) _ tot us.flatten rfl HO4.out ⟨b4, off4, none⟩ k4 c4 us4.flatten rfl hfl hcells h1c (by unfold maxLen; omega) (by omega) hbase ?_); intro vA wA hoA hgA hnA)
      have HA := Lib.hid (show OwnR wA w3.heap.size vA (us ++ us4) (rowsOf a (gs.take (k + 1))) from by
        rw [HX.out]
        refine ⟨by rw [List.length_append, List.length_append, HTL.out, HTot.out, HU.out.1], ?_, fun j x hx => ?_⟩
        · rw [List.length_append, HTL.out, HU.out.1, HK4.out, List.flatten_append]; exact hoA
        · have hrw := fun q hq => (own_row HO4.out q hq).2
          by_cases hj : j < (rowsOf a (gs.take k)).length
          · rw [List.getElem?_append_left hj] at hx
            obtain ⟨u, h2, h3⟩ := (HO.out.below frow HB4.out).one j x hx
            exact ⟨u, by rw [List.getElem?_append_left (by rw [HTL.out, ← HTot.out]; exact hj)]; exact h2, (frow (B := 0)).grown _ _ _ _ _ h3 (fun q hq => ⟨Nat.zero_le _, hrw q hq⟩) hgA⟩
          · rw [List.getElem?_append_right (by omega)] at hx
            obtain ⟨u, h2, h3⟩ := HU.out.2 _ x hx
            exact ⟨u, by rw [List.getElem?_append_right (by rw [HTL.out, ← HTot.out]; omega), HTL.out, ← HTot.out]; exact h2, (frow (B := 0)).grown _ _ _ _ _ h3 (fun q hq => ⟨Nat.zero_le _, hrw q hq⟩) hgA⟩)
      have HBA := Lib.hid (show Below w3.heap.size w3 wA from Below.grown (HB.out.trans ((HBW.out.trans (HB4.out.mono HBW.out.size)).mono HB.out.size)) hgA hbase (fun q hq => (HLT.out q hq).1))
      clear hoA hgA hnA hfl h1c hcells
      go_wp2
      go_roundw
      case rel => exact ⟨k + 1, _, by go_num, by omega, HA.out, HBA⟩
      case measure => simp [intOf]; omega
    · have hkk : k = m := by omega
      subst hkk
      have j1 : ¬ (k : Int) < k := by omega
      have HE := Lib.hid (show rowsOf a (gs.take k) = rowsOf a gs from by rw [List.take_of_length_le (by rw [HM.out]; omega)])
      have htl := HG.out.2.2 k
      have HSD := Lib.hid (sortDo_any (by omega) hown)
      have HLT := Lib.hid (fun j hj => (hown.own.lt j hj).1)
      clear hown htl
      go_wp2_with fail
      refine HSD.out.mono ?_
      rintro e w5 ⟨rfl, us5, s5, hp, hpw, ho5, hg5⟩
      have HF := Lib.hid (show (OwnR w5 w1.heap.size _ us5 s5 ∧ s5.Perm (rowsOf a gs) ∧ s5.Pairwise fun x y => leR x y = true) ∧ Below w1.heap.size w1 w5 from
        ⟨⟨ho5.own_le hw3, by rw [← HE.out]; exact hp, hpw⟩, HB3.out.trans ((HB.out.grown hg5 HB.out.size HLT.out).mono HB3.out.size)⟩)
      clear hp hpw ho5 hg5 HSD HLT
      go_wp2
      go_ret2
      exact ⟨⟨_, us5, s5, rfl, HF.out.1.1, HF.out.1.2.1, HF.out.1.2.2⟩, HF.out.2⟩
end Go.Proofs.YtbdnonphkobkoaaGreat.Grp
