/- Groups: the walk of the statement on rows that are in just one group. -/
import Derived.Test.YtbdnonphkobkoaaGreatGsi
import Derived.Test.YtbdnonphkobkoaaGreatGsv
import Derived.Maps.OwnOps
import Derived.Carry
namespace Go.Proofs.YtbdnonphkobkoaaGreat.Grp
open Go.RowKit Go.Lib Go.Sort Vec Fix Go.Maps Go.WideMaps

set_option maxHeartbeats 32000000 in
set_option maxRecDepth 100000 in
theorem splits_any (mode : Int) (on o : Option Addr) (nn cn n c : Nat) (ns : List ByteArray) (xs : List Rw) (w : World) (hn : xs.length = n) (hnn : ns.length = nn) (hS : RowsS w w.heap.size o xs) (hN : SeesN w on ns) :
    Calls Tryz.prog 5 #[.int .i64 mode, .slice on nn cn, .slice o n c] w fun e w' => e = .returned (.bool true) ∧ Below w.heap.size w w' := by
  have HAl := Lib.hid (fun W => alive_any W)
  have HLt := Lib.hid (lightR_any o n c xs w _ hn hS)
  cases hl : lightR xs with
  | false =>
    rw [hl] at HLt
    clear hl hS hN
    go_enter Tryz.func5, Tryz.ntmps5
    go_wp2_with fail
    refine HLt.out.mono ?_
    rintro e w1 ⟨rfl, b1⟩
    go_wp2_with fail
    refine (HAl.out _).mono ?_
    rintro e w2 ⟨rfl, b2⟩
    go_wp2
    go_ret
    exact ⟨rfl, b1.trans (b2.mono b1.size)⟩
  | true =>
  obtain ⟨h60, hsm⟩ := lightR_mk hl
  rw [hl] at HLt
  by_cases g1 : 10 < nn
  · have i1 : (10 : Int) < nn := by omega
    clear hl hS hN
    go_enter Tryz.func5, Tryz.ntmps5
    go_wp2_with fail
    refine HLt.out.mono ?_
    rintro e w1 ⟨rfl, b1⟩
    go_wp2_with fail
    refine (HAl.out _).mono ?_
    rintro e w2 ⟨rfl, b2⟩
    go_wp2
    go_ret
    exact ⟨rfl, b1.trans (b2.mono b1.size)⟩
  have i1 : ¬ (10 : Int) < nn := by omega
  have har := vecT_right xs
  have hal : (vecT xs).length ≤ 60 := Nat.le_trans (vecT_len xs) h60
  have HTa := Lib.hid (fun W (hb : Below w.heap.size w W) => ltidy_any o n c xs W _ hn (by omega) hsm (hS.below frow hb))
  obtain ⟨a, ha⟩ : ∃ a, vecT xs = a := ⟨_, rfl⟩
  rw [ha] at har hal HTa
  obtain ⟨na, hna⟩ : ∃ na, a.length = na := ⟨_, rfl⟩
  have hna60 : na ≤ 60 := by rw [← hna]; exact hal
  have HNA := Lib.hid hna
  have HPa := Lib.hid (fun W oA cA (hb : Below w.heap.size w W) (s : RowsS W 0 oA a) => parts_any mode on oA nn cn na cA ns a W hnn hna har (small_right har) (by unfold maxLen; omega) (by omega) 0 (Nat.zero_le _) s (hN.below hb))
  have HAR := Lib.hid har
  have HSM := Lib.hid (small_right har)
  obtain ⟨G, hG⟩ : ∃ G, splitR mode ns a = G := ⟨_, rfl⟩
  obtain ⟨ng, hng⟩ : ∃ ng, G.length = ng := ⟨_, rfl⟩
  have hng60 : ng ≤ 60 := by rw [← hng, ← hG]; exact Nat.le_trans (split_len mode ns a) hal
  rw [hG] at HPa
  have HNG := Lib.hid hng
  have HNP := Lib.hid (show (G.map (·.2)).length = ng from by rw [List.length_map]; exact hng)
  have HAll := Lib.hid (show cntG G ng = na from by rw [← hna, ← hG]; exact cntG_all mode ns a (by rw [hG]; exact hng))
  have HCle := Lib.hid (fun k => (show cntG G k ≤ na from by rw [← hna, ← hG]; exact cntG_le mode ns a k))
  have HNew := Lib.hid (fun (i : Nat) (g : Grp) (h : G[i]? = some g) => (show g.1 ∉ (G.take i).map (·.1) from by rw [← hG] at h ⊢; exact by_new h))
  have HMem := Lib.hid (fun (i : Nat) (g : Grp) (h : G[i]? = some g) => (show g.2 ≠ [] ∧ g.2.length ≤ 60 ∧ ∀ x ∈ g.2, byR mode ns x.1 = g.1 ∧ rightB x.1 = true ∧ SmL x.1 from by
    have hm := List.mem_of_getElem? h
    rw [← hG] at hm
    exact ⟨split_ne mode ns a g hm, Nat.le_trans (group_len hm) hal, fun x hx => ⟨split_by mode ns a g hm x hx, ((right_fit har).2.1 x (split_mem hm hx)).1, small_right har x (split_mem hm hx)⟩⟩))
  have HBy := Lib.hid (fun (W : World) (hb : Below w.heap.size w W) (l : Labs) (nl : Nat) (oL : Option Addr) (cL : Nat) (h1 : l.length = nl) (h2 : SmL l) (h3 : Go.Proofs.YtbdnonphkobkoaaGreat.SeesO W oL l) => by_any mode on oL nn cn nl cL ns l W hnn h1 h2 (by unfold maxLen; omega) h3 (hN.below hb))
  clear hl hS hN har hal ha hsm hG hng hna
  have hmm := @run_makeMap Tryz.prog
  go_enter Tryz.func5, Tryz.ntmps5
  go_wp2_with fail
  refine HLt.out.mono ?_
  rintro e w1 ⟨rfl, b1⟩
  go_wp2_with fail
  refine (HAl.out _).mono ?_
  rintro e w2 ⟨rfl, b2⟩
  have b12 := b1.trans (b2.mono b1.size)
  clear b1 b2
  go_wp2_with fail
  refine (HTa.out _ b12).mono ?_
  rintro e w3 ⟨⟨va, usa, rfl, hoa⟩, b3⟩
  obtain ⟨oA, cA, rfl, hsA, _⟩ := hoa.sees (frow (B := 0))
  rw [HNA.out]
  have HB3 := Lib.hid (b12.trans (b3.mono b12.size))
  have HSA := Lib.hid hsA
  clear b12 b3 hoa hsA HLt HAl HTa
  go_wp2_with fail
  refine (HPa.out _ oA cA HB3.out HSA.out).mono ?_
  rintro e w4 ⟨⟨vp, usp, rfl, hop⟩, b4⟩
  obtain ⟨oP, cP, rfl, hsP, _⟩ := hop.sees (firmPart (B := 0))
  rw [HNP.out]
  have HB4 := Lib.hid (HB3.out.trans (b4.mono HB3.out.size))
  have HSP := Lib.hid hsP
  have hz4 := HB4.out.size
  clear b4 hop hsP HB3 HSA HPa
  go_wp2
  go_loopw [9, 11] (fun v9 v11 wr => ∃ i : Nat, v11 = .int .i64 i ∧ i ≤ ng ∧ v9 = .int .i64 ((cntG G i : Nat) : Int) ∧ Hid (∃ D, setMap wr w4.heap.size i D ∧ SetOf D ((G.take i).map (·.1))) ∧ Hid (Below w4.heap.size w4 wr)) (fun _ v11 _ => ng - (Go.RowKit.intOf v11).toNat)
  case atStart => exact ⟨0, rfl, Nat.zero_le _, rfl, Lib.hid ⟨_, World.ownsMap_made _ _ _ _, SetOf.nil⟩, Lib.hid ((Below.refl _ _).alloc (Nat.le_refl _) _)⟩
  case round =>
    obtain ⟨i, rfl, hi, rfl, HMAP, HB⟩ := hrel
    by_cases hin : i < ng
    · have j1 : (i : Int) < ng := by omega
      obtain ⟨g, hg⟩ := get_ltG HNG.out hin
      have hp : (G.map (·.2))[i]? = some g.2 := by rw [List.getElem?_map, hg]; rfl
      have HP := Lib.hid hp
      obtain ⟨gne, glen, gall⟩ := HMem.out i g hg
      have HGA := Lib.hid gall
      have HNw := Lib.hid (HNew.out i g hg)
      have HC1 := Lib.hid (cntG_step hg)
      have HTK := Lib.hid (show (G.take (i + 1)).map (·.1) = (G.take i).map (·.1) ++ [g.1] from by rw [take_atG hg, List.map_append]; rfl)
      obtain ⟨m, hm⟩ : ∃ m, g.2.length = m := ⟨_, rfl⟩
      have HM := Lib.hid hm
      have hm0 : 0 < m := by rw [← hm]; exact List.length_pos_iff.2 gne
      have hm60 : m ≤ 60 := by rw [← hm]; exact glen
      have t0 : ((m : Int) == 0) = false := by rw [beq_eq_false_iff_ne]; omega
      have t1 : (0 : Int) < m := by omega
      rw [hm] at HC1
      obtain ⟨b, off, rfl, hR⟩ := (HSP.out.below (firmPart (B := 0)) HB.out).at hp
      obtain ⟨u, ⟨b2, cR, cs, mm, rfl, _, hS2, _⟩, hc⟩ := hR.at0 i _ hp
      have c0 := hc 0 _ rfl
      simp only [Nat.mul_one, Nat.add_zero] at c0
      rw [hm] at c0
      obtain ⟨x0, hx0⟩ := get_ltG hm hm0
      obtain ⟨oL, cL, d0, _, hL, _⟩ := row_at (j := 0) hS2 hx0
      simp only [Nat.zero_mul, Nat.add_zero] at d0
      obtain ⟨e0, r0, s0⟩ := gall x0 (List.mem_of_getElem? hx0)
      obtain ⟨nL, hnL⟩ : ∃ nL, x0.1.length = nL := ⟨_, rfl⟩
      rw [hnL] at d0
      have HK := Lib.hid (HBy.out wr (HB4.out.trans (HB.out.mono hz4)) x0.1 nL oL cL hnL s0 hL.sees)
      rw [e0] at HK
      have HKr := Lib.hid (show rightB g.1 = true from by rw [← e0]; exact by_right r0)
      have HKs := Lib.hid (show SmL g.1 from by rw [← e0]; exact by_small s0)
      clear hS2 hL hx0 e0 r0 s0 hnL hc hR hg hp gne glen gall hm
      obtain ⟨key, hkey⟩ : ∃ key, g.1 = key := ⟨_, rfl⟩
      rw [hkey] at HK HKr HKs HGA HNw HTK
      obtain ⟨kn, hkn⟩ : ∃ kn, key.length = kn := ⟨_, rfl⟩
      have HKN := Lib.hid hkn
      clear hkey hkn
      go_wp2_with fail
      refine HK.out.mono ?_
      rintro e w5 ⟨⟨vk, rfl, hown⟩, b5⟩
      obtain ⟨oG, cG, rfl, hLG, _⟩ := labs_own (C := 0) hown
      rw [HKN.out]
      have HLG := Lib.hid hLG
      have HB5 := Lib.hid (HB.out.trans (b5.mono HB.out.size))
      have HM5 := Lib.hid (show ∃ D, setMap w5 w4.heap.size i D ∧ SetOf D ((G.take i).map (·.1)) from by
        obtain ⟨D, h1, h2⟩ := HMAP.out
        exact ⟨D, h1.kept (grown_none b5) (by simp), h2⟩)
      have HT := Lib.hid (rtext_row oG kn cG key 0 w5 HKN.out HKs.out hLG.sees)
      clear hown hLG b5 HB HMAP HK
      go_wp2_with fail
      refine HT.out.mono ?_
      rintro e w6 ⟨rfl, b6⟩
      have HB6 := Lib.hid (HB5.out.trans (b6.mono HB5.out.size))
      have HLG6 := Lib.hid (HLG.out.below b6)
      obtain ⟨s, hs⟩ : ∃ s, kT key = s := ⟨_, rfl⟩
      rw [hs]
      have hsz : s.size ≤ 7007010 := by rw [← hs]; exact kT_size HKs.out
      obtain ⟨D, hm6, hD⟩ := HM5.out
      replace hm6 := hm6.kept (grown_none b6) (by simp)
      have hrun := look_labs hm6 hD HKr.out hs (by unfold maxLen; omega)
      rw [hasL_no HNw.out] at hrun
      have hkl := Lib.hid (keyOf_string_mk (P := Tryz.prog) Tryz.underlying9 (s := s) (by unfold maxLen; omega))
      have HPut := Lib.hid (show SetOf (D.put (.string s.data.toList) (.lit (.bool true))) ((G.take (i + 1)).map (·.1)) from by rw [HTK.out, ← hs]; exact hD.put HKr.out)
      clear b6 HT HM5 HLG hD hs HB5
      go_wp2_with (at_mapUpdate; refine wpList_mapUpdate_own _ rfl _ _ _ 56 rfl 9 4 (Maps.string_keyed Tryz.underlying9) Tryz.underlying56 _ w4.heap.size i _ rfl hm6 (by unfold maxLen; omega) _ _ _ rfl rfl hkl.out _ [] (plainElem_bool Tryz.underlying4 true) ?_; intro w7 hm7 hg7)
      have HM7 := Lib.hid (show ∃ D, setMap w7 w4.heap.size (i + 1) D ∧ SetOf D ((G.take (i + 1)).map (·.1)) from ⟨_, hm7, HPut.out⟩)
      have hb6z := HB6.out.size
      have HB7 := Lib.hid (Below.grown HB6.out hg7 hb6z (fun j hj => by have := Option.some.inj hj; omega))
      have HLG7 := Lib.hid (labs_map HLG6.out hm6 hg7)
      clear hm7 hg7 hm6 HB6 HPut hrun HLG6
      go_wp2_with fail
      go_loopw [9, 14] (fun v9 v14 wi => ∃ j : Nat, v14 = .int .i64 j ∧ j ≤ m ∧ v9 = .int .i64 ((cntG G i + j : Nat) : Int) ∧ Hid (Below w7.heap.size w7 wi)) (fun _ v14 _ => m - (Go.RowKit.intOf v14).toNat)
      case atStart => exact ⟨0, rfl, Nat.zero_le _, rfl, Lib.hid (Below.refl _ _)⟩
      case round =>
        obtain ⟨j, rfl, hj, rfl, HBi⟩ := hrel
        have HBx := Lib.hid (HB7.out.trans (HBi.out.mono HB7.out.size))
        obtain ⟨b', off', e', hR⟩ := (HSP.out.below (firmPart (B := 0)) HBx.out).at HP.out
        cases e'
        obtain ⟨u, ⟨b3, cR3, cs3, mm3, rfl, _, hS2, _⟩, hc⟩ := hR.at0 i _ HP.out
        have c1 := hc 0 _ rfl
        simp only [Nat.mul_one, Nat.add_zero] at c1
        rw [HM.out] at c1
        by_cases hjm : j < m
        · have j2 : (j : Int) < m := by omega
          obtain ⟨x, hx⟩ := get_ltG HM.out hjm
          obtain ⟨oX, cX, d0, _, hL, _⟩ := row_at hS2 hx
          simp only [Nat.zero_add] at d0
          obtain ⟨e0, r0, s0⟩ := HGA.out x (List.mem_of_getElem? hx)
          obtain ⟨nX, hnX⟩ : ∃ nX, x.1.length = nX := ⟨_, rfl⟩
          rw [hnX] at d0
          have HK := Lib.hid (HBy.out wr (HB4.out.trans (HBx.out.mono hz4)) x.1 nX oX cX hnX s0 hL.sees)
          rw [e0] at HK
          have hcl := HCle.out (i + 1)
          rw [HC1.out] at hcl
          clear hS2 hL hx e0 r0 s0 hnX hc hR
          go_wp2_with fail
          refine HK.out.mono ?_
          rintro e w8 ⟨⟨vk, rfl, hown⟩, b8⟩
          obtain ⟨oK, cK, rfl, hLK, lK⟩ := labs_own (C := 0) hown
          rw [HKN.out]
          have HB8 := Lib.hid (HBi.out.trans (b8.mono HBi.out.size))
          have HSm := Lib.hid (sameLabels_any oK oG cK cG key key w8 lK lK hLK.sees (HLG7.out.below HB8.out).sees)
          rw [HKN.out, (sameL_iff key key).2 rfl] at HSm
          clear hown hLK lK b8 HK
          go_wp2_with fail
          refine HSm.out.mono ?_
          rintro e w9 ⟨rfl, b9⟩
          have HB9 := Lib.hid (HB8.out.trans (b9.mono HB8.out.size))
          clear b9 HSm
          go_wp2
          go_roundw
          case rel => exact ⟨j + 1, by go_num, by omega, by go_num, HB9⟩
          case measure => simp [Go.RowKit.intOf]; omega
        · have j2 : ¬ (j : Int) < m := by omega
          have hjm2 : j = m := by omega
          have HM8 := Lib.hid (show ∃ D, setMap wr w4.heap.size (i + 1) D ∧ SetOf D ((G.take (i + 1)).map (·.1)) from by
            obtain ⟨D, h1, h2⟩ := HM7.out
            exact ⟨D, h1.kept (grown_none HBi.out) (by simp), h2⟩)
          clear hS2 hc hR
          go_wp2
          go_roundw
          case rel => exact ⟨i + 1, by go_num, by omega, by rw [HC1.out, hjm2], HM8, HBx⟩
          case measure => simp [Go.RowKit.intOf]; omega
    have j1 : ¬ (i : Int) < ng := by omega
    obtain rfl : i = ng := by omega
    rw [HAll.out]
    go_wp2
    go_ret
    exact ⟨rfl, HB4.out.trans (HB.out.mono hz4)⟩
end Go.Proofs.YtbdnonphkobkoaaGreat.Grp
