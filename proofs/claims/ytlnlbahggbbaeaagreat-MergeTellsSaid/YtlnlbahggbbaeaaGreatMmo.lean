/- The law: of all lists the rows, one by one, and of which list each is. -/
import Derived.Test.YtlnlbahggbbaeaaGreatMmn
import Derived.Test.YtlnlbahggbbaeaaGreatMlo
import Derived.Test.YtlnlbahggbbaeaaGreatMli
import Derived.Test.YtlnlbahggbbaeaaGreatMlj
namespace Go.Proofs.YtlnlbahggbbaeaaGreat.Mrg
open Go.RowKit Go.Lib Go.Proofs.YtlnlbahggbbaeaaGreat Go.Proofs.YtlnlbahggbbaeaaGreat.Vec Go.Proofs.YtlnlbahggbbaeaaGreat.Stb

set_option maxHeartbeats 16000000 in
set_option maxRecDepth 100000 in
theorem tells_any (by_ : Int) (o : Option Addr) (n c B : Nat) (ms : List Ls) (w : World) (hB : B ≤ w.heap.size) (hn : ms.length = n) (hS : ListG w B o ms) :
    Calls Tryz.prog 3 #[.int .i64 by_, .slice o n c] w fun e w' => e = .returned (.bool true) ∧ Below w.heap.size w w' := by
  obtain ⟨i0, hi, hz0, hz1, hz2⟩ := info_parts infoRow
  obtain ⟨i1, hi1, hy0, hy1, hy2⟩ := info_parts infoRs
  have HAL := Lib.hid (fun W => alive_any W)
  have HL := Lib.hid (light_list o n c B ms w hn hS)
  cases hl : lightL ms with
  | false =>
    rw [hl] at HL
    clear hl hn hS hi hz0 hz1 hz2 hi1 hy0 hy1 hy2
    go_enter Tryz.func3, Tryz.ntmps3
    go_wp2_with fail
    refine HL.out.mono ?_
    rintro e w1 ⟨rfl, b1⟩
    have HB1 := Lib.hid b1
    clear b1
    go_wp2_with fail
    refine (HAL.out _).mono ?_
    rintro e w2 ⟨rfl, b2⟩
    have HB2 := Lib.hid (HB1.out.trans (b2.mono HB1.out.size))
    clear b2
    go_wp2
    go_ret
    exact ⟨rfl, HB2.out⟩
  | true =>
    rw [hl] at HL
    have hli := lightL_mk hl
    have hLS := hS.light hli
    have hn20 : n ≤ 20 := by rw [← hn]; exact hli.len
    have HN := Lib.hid hn
    have HLI := Lib.hid hli
    have HS := Lib.hid hLS
    clear hl hn hS hli hLS
    obtain ⟨r, hr⟩ : ∃ r, w.heap.size = r := ⟨_, rfl⟩
    have HR := Lib.hid hr
    rw [hr] at hB
    clear hr
    go_enter Tryz.func3, Tryz.ntmps3
    go_wp2_with fail
    refine HL.out.mono ?_
    rintro e w1 ⟨rfl, b1⟩
    have HB1 := Lib.hid b1
    clear b1
    go_wp2_with fail
    refine (HAL.out _).mono ?_
    rintro e w2 ⟨rfl, b2⟩
    have HB2 := Lib.hid (show Below r w w2 from by rw [← HR.out]; exact HB1.out.trans (b2.mono HB1.out.size))
    have HZ2 := Lib.hid (show r ≤ w2.heap.size from by rw [← HR.out]; exact Nat.le_trans HB1.out.size b2.size)
    clear b2 HL HB1 HAL
    go_wp2_with fail
    go_loopw [5, 6] (fun v5 v6 wr => ∃ (i : Nat) (mss : List Ls) (os : Option Addr) (cs : Nat), v5 = .slice os i cs ∧ v6 = .int .i64 (i : Nat) ∧ i ≤ n ∧ mss.length = i ∧ Hid (wr.ownsRow r 25 1 (.slice os i cs) i (mss.map slV)) ∧ Hid (lsx mss = (lsx ms).take i) ∧ Hid (∀ m ∈ mss, LtS wr r (.slice os i cs) m) ∧ Hid (Below r w wr ∧ r ≤ wr.heap.size)) (fun _ v6 _ => n - (Go.RowKit.intOf v6).toNat)
    case atStart => exact ⟨0, [], none, 0, rfl, rfl, Nat.zero_le _, rfl, Lib.hid (World.ownsRow_nil _ _ _ _), rfl, Lib.hid (fun m hm => (by cases hm)), HB2.out, HZ2.out⟩
    case round =>
      obtain ⟨i, mss, os, cs, rfl, rfl, hin, hml, HO, HX, HI, HB⟩ := hrel
      have i0' : (0 : Int) ≤ i := by omega
      by_cases hlt : i < n
      · obtain ⟨m, hm⟩ := get_ltG HN.out hlt
        obtain ⟨b, off, rfl, hlow, hcs⟩ : ∃ b off, o = some ⟨b, off, none⟩ ∧ b < w.heap.size ∧ ∀ (j : Nat) (m : Ls), ms[j]? = some m → w.cell? ⟨b, off + j, none⟩ = some (.slice m.o m.xs.length m.c) ∧ LsS w B m := by
          rcases HS.out with h | h
          · have := HN.out; rw [h] at this; simp at this; omega
          · exact h
        obtain ⟨hc, hLm⟩ := hcs i m hm
        rw [HR.out] at hlow
        rw [← HB.out.1.cell (p := ⟨b, off + i, none⟩) hlow] at hc
        have hmr := HLI.out.each m (List.mem_of_getElem? hm)
        have hBw : Below w.heap.size w wr := by rw [HR.out]; exact HB.out.1
        have HLR := Lib.hid (lentR2_any m.o m.xs.length m.c m.xs r wr HB.out.2 rfl (by have := hmr.1; omega) hmr.2 (RowsS.mono (hLm.below hBw).rows hB))
        have HLX := Lib.hid (show (lsx ms)[i]? = some m.xs by unfold lsx; rw [List.getElem?_map, hm]; rfl)
        have hxn : m.xs.length ≤ 60 := hmr.1
        have i2 : (i : Int) < n := by omega
        have wk : IntKind.i64.wrap ((i : Int) + 1) = ((i + 1 : Nat) : Int) := by rw [IntKind.wrap_i64]; omega
        obtain ⟨mo, hmo⟩ : ∃ mo, m.o = mo := ⟨_, rfl⟩
        obtain ⟨mn, hmn⟩ : ∃ mn, m.xs.length = mn := ⟨_, rfl⟩
        obtain ⟨mc, hmc⟩ : ∃ mc, m.c = mc := ⟨_, rfl⟩
        rw [hmo, hmn, hmc] at hc HLR
        have HMN := Lib.hid hmn
        rw [hmn] at hxn
        clear hcs hm hLm hmr hmo hmn hmc hBw
        go_wp2_with fail
        refine HLR.out.mono ?_
        rintro e w3 ⟨⟨gl, cl, rfl, hgl, hL⟩, b3⟩
        have HNS := Lib.hid (show LtS w3 r (.slice os i cs) ⟨some ⟨gl, 0, none⟩, cl, m.xs⟩ from ⟨⟨gl, rfl, hL, fun e => by have := (HO.out.lt gl e).2; omega⟩, by rw [HMN.out]; exact hxn⟩)
        have HI3 := Lib.hid (fun m hm => (HI.out m hm).below b3)
        have HB3 := Lib.hid (HB.out.1.trans (b3.mono HB.out.2))
        have hz3 : r ≤ w3.heap.size := Nat.le_trans HB.out.2 b3.size
        have HO3 := Lib.hid (own_grown HO.out b3)
        have HXN := Lib.hid (show lsx (mss ++ [⟨some ⟨gl, 0, none⟩, cl, m.xs⟩]) = (lsx ms).take (i + 1) by
          rw [take_atG HLX.out, ← HX.out]; unfold lsx; rw [List.map_append]; rfl)
        have HVN := Lib.hid (show mss.map slV ++ [.slice (some ⟨gl, 0, none⟩) mn cl] = (mss ++ [(⟨some ⟨gl, 0, none⟩, cl, m.xs⟩ : Ls)]).map slV by
          rw [List.map_append, ← HMN.out]; rfl)
        have HML := Lib.hid (show (mss ++ [(⟨some ⟨gl, 0, none⟩, cl, m.xs⟩ : Ls)]).length = i + 1 by rw [List.length_append, hml]; rfl)
        clear hL b3 hc HLR HO HI hml HX
        go_wp2_with (first | (at_builtin; go_must (refine wpList_append_lies _ rfl _ _ 22 rfl r 25 i1 (.slice none 0 0) 1 24 Tryz.underlying22 hi1 hy0 hy1 hy2 rfl (by decide) _ _ _ rfl (HO3.out.alloc _) ⟨w3.heap.size, 0, none⟩ 1 1 [.slice (some ⟨gl, 0, none⟩) mn cl] rfl rfl (cell_one _ _ _) (by intro u hu; simp at hu; subst hu; rfl) (by decide) (by unfold maxLen; omega) (by omega) (by simp; omega) _ rfl ?_); intro g8 c8 w4 ho4 hg4 hl4 hz4; obtain ⟨p4, p5⟩ := push_low hz3 HO3.out hg4; have HO4 := Lib.hid ho4; have HI4 := Lib.hid (fun m hm => push_lent (c8 := c8) HO3.out hg4 hl4 (HI3.out m hm)); have HN4 := Lib.hid (push_lent (c8 := c8) HO3.out hg4 hl4 HNS.out); have HB4 := Lib.hid (HB3.out.trans p4); clear ho4 hg4 hl4 p4) | fail)
        go_roundw
        case measure => simp [Go.RowKit.intOf]; omega
        case rel =>
          refine ⟨i + 1, _, some ⟨g8, 0, none⟩, c8, rfl, by simp, by omega, HML.out, Lib.hid (by rw [← HVN.out]; exact HO4.out), HXN, Lib.hid (fun m hm => ?_), Lib.hid ⟨HB4.out, p5⟩⟩
          rcases List.mem_append.1 hm with hm | hm
          · exact HI4.out m hm
          · rw [List.mem_singleton.1 hm]; exact HN4.out
      · have hin2 : i = n := by omega
        subst hin2
        have i1 : (i : Int) ≤ i := by omega
        have hml' := hml
        have HLM : Hid (ListS wr r os mss) := Lib.hid (by
          rcases Nat.eq_zero_or_pos i with h0 | hp
          · exact .inl (List.eq_nil_of_length_eq_zero (by omega))
          · obtain ⟨g, cg, eg⟩ := row_pos HO.out hp
            cases eg
            have h := lists_part HO.out (fun m hm => (HI.out m hm).ls) 0 i
            rw [List.drop_zero, List.take_of_length_le (by omega)] at h
            exact h)
        have HLX := Lib.hid (show lsx mss = lsx ms by rw [HX.out, List.take_of_length_le (by unfold lsx; rw [List.length_map, HN.out]; exact Nat.le_refl _)])
        have HML := Lib.hid hml
        have hsum : (lsx ms).flatten.length ≤ 200 := HLI.out.sum
        obtain ⟨all, hall⟩ : ∃ all, mergeH by_ (lsx ms) = all := ⟨_, rfl⟩
        have HALL := Lib.hid hall
        obtain ⟨N, hN⟩ : ∃ N, all.length = N := ⟨_, rfl⟩
        have hN200 : N ≤ 200 := by rw [← hN, ← hall, show mergeH by_ (lsx ms) = mergeN (lessR by_) (lsx ms).flatten.length (lsx ms) from rfl, mergeN_len (swo_less by_) _ _ (Nat.le_refl _)]; exact hsum
        have HNN := Lib.hid hN
        have hsmM : ∀ m ∈ mss, SmR m.xs := fun m hm => by
          have h1 : m.xs ∈ lsx ms := by rw [← HLX.out]; exact List.mem_map_of_mem hm
          obtain ⟨m2, hm2, e⟩ := List.mem_map.1 h1
          rw [← e]
          exact (HLI.out.each m2 hm2).2
        have hsmA : SmR (all.map (·.2)) := fun x hx => by
          obtain ⟨p, hp, rfl⟩ := List.mem_map.1 hx
          exact merge_sm (fun m hm => (HLI.out.each m hm).2) p (by rw [hall]; exact hp)
        have HSMA := Lib.hid hsmA
        have HROWS := Lib.hid (fun (W : World) (hb : Below wr.heap.size wr W) => rows_list by_ os i cs r mss W HML.out (by omega) (HLM.out.below hb) hsmM (by rw [HLX.out, hall, hN]; omega))
        have HHEADS := Lib.hid (fun (W : World) (hb : Below wr.heap.size wr W) => heads_list by_ os i cs r mss W HML.out (by omega) (HLM.out.below hb) (by rw [HLX.out, hall, hN]; omega))
        rw [HLX.out, hall] at HROWS HHEADS
        rw [hN] at HHEADS
        have HSUM := Lib.hid hsum
        obtain ⟨wo, hwo⟩ : ∃ wo : World, wr = wo := ⟨_, rfl⟩
        subst wr
        have HBS := Lib.hid (BkM.bkt_start wo)
        obtain ⟨bk, hbk⟩ : ∃ bk, wo.heap.size = bk := ⟨_, rfl⟩
        have HBK := Lib.hid hbk
        rw [hbk] at HBS HROWS HHEADS
        clear hml hml' hsum hall hN hsmM hsmA
        go_wp2_with fail
        obtain ⟨w0, hw0⟩ : ∃ w0, (wo.alloc (Obj.cells #[.slice none 0 0, .slice none 0 0, .slice none 0 0, .slice none 0 0, .slice none 0 0, .slice none 0 0, .slice none 0 0, .slice none 0 0, .slice none 0 0, .slice none 0 0, .slice none 0 0, .slice none 0 0, .slice none 0 0, .slice none 0 0, .slice none 0 0, .slice none 0 0, .slice none 0 0, .slice none 0 0, .slice none 0 0, .slice none 0 0] 38)) = w0 := ⟨_, rfl⟩
        have HZ0 := Lib.hid (show bk ≤ w0.heap.size from by rw [← hw0, World.size_alloc]; omega)
        have HB0 := Lib.hid (show Below bk wo w0 from by rw [← hw0]; exact (Below.refl _ _).alloc (by omega) _)
        rw [hw0] at HBS ⊢
        have hrb : r ≤ bk := by rw [← hbk]; exact HB.out.2
        clear hw0 hbk
        go_loopw [8, 9, 10] (fun v8 _ _ wr => ∃ k : Nat, v8 = .int .i64 (k : Nat) ∧ k ≤ 2 ∧ Hid (∃ s, BkM.BkT bk s wr k k ∧ bk ≤ s ∧ s ≤ wr.heap.size) ∧ Hid (Below bk wo wr ∧ bk ≤ wr.heap.size)) (fun v8 _ _ _ => 2 - (Go.RowKit.intOf v8).toNat)
        case atStart => exact ⟨0, rfl, by omega, Lib.hid ⟨bk, HBS.out, Nat.le_refl _, HZ0.out⟩, Lib.hid ⟨HB0.out, HZ0.out⟩⟩
        case round =>
          obtain ⟨k, rfl, hk2, HBk, HBw⟩ := hrel
          have k0 : (0 : Int) ≤ k := by omega
          by_cases hk : k < 2
          · have k1 : (k : Int) < 2 := by omega
            have wk : IntKind.i64.wrap ((k : Int) + 1) = ((k + 1 : Nat) : Int) := by rw [IntKind.wrap_i64]; omega
            have HR1 := Lib.hid (HROWS.out wr HBw.out.1)
            go_wp2_with fail
            refine HR1.out.mono ?_
            rintro e w5 ⟨⟨va, us, rfl, hoa⟩, b5⟩
            have hB5 : Below bk wo w5 := HBw.out.1.trans (b5.mono HBw.out.2)
            have HR2 := Lib.hid (HHEADS.out w5 hB5)
            have hZ5 : wr.heap.size ≤ w5.heap.size := b5.size
            have HLA := Lib.hid (ListR.of (B := bk) (Nat.zero_le _) hoa)
            have HBk5 := Lib.hid (show ∃ s, BkM.BkT bk s w5 k k ∧ bk ≤ s ∧ s ≤ wr.heap.size from by
              obtain ⟨s, h1, h2, h3⟩ := HBk.out
              exact ⟨s, h1.below b5, h2, h3⟩)
            have HB5 := Lib.hid hB5
            clear hoa b5 hB5 HBk
            go_wp2_with fail
            refine HR2.out.mono ?_
            rintro e w6 ⟨⟨vb, rfl, hob⟩, b6⟩
            have hz5 : bk ≤ w5.heap.size := Nat.le_trans HBw.out.2 hZ5
            have hZ6 := b6.size
            have HOB := Lib.hid hob
            have HLA6 := Lib.hid (HLA.out.below b6)
            have HLTA := Lib.hid HLA.out.lt
            have HB6 := Lib.hid (HB5.out.trans (b6.mono hz5))
            have HKR := Lib.hid (show Calls Tryz.prog 9 #[.pointer (some ⟨bk, 0, none⟩), va] w6 fun e w' => e = .returned (.tuple #[]) ∧ BkM.BkT bk w5.heap.size w' (k + 1) k ∧ Below bk w6 w' ∧ (∀ (t : Nat) (y : Value) (z : List Rw), bk ≤ t → ListR bk t w6 y z → ListR bk bk w' y z) ∧ ∀ (t n : Nat) (y : Value) (ys : List Value), bk ≤ t → w6.ownsRow t 3 1 y n ys → w'.ownsRow bk 3 1 y n ys from by
              obtain ⟨s, h1, h2, h3⟩ := HBk5.out
              exact BkM.keep_r (h1.below b6) (by omega) h2 (HLA6.out.raise (fun b e => Nat.le_trans h3 (HLTA.out b e).1)) (by rw [List.length_map, HNN.out]; omega) HSMA.out (by omega) (by omega) (fun b e => (HLTA.out b e).2))
            clear hob b6 HBk5 HLA
            go_wp2_with fail
            refine HKR.out.mono ?_
            rintro e w7 ⟨rfl, hbt, b7, hf, hg⟩
            have hz7 : bk ≤ w7.heap.size := Nat.le_trans (by omega) b7.size
            have HLA7 := Lib.hid (hf _ _ _ HBw.out.2 HLA6.out)
            have hob7 := hg _ _ _ _ hz5 HOB.out
            have HOB7 := Lib.hid (show w7.ownsRow w5.heap.size 3 1 vb N (all.map fun p => .int .i64 (p.1 : Nat)) from ⟨hob7.1, hob7.2.imp id fun ⟨g, cap, cur, e1, e2, e3⟩ => ⟨g, cap, cur, e1, (HOB.out.lt g (by rw [e1]; rfl)).1, e3⟩⟩)
            have HLTB := Lib.hid HOB.out.lt
            have HB7 := Lib.hid (HB6.out.trans b7)
            have HKI := Lib.hid (BkM.keep_i (s2 := w6.heap.size) (xs := all.map fun p => ((p.1 : Nat) : Int)) hbt hz7 hz5 (by rw [ints_flat, List.length_map, HNN.out]; exact HOB7.out) (by rw [List.length_map, HNN.out]; omega) (by omega) hZ6 (fun b e => (HLTB.out b e).2))
            have hZ7 : w6.heap.size ≤ w7.heap.size := b7.size
            clear hbt b7 hf hg hob7 HKR HLA6
            go_wp2_with fail
            refine HKI.out.mono ?_
            rintro e w8 ⟨rfl, hbt, b8, hf, hg⟩
            have HLA8 := Lib.hid (hf _ _ _ (Nat.le_refl _) HLA7.out)
            have HOB8 := Lib.hid (hg _ _ _ _ hz5 HOB7.out)
            have HBT := Lib.hid hbt
            have HB8 := Lib.hid (HB7.out.trans b8)
            have hZ8 : w7.heap.size ≤ w8.heap.size := b8.size
            obtain ⟨oa, ca, rfl, hsa⟩ := HLA8.out.sees
            have HSA := Lib.hid hsa
            have hal : (all.map (·.2)).length = N := by rw [List.length_map, HNN.out]
            rw [hal]
            have HAL := Lib.hid hal
            clear hbt b8 hf hg HKI HLA7 HOB7 hsa HLA8 hal
            have hz8 : bk ≤ w8.heap.size := Nat.le_trans hz7 hZ8
            have HL8 := Lib.hid (HS.out.below (show Below w.heap.size w w8 from by rw [HR.out]; exact HB.out.1.trans (HB8.out.mono (by have := HB.out.2; omega))))
            have HDM := Lib.hid (dmerge_any by_ o i c B ms w8 (by omega) HN.out hn20 HL8.out HSUM.out)
            rw [show mergeN (lessR by_) (lsx ms).flatten.length (lsx ms) = all from HALL.out] at HDM
            go_wp2_with fail
            refine HDM.out.mono ?_
            rintro e w9 ⟨⟨v9, us9, rfl, ho9⟩, b9⟩
            obtain ⟨o9, c9, rfl, hs9, _⟩ := ho9.sees frow
            have h1 := sameRows_any oa o9 ca c9 (all.map (·.2)) (all.map (·.2)) w9 (by rw [HAL.out]; unfold maxLen; omega) (by rw [HAL.out]; unfold maxLen; omega) (max bk B) (RowsS.mono (HSA.out.below frow b9) (Nat.le_max_left _ _)) (RowsS.mono hs9 (Nat.le_max_right _ _))
            rw [HAL.out, (sameR_iff _ _).2 rfl] at h1
            rw [HAL.out]
            have HSR := Lib.hid h1
            have HBT9 := Lib.hid (HBT.out.below b9)
            have HOB9 := Lib.hid (BkI.own_grown HOB8.out b9)
            have HB9 := Lib.hid (HB8.out.trans (b9.mono hz8))
            have hz9 : w8.heap.size ≤ w9.heap.size := b9.size
            clear HDM ho9 hs9 b9 h1 HBT HOB8 HSA HL8
            go_wp2_with fail
            refine HSR.out.mono ?_
            rintro e wA ⟨rfl, bA⟩
            have HBTA := Lib.hid (HBT9.out.below bA)
            have HOBA := Lib.hid (BkI.own_grown HOB9.out bA)
            have HBA := Lib.hid (HB9.out.trans (bA.mono (by omega)))
            have hzA : w9.heap.size ≤ wA.heap.size := bA.size
            have HLA := Lib.hid (HS.out.below (show Below w.heap.size w wA from by rw [HR.out]; exact HB.out.1.trans (HBA.out.mono (by have := HB.out.2; omega))))
            have HDH := Lib.hid (dheads_any by_ o i c B ms wA HN.out hn20 HLA.out HSUM.out)
            rw [show mergeN (lessR by_) (lsx ms).flatten.length (lsx ms) = all from HALL.out, HNN.out] at HDH
            clear bA HSR HBT9 HOB9
            go_wp2_with fail
            refine HDH.out.mono ?_
            rintro e wB ⟨⟨vh, rfl, hoh⟩, bB⟩
            have HBTB := Lib.hid (HBTA.out.below bB)
            have HOBB := Lib.hid (BkI.own_grown HOBA.out bB)
            have HBB := Lib.hid (HBA.out.trans (bB.mono (by omega)))
            have hzB : wA.heap.size ≤ wB.heap.size := bB.size
            have HSI := Lib.hid (BkI.sameRunes_any vb vh bk wA.heap.size (all.map fun p => ((p.1 : Nat) : Int)) (by rw [List.length_map, HNN.out]; omega) wB (by rw [ints_flat, List.length_map, HNN.out]; exact HOBB.out) (by rw [ints_flat, List.length_map, HNN.out]; exact hoh))
            clear hoh bB HDH HBTA HOBA HLA
            go_wp2_with fail
            refine HSI.out.mono ?_
            rintro e wC ⟨rfl, mC, hC⟩
            have hbC : Below wB.heap.size wB wC := quietB ⟨mC, hC⟩
            have hzC : wB.heap.size ≤ wC.heap.size := hbC.size
            have HBTC := Lib.hid (HBTB.out.below hbC)
            have HBC := Lib.hid (HBB.out.trans (hbC.mono (by omega)))
            clear hC hbC HSI HBTB HOBB
            go_wp2
            go_roundw
            case measure => simp [Go.RowKit.intOf]; omega
            case rel => exact ⟨k + 1, by simp, by omega, Lib.hid ⟨_, HBTC.out, by omega, by omega⟩, Lib.hid ⟨HBC.out, by omega⟩⟩
          · have hk3 : k = 2 := by omega
            have k1 : (2 : Int) ≤ k := by omega
            clear hk3
            obtain ⟨wp, hwp⟩ : ∃ wp : World, wr = wp := ⟨_, rfl⟩
            subst wr
            clear HROWS HHEADS HBS HB0 HZ0
            go_wp2_with fail
            go_loopw [11, 12, 13] (fun v11 _ _ wr => ∃ x : Nat, v11 = .int .i64 (x : Nat) ∧ x ≤ i ∧ Hid (Below wp.heap.size wp wr)) (fun v11 _ _ _ => i - (Go.RowKit.intOf v11).toNat)
            case atStart => exact ⟨0, rfl, Nat.zero_le _, Below.refl _ _⟩
            case round =>
              obtain ⟨x, rfl, hxi, HBp⟩ := hrel
              have x0' : (0 : Int) ≤ x := by omega
              by_cases hx : x < i
              · have x1 : (x : Int) < i := by omega
                obtain ⟨m, hm⟩ := get_ltG HN.out hx
                obtain ⟨m2, hm2⟩ := get_ltG HML.out hx
                obtain ⟨g, cg, eg⟩ := row_pos HO.out (by omega)
                cases eg
                have hgw := (HO.out.lt g rfl)
                have hc2 := row_cell HO.out (i := x) (u := slV m2) (by rw [List.getElem?_map, hm2]; rfl)
                obtain ⟨⟨g2, e2, hLt, _⟩, hn60⟩ := HI.out m2 (List.mem_of_getElem? hm2)
                have hxs : m2.xs = m.xs := by
                  have h1 : (lsx mss)[x]? = (lsx ms)[x]? := by rw [HLX.out]
                  unfold lsx at h1
                  rw [List.getElem?_map, List.getElem?_map, hm, hm2] at h1
                  exact Option.some.inj h1
                obtain ⟨b, off, rfl, hlow, hcs⟩ : ∃ b off, o = some ⟨b, off, none⟩ ∧ b < w.heap.size ∧ ∀ (j : Nat) (m : Ls), ms[j]? = some m → w.cell? ⟨b, off + j, none⟩ = some (.slice m.o m.xs.length m.c) ∧ LsS w B m := by
                  rcases HS.out with h | h
                  · have := HN.out; rw [h] at this; simp at this; omega
                  · exact h
                obtain ⟨hc, hLm⟩ := hcs x m hm
                rw [HR.out] at hlow
                unfold slV at hc2
                rw [e2, hxs] at hc2
                rw [hxs] at hLt hn60
                have HWo := Lib.hid (show Below bk wo wr from HBw.out.1.trans (HBp.out.mono HBw.out.2))
                have HWw := Lib.hid (show Below r w wr from HB.out.1.trans (HWo.out.mono hrb))
                have hWo' : Below wo.heap.size wo wr := by rw [HBK.out]; exact HWo.out
                rw [← hWo'.cell (p := ⟨g, x, none⟩) hgw.2] at hc2
                rw [← HWw.out.cell (p := ⟨b, off + x, none⟩) hlow] at hc
                have HLt := Lib.hid (hLt.below hWo')
                have HLm := Lib.hid (hLm.below (show Below w.heap.size w wr by rw [HR.out]; exact HWw.out))
                have hwz : bk ≤ wr.heap.size := Nat.le_trans HBw.out.2 HBp.out.size
                have hgz : g < wr.heap.size := Nat.lt_of_lt_of_le hgw.2 hWo'.size
                obtain ⟨mo, hmo⟩ : ∃ mo, m.o = mo := ⟨_, rfl⟩
                obtain ⟨mn, hmn⟩ : ∃ mn, m.xs.length = mn := ⟨_, rfl⟩
                obtain ⟨mc, hmc⟩ : ∃ mc, m.c = mc := ⟨_, rfl⟩
                obtain ⟨lc, hlc⟩ : ∃ lc, m2.c = lc := ⟨_, rfl⟩
                rw [hmo, hmn, hmc] at hc
                rw [hmn, hlc] at hc2
                rw [hlc] at HLt
                rw [hmn] at hn60
                have HMN := Lib.hid hmn
                have HMO := Lib.hid hmo
                have wkx : IntKind.i64.wrap ((x : Int) + 1) = ((x + 1 : Nat) : Int) := by rw [IntKind.wrap_i64]; omega
                obtain ⟨wx, hwx⟩ : ∃ wx : World, wr = wx := ⟨_, rfl⟩
                subst wr
                have HC := Lib.hid hc
                have HC2 := Lib.hid hc2
                clear hcs hm hm2 hLt hLm hxs hmo hmn hmc hlc hWo' hc hc2 e2
                go_wp2_with fail
                go_loopw [12, 13] (fun v12 v13 wr => ∃ k : Nat, v13 = .int .i64 ((k : Int) + 1) ∧ (k = 0 ∨ k + 1 ≤ mn) ∧ v12 = .bool (inO by_ (m.xs.take (k + 1))) ∧ Hid (Below wx.heap.size wx wr)) (fun _ v13 _ => mn + 1 - (Go.RowKit.intOf v13).toNat)
                case atStart => exact ⟨0, rfl, .inl rfl, by cases m.xs <;> rfl, Below.refl _ _⟩
                case round =>
                  obtain ⟨k, rfl, hk, rfl, HBx⟩ := hrel
                  have hc := (HBx.out.cell (p := ⟨b, off + x, none⟩) (show b < _ by omega)).trans HC.out
                  have j3 : (0 : Int) ≤ (k : Int) := by omega
                  have j6 : (0 : Int) ≤ (k : Int) + 1 := by omega
                  have j7 : ((k : Int) + 1).toNat = k + 1 := by omega
                  by_cases hkn : k + 1 < mn
                  · have j1 : (k : Int) + 1 < mn := by omega
                    have j2 : (k : Int) < mn := by omega
                    obtain ⟨xa, hxa⟩ := get_ltG HMN.out (show k < mn by omega)
                    obtain ⟨ya, hya⟩ := get_ltG HMN.out hkn
                    have hsn := inO_snoc by_ m.xs k xa ya hxa hya
                    have wk2 : IntKind.i64.wrap ((k : Int) + 1 + 1) = (k : Int) + 1 + 1 := by rw [IntKind.wrap_i64]; omega
                    have wk : IntKind.i64.wrap (k : Int) = k := by rw [IntKind.wrap_i64]; omega
                    cases hbq : inO by_ (m.xs.take (k + 1)) with
                    | false =>
                      rw [hbq] at hsn
                      have HSN := Lib.hid hsn
                      clear hsn hbq hxa hya
                      go_wp2_with fail
                      go_quiet (fail)
                      go_wp2
                      go_roundw
                      case measure => simp [Go.RowKit.intOf]; omega
                      case rel => exact ⟨k + 1, by go_num, .inr (by omega), by rw [HSN.out]; rfl, HBx.out.trans ((quietB ⟨_, rfl⟩).mono HBx.out.size)⟩
                    | true =>
                      rw [hbq] at hsn
                      have HSN := Lib.hid hsn
                      obtain ⟨b1, f1, oL, cL, e1, hb1, r1, r2, hL, lL⟩ := row_head (HLm.out.below HBx.out) hxa
                      obtain ⟨b2, f2, oM, cM, e2, _, r3, r4, hM, lM⟩ := row_head (HLm.out.below HBx.out) hya
                      rw [e1] at e2
                      cases e2
                      rw [HMO.out] at e1
                      subst e1
                      obtain ⟨cc, hcc⟩ : ∃ cc, lessR by_ ya xa = cc := ⟨_, rfl⟩
                      obtain ⟨nL, hnL⟩ : ∃ nL, xa.1.length = nL := ⟨_, rfl⟩
                      obtain ⟨nM, hnM⟩ : ∃ nM, ya.1.length = nM := ⟨_, rfl⟩
                      obtain ⟨vx, hvx⟩ : ∃ vx, xa.2 = vx := ⟨_, rfl⟩
                      obtain ⟨vy, hvy⟩ : ∃ vy, ya.2 = vy := ⟨_, rfl⟩
                      rw [hcc] at HSN
                      rw [hnL] at r1
                      rw [hnM] at r3
                      rw [hvx] at r2
                      rw [hvy] at r4
                      have hbz : b < wr.heap.size := by have := HBx.out.size; omega
                      have HCL := Lib.hid (fun W (hb : Hid (Below wr.heap.size wr W)) => (rless_any by_ oM oL nM cM nL cL ya xa W hnM hnL lM lL (hM.below hb.out) (hL.below hb.out)).mono (fun e w' q => show e = .returned (.bool cc) ∧ (w'.cell? ⟨b, off + x, none⟩ = some (.slice (some ⟨b1, f1, none⟩) mn mc) ∧ w'.cell? ⟨b1, f1 + k * 2, none⟩ = some (.slice oL nL cL) ∧ w'.cell? ⟨b1, f1 + k * 2 + 1, none⟩ = some (.int .i64 vx) ∧ w'.cell? ⟨b1, f1 + (k + 1) * 2, none⟩ = some (.slice oM nM cM) ∧ w'.cell? ⟨b1, f1 + (k + 1) * 2 + 1, none⟩ = some (.int .i64 vy)) ∧ Hid (Below wr.heap.size wr w') from
                        have h2 := hb.out.trans (q.2.mono hb.out.size)
                        ⟨by rw [q.1, hcc], ⟨(h2.cell (p := ⟨b, _, none⟩) hbz).trans hc, (h2.cell (p := ⟨b1, _, none⟩) hb1).trans r1, (h2.cell (p := ⟨b1, _, none⟩) hb1).trans r2, (h2.cell (p := ⟨b1, _, none⟩) hb1).trans r3, (h2.cell (p := ⟨b1, _, none⟩) hb1).trans r4⟩, h2⟩))
                      rw [hvx, hvy] at HCL
                      have rb := Lib.hid (Below.refl wr.heap.size wr).drew
                      clear hsn hbq hxa hya hL lL hM lM hcc hnL hnM hvx hvy
                      go_wp2_with fail
                      go_region_held3 (fun w' => w'.cell? ⟨b, off + x, none⟩ = some (.slice (some ⟨b1, f1, none⟩) mn mc) ∧ w'.cell? ⟨b1, f1 + k * 2, none⟩ = some (.slice oL nL cL) ∧ w'.cell? ⟨b1, f1 + k * 2 + 1, none⟩ = some (.int .i64 vx) ∧ w'.cell? ⟨b1, f1 + (k + 1) * 2, none⟩ = some (.slice oM nM cM) ∧ w'.cell? ⟨b1, f1 + (k + 1) * 2 + 1, none⟩ = some (.int .i64 vy)) (first | exact ⟨s1, s2, s3, s4, s5⟩ | exact ⟨hc, r1, r2, r3, r4⟩) (first | (go_at_call 15; go_fit (HCL.out _ rb); rintro e wq ⟨rfl, ⟨s1, s2, s3, s4, s5⟩, sb⟩; dsimp only))
                      have HBq := Lib.hid (HBx.out.trans (sb.out.mono HBx.out.size))
                      clear HCL r1 r2 r3 r4 s1 s2 s3 s4 s5 rb sb hc
                      cases cc with
                      | true =>
                        go_wp2
                        go_roundw
                        case measure => simp [Go.RowKit.intOf]; omega
                        case rel => exact ⟨k + 1, by go_num, .inr (by omega), by rw [HSN.out]; rfl, HBq⟩
                      | false =>
                        go_wp2
                        go_roundw
                        case measure => simp [Go.RowKit.intOf]; omega
                        case rel => exact ⟨k + 1, by go_num, .inr (by omega), by rw [HSN.out]; rfl, HBq⟩
                  · have j1 : (mn : Int) ≤ (k : Int) + 1 := by omega
                    have hc2 := (HBx.out.cell (p := ⟨g, x, none⟩) hgz).trans HC2.out
                    rw [List.take_of_length_le (by rw [HMN.out]; omega)]
                    obtain ⟨bq, hbq⟩ : ∃ bq, inO by_ m.xs = bq := ⟨_, rfl⟩
                    have hbz : b < wr.heap.size := by have := HBx.out.size; omega
                    have hgz2 : g < wr.heap.size := Nat.lt_of_lt_of_le hgz HBx.out.size
                    have HIN := Lib.hid (fun W (hb : Hid (Below wr.heap.size wr W)) => (inO_any by_ (some ⟨g2, 0, none⟩) mn lc r m.xs W HMN.out (by omega) ((HLt.out.below HBx.out).below hb.out).rows).mono (fun e w' q => show e = .returned (.bool bq) ∧ (w'.cell? ⟨g, x, none⟩ = some (.slice (some ⟨g2, 0, none⟩) mn lc) ∧ w'.cell? ⟨b, off + x, none⟩ = some (.slice mo mn mc)) ∧ Hid (Below wr.heap.size wr w') from
                      have h2 := hb.out.trans (q.2.mono hb.out.size)
                      ⟨by rw [q.1, hbq], ⟨(h2.cell (p := ⟨g, _, none⟩) hgz2).trans hc2, (h2.cell (p := ⟨b, _, none⟩) hbz).trans hc⟩, h2⟩))
                    have HST := Lib.hid (fun W (hb : Hid (Below wr.heap.size wr W)) => (staysR_any g2 lc mo mn mc m.xs r W HMN.out (by omega) ((HLt.out.below HBx.out).below hb.out) (by rw [← HMO.out]; exact RowsS.mono ((HLm.out.below HBx.out).below hb.out).rows hB)).mono (fun e w' q => show e = .returned (.bool true) ∧ (w'.cell? ⟨g, x, none⟩ = some (.slice (some ⟨g2, 0, none⟩) mn lc) ∧ w'.cell? ⟨b, off + x, none⟩ = some (.slice mo mn mc)) ∧ Hid (Below wr.heap.size wr w') from
                      have h2 := hb.out.trans (q.2.mono hb.out.size)
                      ⟨q.1, ⟨(h2.cell (p := ⟨g, _, none⟩) hgz2).trans hc2, (h2.cell (p := ⟨b, _, none⟩) hbz).trans hc⟩, h2⟩))
                    have rb := Lib.hid (Below.refl wr.heap.size wr).drew
                    rw [hbq]
                    clear hbq
                    go_wp2_with fail
                    cases bq
                    all_goals
                      go_region_held3 (fun w' => w'.cell? ⟨g, x, none⟩ = some (.slice (some ⟨g2, 0, none⟩) mn lc) ∧ w'.cell? ⟨b, off + x, none⟩ = some (.slice mo mn mc)) (first | exact ⟨t1, t2⟩ | exact ⟨s1, s2⟩ | exact ⟨hc2, hc⟩) (first | (go_at_call 16; go_fit (HIN.out _ rb); rintro e wq ⟨rfl, ⟨s1, s2⟩, sb⟩; dsimp only) | (go_at_call 17; go_fit (HST.out _ sb); rintro e wv ⟨rfl, ⟨t1, t2⟩, tb⟩; dsimp only))
                      have HBq := Lib.hid (HBp.out.trans ((HBx.out.trans (tb.out.mono HBx.out.size)).mono HBp.out.size))
                      clear HIN HST rb s1 s2 sb t1 t2 tb hc hc2
                      go_wp2
                      go_roundw
                      case measure => simp [Go.RowKit.intOf]; omega
                      case rel => exact ⟨x + 1, by go_num, by omega, HBq⟩
              · have hx3 : x = i := by omega
                have x1 : (i : Int) ≤ x := by omega
                have HAP := Lib.hid (show Calls Tryz.prog 18 #[.pointer (some ⟨bk, 0, none⟩)] wr fun e w' => e = .returned (.bool true) ∧ Below bk wo w' from by
                  obtain ⟨s, h1, h2, h3⟩ := HBk.out
                  exact BkM.bkt_apart (h1.below HBp.out) (HBw.out.1.trans (HBp.out.mono HBw.out.2)) (by rw [HBK.out]; exact Nat.le_refl _))
                clear HBp HBk
                go_wp2_with fail
                refine HAP.out.mono ?_
                rintro e w9 ⟨rfl, b9⟩
                have HB9 := Lib.hid b9
                clear b9 HAP
                go_wp2
                go_ret
                exact ⟨rfl, by rw [HR.out]; exact HB.out.1.trans (HB9.out.mono hrb)⟩
end Go.Proofs.YtlnlbahggbbaeaaGreat.Mrg
