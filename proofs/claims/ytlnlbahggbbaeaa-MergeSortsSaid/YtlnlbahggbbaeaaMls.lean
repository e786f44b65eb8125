/- The law: lists in order, put together however, are all their rows in order. -/
import Derived.Test.YtlnlbahggbbaeaaMlt
namespace Go.Proofs.Ytlnlbahggbbaeaa.Mrg
open Go.RowKit Go.Lib Go.Proofs.Ytlnlbahggbbaeaa Go.Proofs.Ytlnlbahggbbaeaa.Vec Go.Proofs.Ytlnlbahggbbaeaa.Stb

set_option maxHeartbeats 16000000 in
set_option maxRecDepth 100000 in
theorem sorts_any (by_ cut : Int) (o : Option Addr) (n c B : Nat) (ms : List Ls) (w : World) (hB : B ≤ w.heap.size) (hn : ms.length = n) (hS : ListG w B o ms) :
    Calls Try.prog 3 #[.int .i64 by_, .slice o n c, .int .i64 cut] w fun e w' => e = .returned (.bool true) ∧ Below w.heap.size w w' := by
  obtain ⟨i0, hi, hz0, hz1, hz2⟩ := info_parts infoRow
  obtain ⟨i1, hi1, hy0, hy1, hy2⟩ := info_parts infoRs
  have HAL := Lib.hid (fun W => alive_any W)
  have HL := Lib.hid (light_list o n c B ms w hn hS)
  cases hl : lightL ms with
  | false =>
    rw [hl] at HL
    clear hl hn hS hi hz0 hz1 hz2 hi1 hy0 hy1 hy2
    go_enter Try.func3, Try.ntmps3
    go_wp2_with fail
    refine HL.out.mono ?_
    rintro e w1 ⟨rfl, b1⟩
    have HB1 := Lib.hid b1
    clear b1
    go_wp2_with fail
    refine (HAL.out _).mono ?_
    rintro e w2 ⟨rfl, b2⟩
    have HB2 := Lib.hid (HB1.out.trans (b2.mono HB1.out.size))
    clear b2
    go_wp2
    go_ret
    exact ⟨rfl, HB2.out⟩
  | true =>
    rw [hl] at HL
    have hli := lightL_mk hl
    have hLS := hS.light hli
    have hn20 : n ≤ 20 := by rw [← hn]; exact hli.len
    have HN := Lib.hid hn
    have HLI := Lib.hid hli
    have HS := Lib.hid hLS
    have HF := Lib.hid (fun i => (show ((lsx ms).take i).flatten.length ≤ 200 from by
      have h1 := hli.sum
      rw [← List.take_append_drop i (lsx ms), List.flatten_append, List.length_append] at h1; omega))
    clear hl hn hS hli hLS
    obtain ⟨r, hr⟩ : ∃ r, w.heap.size = r := ⟨_, rfl⟩
    have HR := Lib.hid hr
    rw [hr] at hB
    clear hr
    go_enter Try.func3, Try.ntmps3
    go_wp2_with fail
    refine HL.out.mono ?_
    rintro e w1 ⟨rfl, b1⟩
    have HB1 := Lib.hid b1
    clear b1
    go_wp2_with fail
    refine (HAL.out _).mono ?_
    rintro e w2 ⟨rfl, b2⟩
    have HB2 := Lib.hid (show Below r w w2 from by rw [← HR.out]; exact HB1.out.trans (b2.mono HB1.out.size))
    have HZ2 := Lib.hid (show r ≤ w2.heap.size from by rw [← HR.out]; exact Nat.le_trans HB1.out.size b2.size)
    clear b2 HL HB1 HAL
    go_wp2_with fail
    go_loopw [7, 8, 9] (fun v7 v8 v9 wr => ∃ (i na : Nat) (usA : List (List Value)) (mss : List Ls) (oa os : Option Addr) (ca cs : Nat), v7 = .slice oa na ca ∧ v8 = .slice os i cs ∧ v9 = .int .i64 (i : Nat) ∧ i ≤ n ∧ mss.length = i ∧ ((lsx ms).take i).flatten.length = na ∧
      Hid (OwnG (ERow B) 2 37 wr r (.slice oa na ca) usA ((lsx ms).take i).flatten) ∧ Hid (wr.ownsRow r 25 1 (.slice os i cs) i (mss.map slV)) ∧ Hid (lsx mss = ((lsx ms).take i).map (sortF by_)) ∧ Hid (∀ m ∈ mss, SoS wr B (.slice oa na ca) (.slice os i cs) m) ∧ Hid (Below r w wr ∧ r ≤ wr.heap.size)) (fun _ _ v9 _ => n - (Go.RowKit.intOf v9).toNat)
    case atStart => exact ⟨0, 0, [], [], none, none, 0, 0, rfl, rfl, rfl, Nat.zero_le _, rfl, rfl, Lib.hid (OwnG.nil _ _), Lib.hid (World.ownsRow_nil _ _ _ _), rfl, Lib.hid (fun m hm => (by cases hm)), HB2.out, HZ2.out⟩
    case round =>
      obtain ⟨i, na, usA, mss, oa, os, ca, cs, rfl, rfl, rfl, hin, hml, hfl, HA, HO, HX, HI, HB⟩ := hrel
      have i0' : (0 : Int) ≤ i := by omega
      have hna := HF.out i
      rw [hfl] at hna
      by_cases hlt : i < n
      · obtain ⟨m, hm⟩ := get_ltG HN.out hlt
        obtain ⟨b, off, rfl, hlow, hcs⟩ : ∃ b off, o = some ⟨b, off, none⟩ ∧ b < w.heap.size ∧ ∀ (j : Nat) (m : Ls), ms[j]? = some m → w.cell? ⟨b, off + j, none⟩ = some (.slice m.o m.xs.length m.c) ∧ LsS w B m := by
          rcases HS.out with h | h
          · have := HN.out; rw [h] at this; simp at this; omega
          · exact h
        obtain ⟨hc, hLm⟩ := hcs i m hm
        rw [HR.out] at hlow
        rw [← HB.out.1.cell (p := ⟨b, off + i, none⟩) hlow] at hc
        have hmr := HLI.out.each m (List.mem_of_getElem? hm)
        have hBw : Below w.heap.size w wr := by rw [HR.out]; exact HB.out.1
        have HSO := Lib.hid (sort_any by_ m.o m.xs.length m.c m.xs wr B (Nat.le_trans hB HB.out.2) rfl (by have := hmr.1; omega) (hLm.below hBw).rows)
        have HLX := Lib.hid (show (lsx ms)[i]? = some m.xs by unfold lsx; rw [List.getElem?_map, hm]; rfl)
        have HLm := Lib.hid hLm
        have HM := Lib.hid hmr
        have hxn : m.xs.length ≤ 60 := hmr.1
        obtain ⟨mo, hmo⟩ : ∃ mo, m.o = mo := ⟨_, rfl⟩
        obtain ⟨mn, hmn⟩ : ∃ mn, m.xs.length = mn := ⟨_, rfl⟩
        obtain ⟨mc, hmc⟩ : ∃ mc, m.c = mc := ⟨_, rfl⟩
        rw [hmo, hmn, hmc] at hc HSO
        rw [hmn] at hxn
        have HMO := Lib.hid (And.intro hmo (And.intro hmn hmc))
        have i2 : (i : Int) < n := by omega
        clear hcs hm hLm hmr hmo hmn hmc hBw
        go_wp2_with fail
        refine HSO.out.mono ?_
        rintro e w3 ⟨⟨v, us, rfl, ho⟩, b3⟩
        obtain ⟨o2, c2, rfl, hs2, _⟩ := ho.sees frow
        have hsl : (sortF by_ m.xs).length = mn := by rw [sort_len, HMO.out.2.1]
        have HNS := Lib.hid (SoS.fresh HA.out HO.out ho (by rw [hsl]; omega) hs2)
        rw [hsl]
        have HSL := Lib.hid hsl
        have HI3 := Lib.hid (fun m hm => (HI.out m hm).below b3)
        have HB3 := Lib.hid (HB.out.1.trans (b3.mono HB.out.2))
        have hz3 : r ≤ w3.heap.size := Nat.le_trans HB.out.2 b3.size
        have HA3 := Lib.hid (HA.out.below frow b3)
        have HO3 := Lib.hid (own_grown HO.out b3)
        have hul : usA.length = na := by rw [HA.out.len, hfl]
        have hna2 : na ≤ ca := by
          have h9 := HA.out.own
          rw [hul] at h9
          exact own_n h9
        have hc3 := (b3.cell (p := ⟨b, off + i, none⟩) (show b < _ by have := HB.out.2; omega)).trans hc
        have wk : IntKind.i64.wrap ((i : Int) + 1) = ((i + 1 : Nat) : Int) := by rw [IntKind.wrap_i64]; omega
        have HT := Lib.hid (take_atG HLX.out)
        have HXN := Lib.hid (show lsx (mss ++ [⟨o2, c2, sortF by_ m.xs⟩]) = ((lsx ms).take (i + 1)).map (sortF by_) by
          rw [take_atG HLX.out, List.map_append, ← HX.out]; unfold lsx; rw [List.map_append]; rfl)
        have HVN := Lib.hid (show mss.map slV ++ [.slice o2 mn c2] = (mss ++ [(⟨o2, c2, sortF by_ m.xs⟩ : Ls)]).map slV by
          rw [List.map_append, ← hsl]; rfl)
        have HML := Lib.hid (show (mss ++ [(⟨o2, c2, sortF by_ m.xs⟩ : Ls)]).length = i + 1 by rw [List.length_append, hml]; rfl)
        clear ho hs2 b3 hc HSO HA HO hsl HI hml HX
        rcases Nat.eq_zero_or_pos mn with h0 | hp
        · subst h0
          have HE := Lib.hid (show m.xs = [] from List.eq_nil_of_length_eq_zero HMO.out.2.1)
          go_wp2_with (first | (at_builtin; refine wpList_append_lies _ rfl _ _ 22 rfl r 25 i1 (.slice none 0 0) 1 24 Try.underlying22 hi1 hy0 hy1 hy2 rfl (by decide) _ _ _ rfl (HO3.out.alloc _) ⟨w3.heap.size, 0, none⟩ 1 1 [.slice o2 0 c2] rfl rfl (cell_one _ _ _) (by intro u hu; simp at hu; subst hu; rfl) (by decide) (by unfold maxLen; omega) (by omega) (by simp; omega) _ rfl ?_; intro g8 c8 w4 ho4 hg4 hl4 hz4; obtain ⟨p1, p2, p3, p4, p5⟩ := push_lists (c8 := c8) hB hz3 HO3.out HA3.out hg4 hl4 HI3.out HNS.out; have hc4 := (p1 ⟨b, off + i, none⟩ hlow).trans hc3; have HO4 := Lib.hid ho4; have HP2 := Lib.hid p2; have HP3 := Lib.hid p3; have HP4 := Lib.hid p4; clear ho4 hg4 hl4 hz4 p1 p2 p3 p4) | (at_builtin; go_must (refine wpList_append_empty rfl _ _ 25 rfl 37 i0 Try.underlying25 hi oa na ca rfl hna2 mo mc rfl ?_)) | fail)
          go_roundw
          case measure => simp [Go.RowKit.intOf]; omega
          case rel =>
            have e1 : ((lsx ms).take (i + 1)).flatten = ((lsx ms).take i).flatten := by rw [HT.out, List.flatten_append, HE.out]; simp
            exact ⟨i + 1, na, usA, _, oa, _, ca, c8, rfl, rfl, by simp, by omega, HML.out, by rw [e1]; exact hfl, Lib.hid (by rw [e1]; exact HP2.out), Lib.hid (by rw [← HVN.out]; exact HO4.out), HXN, HP3, Lib.hid ⟨HB3.out.trans HP4.out, p5⟩⟩
        · have hfl2 : ((lsx ms).take (i + 1)).flatten.length = na + mn := by rw [HT.out, List.flatten_append, List.length_append, hfl]; simp [HMO.out.2.1]
          obtain ⟨ad, rfl⟩ : ∃ ad, mo = some ad := by
            rcases HLm.out.rows with h | ⟨b9, off9, e9, _⟩
            · have := HMO.out.2.1; rw [h] at this; simp at this; omega
            · exact ⟨_, HMO.out.1.symm.trans e9⟩
          go_wp2_with (first | (at_builtin; refine wpList_append_lies _ rfl _ _ 22 rfl r 25 i1 (.slice none 0 0) 1 24 Try.underlying22 hi1 hy0 hy1 hy2 rfl (by decide) _ _ _ rfl (HO3.out.alloc _) ⟨w3.heap.size, 0, none⟩ 1 1 [.slice o2 mn c2] rfl rfl (cell_one _ _ _) (by intro u hu; simp at hu; subst hu; rfl) (by decide) (by unfold maxLen; omega) (by omega) (by simp; omega) _ rfl ?_; intro g8 c8 w4 ho4 hg4 hl4 hz4; obtain ⟨p1, p2, p3, p4, p5⟩ := push_lists (c8 := c8) hB hz3 HO3.out HA3.out hg4 hl4 HI3.out HNS.out; have hc4 := (p1 ⟨b, off + i, none⟩ hlow).trans hc3; have HO4 := Lib.hid ho4; have HP2 := Lib.hid p2; have HP3 := Lib.hid p3; have HP4 := Lib.hid p4; have p2o := p2.own; rw [hul] at p2o; obtain ⟨ad2, us2, q1, q2, q3, q4, q5, q6⟩ := cells_at (HLm.out.below (show Below w.heap.size w w4 from by rw [HR.out]; exact HB3.out.trans p4)) (by rw [HMO.out.2.1]; exact hp); have qe := HMO.out.1.symm.trans q1; cases qe; rw [HMO.out.2.1] at q2 q4; have Q2 := Lib.hid q2; have Q3 := Lib.hid q3; clear ho4 hg4 hl4 hz4 p1 p2 p3 p4 q1 q2 q3) | (at_builtin; go_must (refine wpList_append_lies _ rfl _ _ 25 rfl r 37 i0 (.agg #[.slice none 0 0, .int .i64 0]) 2 32 Try.underlying25 hi hz0 hz1 hz2 rfl (by decide) _ _ _ rfl p2o ad mn mc us2.flatten rfl q4 q5 q6 hp (by unfold maxLen; omega) (by omega) p5 _ rfl ?_); intro g7 c7 w5 ho5 hg5 hl5 hz5; obtain ⟨s1, s2, s3, s4, s5⟩ := push_rows (na := na + mn) (c7 := c7) hB p5 HO4.out HP2.out hg5 hl5 HP3.out; have HO5 := Lib.hid s2; have HP5 := Lib.hid s3; have HQ5 := Lib.hid s4; have HOG := Lib.hid (OwnG.app frow hB HP2.out (us2 := us2) (ys := m.xs) (by rw [Q2.out, HMO.out.2.1]) Q3.out (by rw [hul, Q2.out]; exact ho5) hg5); clear p2o q4 q5 q6 ho5 hg5 hl5 s1 s2 s3 s4) | fail)
          go_roundw
          case measure => simp [Go.RowKit.intOf]; omega
          case rel =>
            have e1 : ((lsx ms).take (i + 1)).flatten = ((lsx ms).take i).flatten ++ m.xs := by rw [HT.out, List.flatten_append]; simp
            exact ⟨i + 1, na + mn, usA ++ us2, _, _, _, c7, c8, rfl, rfl, by simp, by omega, HML.out, hfl2, Lib.hid (by rw [e1]; exact HOG.out), Lib.hid (by rw [← HVN.out]; exact HO5.out), HXN, HP5, Lib.hid ⟨(HB3.out.trans HP4.out).trans HQ5.out, s5⟩⟩
      · have hin2 : i = n := by omega
        subst hin2
        have i1 : (i : Int) ≤ i := by omega
        have HIX := Lib.hid (show lsx mss = (lsx ms).map (sortF by_) by rw [HX.out, List.take_of_length_le (by unfold lsx; rw [List.length_map, HN.out]; exact Nat.le_refl _)])
        have HAF := Lib.hid (show ((lsx ms).take i).flatten = (lsx ms).flatten by rw [List.take_of_length_le (by unfold lsx; rw [List.length_map, HN.out]; exact Nat.le_refl _)])
        rw [HAF.out] at hfl HA
        have HFL := Lib.hid hfl
        have HML := Lib.hid hml
        clear hml hfl HX HF HAF
        have hsm : ∀ m ∈ mss, SmR m.xs := fun m hm => by
          have h1 : m.xs ∈ (lsx ms).map (sortF by_) := by rw [← HIX.out]; exact List.mem_map_of_mem hm
          obtain ⟨x, hx, e⟩ := List.mem_map.1 h1
          obtain ⟨m2, hm2, rfl⟩ := List.mem_map.1 hx
          rw [← e]
          exact sort_smR (HLI.out.each m2 hm2).2
        rcases HO.out.2 with ⟨e, rfl⟩ | ⟨g, cap, cur, e, _⟩
        · have e2 : mss = [] := List.eq_nil_of_length_eq_zero HML.out
          subst e2
          cases e
          have e3 : ms = [] := List.eq_nil_of_length_eq_zero HN.out
          subst e3
          have e4 : na = 0 := HFL.out.symm
          subst e4
          have HRA : Hid (∀ W, Calls Try.prog 8 #[.int .i64 by_, .slice none 0 0] W fun e w' => ∃ o2 c2, e = .returned (.slice o2 0 c2) ∧ Hid (LsS w' 0 ⟨o2, c2, []⟩ ∧ Below W.heap.size W w')) := Lib.hid (fun W => by
            refine (rows_part by_ none 0 0 0 [] W rfl (by omega) (.inl rfl) (fun m hm => (by cases hm)) (by simp [lsx])).mono ?_
            rintro e w' ⟨o2, c2, rfl, h, b⟩
            exact ⟨o2, c2, rfl, ⟨Nat.zero_le _, Nat.zero_le _, .inl rfl⟩, b⟩)
          clear HO HI hsm
          go_wp2_with fail
          refine (HRA.out _).mono ?_
          rintro e w3 ⟨o3, c3, rfl, h3⟩
          have HB3 := Lib.hid h3.out.2
          clear h3
          have HRB : Hid (∀ W, Hid (Below w3.heap.size w3 W) → Calls Try.prog 8 #[.int .i64 by_, .slice none 0 0] W fun e w' => ∃ o2 c2, e = .returned (.slice o2 0 c2) ∧ Hid (Below w3.heap.size w3 w')) := Lib.hid (fun W hW => by
            refine (HRA.out W).mono ?_
            rintro e w' ⟨o2, c2, rfl, h⟩
            exact ⟨o2, c2, rfl, hW.out.trans (h.out.2.mono hW.out.size)⟩)
          have HRC : Hid (∀ W o2 c2 o4 c4, Hid (Below w3.heap.size w3 W) → Calls Try.prog 8 #[.int .i64 by_, .slice (some ⟨W.heap.size, 0, none⟩) 2 2] (W.alloc (Obj.cells #[.slice o2 0 c2, .slice o4 0 c4] 25)) fun e w' => ∃ o6 c6, e = .returned (.slice o6 0 c6) ∧ Hid (Below w3.heap.size w3 w')) := Lib.hid (fun W o2 c2 o4 c4 hW => by
            have h := rows_both by_ ⟨o2, c2, []⟩ ⟨o4, c4, []⟩ W ⟨Nat.zero_le _, Nat.zero_le _, .inl rfl⟩ ⟨Nat.zero_le _, Nat.zero_le _, .inl rfl⟩ (fun x hx => (by cases hx)) (fun x hx => (by cases hx)) (Nat.zero_le _)
            refine h.mono ?_
            rintro e w' ⟨o6, c6, rfl, _, b⟩
            exact ⟨o6, c6, rfl, hW.out.trans (b.mono hW.out.size)⟩)
          have rb0 := Lib.hid ((Below.refl w3.heap.size w3).drew)
          go_wp2_with fail
          go_region_held3 (fun _ => True) (exact trivial) (first | (go_at_call 8; go_fit (HRB.out _ rb0); rintro e wq ⟨o2, c2, rfl, sb⟩; dsimp only) | (go_at_call 8; go_fit (HRB.out _ sb); rintro e wv ⟨o4, c4, rfl, tb⟩; dsimp only) | (go_at_call 8; go_fit (HRC.out _ _ _ _ _ tb); rintro e wz ⟨o6, c6, rfl, ub⟩; dsimp only))
          have HB6 := ub
          have HIN := Lib.hid (inO_any by_ o3 0 c3 0 [] wz rfl (by omega) (.inl rfl))
          rw [show inO by_ [] = true from rfl] at HIN
          clear HRA HRB HRC rb0 sb tb ub
          go_wp2_with fail
          refine HIN.out.mono ?_
          rintro e w7 ⟨rfl, b7⟩
          have HB7 := Lib.hid (HB6.out.trans (b7.mono HB6.out.size))
          have HSO := Lib.hid (sort_any by_ oa 0 ca [] w7 0 (Nat.zero_le _) rfl (by omega) (.inl rfl))
          clear HIN b7
          go_wp2_with fail
          refine HSO.out.mono ?_
          rintro e w8 ⟨⟨v8, us8, rfl, ho8⟩, b8⟩
          obtain ⟨o8, c8, rfl⟩ := own_nil2 (us := us8) (show OwnR w8 w7.heap.size v8 us8 [] from ho8)
          have HB8 := Lib.hid (HB7.out.trans (b8.mono HB7.out.size))
          have h1 := sameRows_any o3 o8 c3 c8 [] [] w8 (Nat.zero_le _) (Nat.zero_le _) 0 (.inl rfl) (.inl rfl)
          rw [(sameR_iff _ _).2 rfl] at h1
          have HE1 := Lib.hid h1
          clear HSO ho8 b8 h1
          go_wp2_with fail
          refine HE1.out.mono ?_
          rintro e w9 ⟨rfl, b9⟩
          have HB9 := Lib.hid (HB8.out.trans (b9.mono HB8.out.size))
          have h1 := sameRows_any o3 o6 c3 c6 [] [] w9 (Nat.zero_le _) (Nat.zero_le _) 0 (.inl rfl) (.inl rfl)
          rw [(sameR_iff _ _).2 rfl] at h1
          have HE2 := Lib.hid h1
          clear HE1 b9 h1
          go_wp2_with fail
          refine HE2.out.mono ?_
          rintro e w10 ⟨rfl, b10⟩
          have HB10 := Lib.hid (HB9.out.trans (b10.mono HB9.out.size))
          clear HE2 b10
          go_wp2
          go_ret
          exact ⟨rfl, by rw [HR.out]; exact HB.out.1.trans ((HB3.out.trans (HB10.out.mono HB3.out.size)).mono HB.out.2)⟩
        · cases e
          have HLS := Lib.hid (fun (W : World) (hW : Below wr.heap.size wr W) (k q : Nat) => (lists_part HO.out (fun m hm => (HI.out m hm).ls) k q).below hW)
          have HLN := Lib.hid (show (lsx mss).flatten.length = na by rw [HIX.out, sorted_flat, HFL.out])
          have HL0 := HLS.out wr (Below.refl _ _) 0 i
          rw [List.drop_zero, List.take_of_length_le (by have := HML.out; omega)] at HL0
          have HR1 := Lib.hid (rows_list by_ (some ⟨g, 0, none⟩) i cs B mss wr HML.out (by omega) HL0 hsm (mergeH_le by_ (Nat.le_of_eq HLN.out) (by omega)))
          rw [mergeF_is, HIX.out, sorted_all] at HR1
          have HSM := Lib.hid hsm
          clear HL0 hsm
          go_wp2_with fail
          refine HR1.out.mono ?_
          rintro e w3 ⟨⟨v3, us3, rfl, ho3⟩, b3⟩
          obtain ⟨o3, c3, rfl, hs3, _⟩ := ho3.sees frow
          have hl3 : (sortF by_ (lsx ms).flatten).length = na := by rw [sort_len, HFL.out]
          rw [hl3]
          obtain ⟨k, hk, ek⟩ := cut_is cut i (by omega)
          have HB3 := Lib.hid b3
          have HS3 := Lib.hid hs3
          have HL3 := Lib.hid hl3
          have hcs : i ≤ cs := own_n HO.out
          have hsA : (lsx (mss.take k)).flatten.length + (lsx (mss.drop k)).flatten.length = na := by
            rw [← List.length_append, ← List.flatten_append, show lsx (mss.take k) ++ lsx (mss.drop k) = lsx mss from by unfold lsx; rw [← List.map_append, List.take_append_drop]]; exact HLN.out
          obtain ⟨nA, hnA⟩ : ∃ nA, (lsx (mss.take k)).flatten.length = nA := ⟨_, rfl⟩
          obtain ⟨nB, hnB⟩ : ∃ nB, (lsx (mss.drop k)).flatten.length = nB := ⟨_, rfl⟩
          rw [hnA, hnB] at hsA
          have HNA := Lib.hid hnA
          have HNB := Lib.hid hnB
          obtain ⟨LA, hLA⟩ : ∃ L, mergeF (lessR by_) (lsx (mss.take k)) = L := ⟨_, rfl⟩
          obtain ⟨LB, hLB⟩ : ∃ L, mergeF (lessR by_) (lsx (mss.drop k)) = L := ⟨_, rfl⟩
          have HLA := Lib.hid (show LA.length = nA by rw [← hLA, mergeF_len]; exact hnA)
          have HLB := Lib.hid (show LB.length = nB by rw [← hLB, mergeF_len]; exact hnB)
          have HRA : Hid (∀ W, Hid (Below w3.heap.size w3 W) → Calls Try.prog 8 #[.int .i64 by_, .slice (some ⟨g, 0, none⟩) k cs] W fun e w' => ∃ o2 c2, e = .returned (.slice o2 nA c2) ∧ Hid (LsS w' 0 ⟨o2, c2, LA⟩ ∧ Below w3.heap.size w3 w')) := Lib.hid (fun W hW => by
            have hls := HLS.out W (HB3.out.trans (hW.out.mono HB3.out.size)) 0 k
            rw [List.drop_zero] at hls
            refine (rows_part by_ _ k cs B (mss.take k) W (by rw [List.length_take, HML.out]; omega) (by omega) hls (fun m hm => HSM.out m (List.mem_of_mem_take hm)) (by rw [HNA.out]; omega)).mono ?_
            rintro e w' ⟨o2, c2, rfl, h, b⟩
            rw [hLA] at h
            exact ⟨o2, c2, by rw [HNA.out], h, hW.out.trans (b.mono hW.out.size)⟩)
          have HRB : Hid (∀ W o2 c2, Hid (LsS W 0 ⟨o2, c2, LA⟩ ∧ Below w3.heap.size w3 W) → Calls Try.prog 8 #[.int .i64 by_, .slice (if cs = k then some ⟨g, 0, none⟩ else some ⟨g, k, none⟩) (i - k) (cs - k)] W fun e w' => ∃ o4 c4, e = .returned (.slice o4 nB c4) ∧ Hid (LsS w' 0 ⟨o2, c2, LA⟩ ∧ LsS w' 0 ⟨o4, c4, LB⟩ ∧ Below w3.heap.size w3 w')) := Lib.hid (fun W o2 c2 hW => by
            have hls : ListS W B (if cs = k then some ⟨g, 0, none⟩ else some ⟨g, k, none⟩) (mss.drop k) := by
              split
              · exact .inl (List.drop_eq_nil_of_le (by rw [HML.out]; omega))
              · have hls := HLS.out W (HB3.out.trans (hW.out.2.mono HB3.out.size)) k (i - k)
                rw [List.take_of_length_le (by rw [List.length_drop, HML.out]; exact Nat.le_refl _)] at hls
                exact hls
            refine (rows_part by_ _ (i - k) (cs - k) B (mss.drop k) W (by rw [List.length_drop, HML.out]) (by omega) hls (fun m hm => HSM.out m (List.mem_of_mem_drop hm)) (by rw [HNB.out]; omega)).mono ?_
            rintro e w' ⟨o4, c4, rfl, h, b⟩
            rw [hLB] at h
            exact ⟨o4, c4, by rw [HNB.out], hW.out.1.below b, h, hW.out.2.trans (b.mono hW.out.2.size)⟩)
          have HRC : Hid (∀ W o2 c2 o4 c4, Hid (LsS W 0 ⟨o2, c2, LA⟩ ∧ LsS W 0 ⟨o4, c4, LB⟩ ∧ Below w3.heap.size w3 W) → Calls Try.prog 8 #[.int .i64 by_, .slice (some ⟨W.heap.size, 0, none⟩) 2 2] (W.alloc (Obj.cells #[.slice o2 nA c2, .slice o4 nB c4] 25)) fun e w' => ∃ o6 c6, e = .returned (.slice o6 na c6) ∧ Hid (RowsS w' 0 o6 (sortF by_ (lsx ms).flatten) ∧ Below w3.heap.size w3 w')) := Lib.hid (fun W o2 c2 o4 c4 hW => by
            have h := rows_both by_ ⟨o2, c2, LA⟩ ⟨o4, c4, LB⟩ W hW.out.1 hW.out.2.1
              (by rw [show Ls.xs ⟨o2, c2, LA⟩ = LA from rfl, ← hLA]; exact mergeF_smR (fun l hl => by obtain ⟨m, hm, rfl⟩ := List.mem_map.1 hl; exact HSM.out m (List.mem_of_mem_take hm)))
              (by rw [show Ls.xs ⟨o4, c4, LB⟩ = LB from rfl, ← hLB]; exact mergeF_smR (fun l hl => by obtain ⟨m, hm, rfl⟩ := List.mem_map.1 hl; exact HSM.out m (List.mem_of_mem_drop hm)))
              (by rw [show Ls.xs ⟨o2, c2, LA⟩ = LA from rfl, show Ls.xs ⟨o4, c4, LB⟩ = LB from rfl, HLA.out, HLB.out]; omega)
            simp only [HLA.out, HLB.out, hsA] at h
            refine h.mono ?_
            rintro e w' ⟨o6, c6, rfl, h, b⟩
            refine ⟨o6, c6, rfl, ?_, hW.out.2.2.trans (b.mono hW.out.2.2.size)⟩
            have e9 := sorted_two (by_ := by_) (lsx ms) k
            rw [sorted_all, ← HIX.out] at e9
            rw [← e9, show (lsx mss).take k = lsx (mss.take k) from List.map_take.symm, show (lsx mss).drop k = lsx (mss.drop k) from List.map_drop.symm, hLA, hLB]
            exact h)
          have rb0 := Lib.hid ((Below.refl w3.heap.size w3).drew)
          have k0 : (0 : Int) ≤ k := by omega
          have k1 : (k : Int) ≤ i := by omega
          have k2 : (k : Int) ≤ cs := by omega
          clear HR1 ho3 hs3 hl3 b3 hnA hnB hLA hLB
          go_wp2_with fail
          go_region_held3 (fun _ => True) (exact trivial) (first | (go_at_call 8; go_fit (HRA.out _ rb0); rintro e wq ⟨o2, c2, rfl, sb⟩; dsimp only) | (go_at_call 8; go_fit (HRB.out _ _ _ sb); rintro e wv ⟨o4, c4, rfl, tb⟩; dsimp only) | (go_at_call 8; go_fit (HRC.out _ _ _ _ _ tb); rintro e wz ⟨o6, c6, rfl, ub⟩; dsimp only))
          have HS6 := Lib.hid ub.out.1
          have HB6 := Lib.hid ub.out.2
          have HIN := Lib.hid (inO_any by_ o3 na c3 0 (sortF by_ (lsx ms).flatten) wz HL3.out (by omega) (HS3.out.below frow HB6.out))
          rw [sort_in] at HIN
          obtain ⟨oA, cA, eA, hsA, _⟩ := HA.out.sees frow
          rw [HFL.out] at eA
          cases eA
          have HSA := Lib.hid hsA
          clear HRA HRB HRC rb0 sb tb ub hsA HA
          generalize (if cs = k then some (⟨g, 0, none⟩ : Addr) else some ⟨g, k, none⟩) = ax
          go_wp2_with fail
          refine HIN.out.mono ?_
          rintro e w7 ⟨rfl, b7⟩
          have HB7 := Lib.hid (HB6.out.trans (b7.mono HB6.out.size))
          have HS7 := Lib.hid (HS6.out.below frow b7)
          have hz7 : r ≤ w7.heap.size := Nat.le_trans HB.out.2 (Nat.le_trans HB3.out.size HB7.out.size)
          have HSO := Lib.hid (sort_any by_ oa na ca (lsx ms).flatten w7 B (by omega) HFL.out (by omega) (HSA.out.below frow (HB3.out.trans (HB7.out.mono HB3.out.size))))
          clear HIN b7 HS6
          go_wp2_with fail
          refine HSO.out.mono ?_
          rintro e w8 ⟨⟨v8, us8, rfl, ho8⟩, b8⟩
          obtain ⟨o8, c8, rfl, hs8, _⟩ := ho8.sees frow
          have HB8 := Lib.hid (HB7.out.trans (b8.mono HB7.out.size))
          have HS8 := Lib.hid (HS7.out.below frow b8)
          have h1 := sameRows_any o3 o8 c3 c8 (sortF by_ (lsx ms).flatten) (sortF by_ (lsx ms).flatten) w8 (by rw [HL3.out]; unfold maxLen; omega) (by rw [HL3.out]; unfold maxLen; omega) (max 0 B) (RowsS.mono (HS3.out.below frow HB8.out) (Nat.le_max_left _ _)) (RowsS.mono hs8 (Nat.le_max_right _ _))
          rw [HL3.out, (sameR_iff _ _).2 rfl] at h1
          rw [HL3.out]
          have HE1 := Lib.hid h1
          clear HSO ho8 b8 hs8 h1 HS7
          go_wp2_with fail
          refine HE1.out.mono ?_
          rintro e w9 ⟨rfl, b9⟩
          have HB9 := Lib.hid (HB8.out.trans (b9.mono HB8.out.size))
          have h1 := sameRows_any o3 o6 c3 c6 (sortF by_ (lsx ms).flatten) (sortF by_ (lsx ms).flatten) w9 (by rw [HL3.out]; unfold maxLen; omega) (by rw [HL3.out]; unfold maxLen; omega) 0 (HS3.out.below frow HB9.out) (HS8.out.below frow b9)
          rw [HL3.out, (sameR_iff _ _).2 rfl] at h1
          have HE2 := Lib.hid h1
          clear HE1 b9 h1 HS8
          go_wp2_with fail
          refine HE2.out.mono ?_
          rintro e w10 ⟨rfl, b10⟩
          have HB10 := Lib.hid (HB9.out.trans (b10.mono HB9.out.size))
          clear HE2 b10
          go_wp2
          go_ret
          exact ⟨rfl, by rw [HR.out]; exact HB.out.1.trans ((HB3.out.trans (HB10.out.mono HB3.out.size)).mono HB.out.2)⟩
end Go.Proofs.Ytlnlbahggbbaeaa.Mrg
