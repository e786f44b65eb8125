/- The law: one list is itself; heads tell each list as often as it has rows. -/
import Derived.Test.YtlnlbahggbbaeaaMlo
namespace Go.Proofs.Ytlnlbahggbbaeaa.Mrg
open Go.RowKit Go.Lib Go.Proofs.Ytlnlbahggbbaeaa Go.Proofs.Ytlnlbahggbbaeaa.Vec Go.Proofs.Ytlnlbahggbbaeaa.Stb

theorem merge_one (by_ : Int) : ∀ (xs : List Rw), mergeN (lessR by_) xs.length [[], xs, []] = xs.map fun x => (1, x)
  | [] => rfl
  | x :: t => by
    have hp : pick (lessR by_) [[], x :: t, []] = some (1, x) := by simp [pick]
    rw [List.length_cons, mergeN, hp, List.map_cons]
    exact congrArg _ (merge_one by_ t)
theorem mergeH_one (by_ : Int) (xs : List Rw) : (mergeH by_ [[], xs, []]).map (·.2) = xs := by
  unfold mergeH
  rw [show ([[], xs, []] : List (List Rw)).flatten = xs by simp, merge_one, List.map_map]
  exact List.map_id _
theorem mergeH_len (by_ : Int) (ls : List (List Rw)) : (mergeH by_ ls).length = ls.flatten.length := mergeN_len (swo_less by_) _ ls (Nat.le_refl _)
/-- A list between two that are empty. -/
theorem between {W : World} {b B : Nat} {m : Ls} (hb : W.heap[b]? = some (.cells #[.slice none 0 0, .slice m.o m.xs.length m.c, .slice none 0 0] 25 (0, 0))) (hm : LsS W B m) : ListS W B (some ⟨b, 0, none⟩) [⟨none, 0, []⟩, m, ⟨none, 0, []⟩] := by
  refine .inr ⟨b, 0, rfl, (Array.getElem?_eq_some_iff.1 hb).1, fun j m' hj => ?_⟩
  match j, hj with
  | 0, hj => cases hj; exact ⟨by simp [World.cell?, hb], ⟨Nat.le_refl _, Nat.zero_le _, .inl rfl⟩⟩
  | 1, hj => cases hj; exact ⟨by simp [World.cell?, hb], hm⟩
  | 2, hj => cases hj; exact ⟨by simp [World.cell?, hb], ⟨Nat.le_refl _, Nat.zero_le _, .inl rfl⟩⟩
  | j + 3, hj => simp at hj
theorem own_nil2 {w : World} {N : Nat} {v : Value} {us : List (List Value)} (h : OwnR w N v us []) : ∃ o c, v = .slice o 0 c := by
  obtain ⟨o, c, e, _⟩ := h.sees frow
  exact ⟨o, c, e⟩

set_option maxHeartbeats 16000000 in
set_option maxRecDepth 100000 in
theorem one_any (by_ : Int) (o : Option Addr) (n c B : Nat) (ms : List Ls) (w : World) (hn : ms.length = n) (hS : ListG w B o ms) :
    Calls Try.prog 4 #[.int .i64 by_, .slice o n c] w fun e w' => e = .returned (.bool true) ∧ Below w.heap.size w w' := by
  obtain ⟨i0, hi, hz0, hz1, hz2⟩ := info_parts infoInt
  have HAL := Lib.hid (fun W => alive_any W)
  have HL := Lib.hid (light_list o n c B ms w hn hS)
  cases hl : lightL ms with
  | false =>
    rw [hl] at HL
    clear hl hn hS hi hz0 hz1 hz2
    go_enter Try.func4, Try.ntmps4
    go_wp2_with fail
    refine HL.out.mono ?_
    rintro e w1 ⟨rfl, b1⟩
    have HB1 := Lib.hid b1
    clear b1
    go_wp2_with fail
    refine (HAL.out _).mono ?_
    rintro e w2 ⟨rfl, b2⟩
    have HB2 := Lib.hid (HB1.out.trans (b2.mono HB1.out.size))
    clear b2
    go_wp2
    go_ret
    exact ⟨rfl, HB2.out⟩
  | true =>
    rw [hl] at HL
    have hli := lightL_mk hl
    have hLS := hS.light hli
    have hn20 : n ≤ 20 := by rw [← hn]; exact hli.len
    have HN := Lib.hid hn
    have HLI := Lib.hid hli
    have HS := Lib.hid hLS
    obtain ⟨all, hall⟩ : ∃ all, mergeH by_ (lsx ms) = all := ⟨_, rfl⟩
    have hal : all.length ≤ 200 := by rw [← hall, mergeH_len]; exact hli.sum
    have HHL := Lib.hid (fun (W : World) (hb : Below w.heap.size w W) => heads_list by_ o n c B ms W hn (by omega) (hLS.below hb) (by rw [hall]; omega))
    rw [hall] at HHL
    have HALL := Lib.hid hall
    clear hl hn hS hli hLS hall
    go_enter Try.func4, Try.ntmps4
    go_wp2_with fail
    refine HL.out.mono ?_
    rintro e w1 ⟨rfl, b1⟩
    have HB1 := Lib.hid b1
    clear b1
    go_wp2_with fail
    refine (HAL.out _).mono ?_
    rintro e w2 ⟨rfl, b2⟩
    have HB2 := Lib.hid (HB1.out.trans (b2.mono HB1.out.size))
    clear b2
    go_wp2_with (first | (at_make; refine wpList_make_row _ rfl _ _ 31 rfl 3 i0 (.int .i64 0) Try.underlying31 hi hz0 hz1 rfl .i64 .i64 n rfl rfl (by rw [hz2]; omega) (by omega) ?_) | fail)
    obtain ⟨bn, hbn⟩ : ∃ bn, w2.heap.size = bn := ⟨_, rfl⟩
    have hw3 := World.rowIs_made w2 (.int .i64 0) n 3
    have hb3 := HB2.out.alloc HB2.out.size (.cells (madeCells #[.int .i64 0] n) 3)
    have hz3 : (w2.alloc (.cells (madeCells #[.int .i64 0] n) 3)).heap.size = bn + 1 := by rw [World.size_alloc, hbn]
    rw [hbn] at hw3
    obtain ⟨w3, hw⟩ : ∃ w3, w2.alloc (.cells (madeCells #[.int .i64 0] n) 3) = w3 := ⟨_, rfl⟩
    rw [hw] at hw3 hb3 hz3
    have HW := Lib.hid hw
    have hbnw : w.heap.size ≤ bn := by rw [← hbn]; exact HB2.out.size
    have HW3 := Lib.hid hw3
    have HB3 := Lib.hid hb3
    clear hw hw3 hb3
    rw [HW.out]
    refine (HHL.out _ HB3.out).mono ?_
    rintro e w4 ⟨⟨v, rfl, ho⟩, b4⟩
    rw [hz3] at ho
    obtain ⟨oh, ch, rfl⟩ := row_form ho
    have HO := Lib.hid ho
    have HB4 := Lib.hid (HB3.out.trans (b4.mono (by omega)))
    have HR4 := Lib.hid (HW3.out.of_block (b4.block _ (by omega)))
    obtain ⟨N, hN⟩ : ∃ N, all.length = N := ⟨_, rfl⟩
    rw [hN] at HO hal ⊢
    have HNN := Lib.hid hN
    have hb4z := HB4.out.size
    have hz4 : bn + 1 ≤ w4.heap.size := by have := b4.size; omega
    clear ho b4 HHL HW hN hi hz0 hz1 hz2 HL HB1 HB2 HW3
    go_wp2_with fail
    go_loopw [7] (fun v7 wr => ∃ j : Nat, v7 = .int .i64 (j : Nat) ∧ j ≤ N ∧ Hid (wr.rowIs bn 3 n (fun i => .int .i64 ((((all.take j).map (·.1)).count i : Nat) : Int))) ∧ Hid (wr.ownsRow (bn + 1) 3 1 (.slice oh N ch) N (all.map fun p => .int .i64 (p.1 : Nat))) ∧ Hid (Below w.heap.size w wr ∧ bn + 1 ≤ wr.heap.size)) (fun v7 _ => N - (Go.RowKit.intOf v7).toNat)
    case atStart => exact ⟨0, rfl, Nat.zero_le _, HR4.out.congr (fun i _ => by simp), HO, HB4.out, hz4⟩
    case round =>
      obtain ⟨j, rfl, hj, HR, HOw, HBw⟩ := hrel
      have i0 : (0 : Int) ≤ j := by omega
      by_cases hjN : j < N
      · have i1 : (j : Int) < N := by omega
        obtain ⟨p, hp⟩ := get_ltG HNN.out hjN
        obtain ⟨g, cg, eg⟩ := row_pos HOw.out (by omega)
        cases eg
        have hcell := row_cell HOw.out (i := j) (u := .int .i64 (p.1 : Nat)) (by rw [List.getElem?_map, hp]; rfl)
        have hpn : p.1 < n := by
          have := heads_lt (swo_less by_) (lsx ms).flatten.length (lsx ms) p.1 (List.mem_map.2 ⟨p, by have := List.mem_of_getElem? hp; rw [← HALL.out] at this; exact this, rfl⟩)
          unfold lsx at this
          rw [List.length_map, HN.out] at this; exact this
        have HCN := Lib.hid (show ∀ i, ((all.take (j + 1)).map (·.1)).count i = ((all.take j).map (·.1)).count i + if p.1 = i then 1 else 0 from fun i => by
          rw [take_atG hp, List.map_append, List.count_append, List.map_cons, List.map_nil, List.count_singleton]
          by_cases e : p.1 = i
          · rw [if_pos e, if_pos (by simpa using e)]
          · rw [if_neg e, if_neg (by simpa using e)])
        have hcl : ((all.take j).map (·.1)).count p.1 ≤ 200 := Nat.le_trans List.count_le_length (by rw [List.length_map, List.length_take]; omega)
        have hc2 := HR.out.cell hpn
        have hf2 := HR.out.frozen p.1
        obtain ⟨k, hk⟩ : ∃ k, p.1 = k := ⟨_, rfl⟩
        rw [hk] at hcell hpn HCN hcl hc2 hf2
        obtain ⟨q, hq⟩ : ∃ q, ((all.take j).map (·.1)).count k = q := ⟨_, rfl⟩
        rw [hq] at hc2 hcl
        have HQ := Lib.hid hq
        have i2 : (k : Int) < n := by omega
        have i3 : (0 : Int) ≤ k := by omega
        have wk : IntKind.i64.wrap ((q : Int) + 1) = ((q + 1 : Nat) : Int) := by rw [IntKind.wrap_i64]; omega
        have wk2 : IntKind.i64.wrap ((j : Int) + 1) = ((j + 1 : Nat) : Int) := by rw [IntKind.wrap_i64]; omega
        have hr2 := Lib.hid ((HR.out.set k (.int .i64 ((q + 1 : Nat) : Int))).congr (g := fun i => .int .i64 ((((all.take (j + 1)).map (·.1)).count i : Nat) : Int)) (fun i _ => by
          rw [HCN.out i]
          by_cases e : i = k
          · subst e; rw [if_pos rfl, if_pos rfl, HQ.out]
          · rw [if_neg e, if_neg (fun h => e h.symm), Nat.add_zero]))
        have ho2 := Lib.hid (ownsRow_setCell_below HOw.out (a := ⟨bn, k, none⟩) (show bn < bn + 1 by omega) (.int .i64 ((q + 1 : Nat) : Int)))
        have hb2 := Lib.hid (HBw.out.1.setCell (p := ⟨bn, k, none⟩) hbnw (.int .i64 ((q + 1 : Nat) : Int)))
        clear hp hk hq
        go_wp2
        go_roundw
        case rel => exact ⟨j + 1, by go_num, by omega, hr2, ho2, hb2.out, by simp [World.setCell]; exact HBw.out.2⟩
        case measure => simp [Go.RowKit.intOf]; omega
      · have hjn : j = N := by omega
        subst hjn
        have i1 : (j : Int) ≤ j := by omega
        have HCT := Lib.hid (show ∀ i m, ms[i]? = some m → wr.cell? ⟨bn, i, none⟩ = some (.int .i64 (m.xs.length : Nat)) from fun i m hm => by
          have hin : i < n := by have := (List.getElem?_eq_some_iff.1 hm).1; rw [HN.out] at this; exact this
          rw [HR.out.cell hin, List.take_of_length_le (by rw [HNN.out]; exact Nat.le_refl _), ← HALL.out]
          unfold mergeH
          rw [heads_count (swo_less by_) _ (lsx ms) i (Nat.le_refl _), lsx_at hm])
        have HBN := Lib.hid HR.out.lt
        obtain ⟨wo, hwo⟩ : ∃ wo : World, wr = wo := ⟨_, rfl⟩
        subst wr
        clear HR HOw
        go_wp2_with fail
        go_loopw [8] (fun v8 wr2 => ∃ i : Nat, v8 = .int .i64 (i : Nat) ∧ i ≤ n ∧ Hid (Below wo.heap.size wo wr2)) (fun v8 _ => n - (Go.RowKit.intOf v8).toNat)
        case atStart => exact ⟨0, rfl, Nat.zero_le _, Below.refl _ _⟩
        case round =>
          obtain ⟨i, rfl, hin, HB5⟩ := hrel
          by_cases hlt : i < n
          · obtain ⟨m, hm⟩ := get_ltG HN.out hlt
            obtain ⟨b, off, rfl, hlow, hcs⟩ : ∃ b off, o = some ⟨b, off, none⟩ ∧ b < w.heap.size ∧ ∀ (j : Nat) (m : Ls), ms[j]? = some m → w.cell? ⟨b, off + j, none⟩ = some (.slice m.o m.xs.length m.c) ∧ LsS w B m := by
              rcases HS.out with h | h
              · have := HN.out; rw [h] at this; simp at this; omega
              · exact h
            obtain ⟨hc, hLm⟩ := hcs i m hm
            have HB6 := Lib.hid (HBw.out.1.trans (HB5.out.mono HBw.out.1.size))
            rw [← HB6.out.cell (p := ⟨b, off + i, none⟩) hlow] at hc
            have hct := HCT.out i m hm
            rw [← HB5.out.cell (p := ⟨bn, i, none⟩) HBN.out] at hct
            have hmr := HLI.out.each m (List.mem_of_getElem? hm)
            obtain ⟨mo, hmo⟩ : ∃ mo, m.o = mo := ⟨_, rfl⟩
            obtain ⟨mn, hmn⟩ : ∃ mn, m.xs.length = mn := ⟨_, rfl⟩
            obtain ⟨mc, hmc⟩ : ∃ mc, m.c = mc := ⟨_, rfl⟩
            obtain ⟨X, hX⟩ : ∃ X, (#[.slice none 0 0, .slice mo mn mc, .slice none 0 0] : Array Value) = X := ⟨_, rfl⟩
            rw [hmo, hmn, hmc] at hc
            rw [hmn] at hct
            have hbs := HB6.out.size
            have hbs2 := HB5.out.size
            have HRR : Hid (∀ W, Hid (Below wr.heap.size wr W ∧ W.heap[wr.heap.size]? = some (.cells #[.slice none 0 0, .slice mo mn mc, .slice none 0 0] 25 (0, 0))) → Calls Try.prog 8 #[.int .i64 by_, .slice (some ⟨wr.heap.size, 0, none⟩) 3 3] W fun e w' => ∃ o2 c2, e = .returned (.slice o2 mn c2) ∧ (w'.cell? ⟨bn, i, none⟩ = some (.int .i64 (mn : Nat)) ∧ w'.cell? ⟨b, off + i, none⟩ = some (.slice mo mn mc)) ∧ Hid (RowsS w' 0 o2 m.xs ∧ Below wr.heap.size wr w')) := Lib.hid (fun W hW => by
              have hls := between (B := B) (m := m) (by rw [hmo, hmn, hmc]; exact hW.out.2) ((hLm.below HB6.out).below hW.out.1)
              have hlx : lsx [⟨none, 0, []⟩, m, ⟨none, 0, []⟩] = [[], m.xs, []] := rfl
              refine (rows_list by_ (some ⟨wr.heap.size, 0, none⟩) 3 3 B [⟨none, 0, []⟩, m, ⟨none, 0, []⟩] W rfl (by omega) hls (fun m' hm' => ?_) (by rw [hlx, mergeH_len]; simp; omega)).mono ?_
              · simp only [List.mem_cons, List.not_mem_nil, or_false] at hm'
                rcases hm' with rfl | rfl | rfl
                · exact fun x hx => (by cases hx)
                · exact hmr.2
                · exact fun x hx => (by cases hx)
              · rintro e w' ⟨⟨v, us, rfl, ho⟩, b9⟩
                rw [hlx, mergeH_one] at ho
                obtain ⟨o2, c2, e2, hs2, _⟩ := ho.sees frow
                have h2 := hW.out.1.trans (b9.mono hW.out.1.size)
                refine ⟨o2, c2, by rw [e2, hmn], ⟨(h2.cell (p := ⟨bn, _, none⟩) (Nat.lt_of_lt_of_le HBN.out hbs2)).trans hct, (h2.cell (p := ⟨b, _, none⟩) (Nat.lt_of_lt_of_le hlow hbs)).trans hc⟩, hs2, h2⟩)
            have HSA : Hid (∀ W o2 c2, Hid (RowsS W 0 o2 m.xs ∧ Below wr.heap.size wr W) → Calls Try.prog 10 #[.slice o2 mn c2, .slice mo mn mc] W fun e w' => e = .returned (.bool true) ∧ (w'.cell? ⟨bn, i, none⟩ = some (.int .i64 (mn : Nat)) ∧ w'.cell? ⟨b, off + i, none⟩ = some (.slice mo mn mc)) ∧ Hid (Below wr.heap.size wr w')) := Lib.hid (fun W o2 c2 hW => by
              have h1 := sameRows_any o2 mo c2 mc m.xs m.xs W (by unfold maxLen; omega) (by unfold maxLen; omega) (max 0 B) (RowsS.mono hW.out.1 (Nat.le_max_left _ _)) (RowsS.mono (show RowsS W B mo m.xs by rw [← hmo]; exact (hLm.rows.below frow HB6.out).below frow hW.out.2) (Nat.le_max_right _ _))
              rw [hmn, (sameR_iff m.xs m.xs).2 rfl] at h1
              refine h1.mono ?_
              rintro e w' ⟨rfl, b9⟩
              have h2 := hW.out.2.trans (b9.mono hW.out.2.size)
              exact ⟨rfl, ⟨(h2.cell (p := ⟨bn, _, none⟩) (Nat.lt_of_lt_of_le HBN.out hbs2)).trans hct, (h2.cell (p := ⟨b, _, none⟩) (Nat.lt_of_lt_of_le hlow hbs)).trans hc⟩, h2⟩)
            have rb1 : Hid (Below wr.heap.size wr (wr.alloc (Obj.cells #[.slice none 0 0, .slice mo mn mc, .slice none 0 0] 25)).drew ∧ (wr.alloc (Obj.cells #[.slice none 0 0, .slice mo mn mc, .slice none 0 0] 25)).drew.heap[wr.heap.size]? = some (.cells #[.slice none 0 0, .slice mo mn mc, .slice none 0 0] 25 (0, 0))) := Lib.hid ⟨((Below.refl _ wr).alloc (Nat.le_refl _) _).drew, World.alloc_heap_new wr _⟩
            have x1 : (wr.alloc (Obj.cells #[.slice none 0 0, .slice mo mn mc, .slice none 0 0] 25)).cell? ⟨bn, i, none⟩ = some (.int .i64 (mn : Nat)) := (((Below.refl _ wr).alloc (Nat.le_refl _) _).cell (p := ⟨bn, i, none⟩) (Nat.lt_of_lt_of_le HBN.out hbs2)).trans hct
            have x2 : (wr.alloc (Obj.cells #[.slice none 0 0, .slice mo mn mc, .slice none 0 0] 25)).cell? ⟨b, off + i, none⟩ = some (.slice mo mn mc) := (((Below.refl _ wr).alloc (Nat.le_refl _) _).cell (p := ⟨b, off + i, none⟩) (Nat.lt_of_lt_of_le hlow hbs)).trans hc
            have i0 : (0 : Int) ≤ i := by omega
            have i1 : (i : Int) < n := by omega
            have wk2 : IntKind.i64.wrap ((i : Int) + 1) = ((i + 1 : Nat) : Int) := by rw [IntKind.wrap_i64]; omega
            clear hcs hm hLm hmr hmo hmn hmc hX hbs hbs2
            go_wp2_with fail
            go_region_held3 (fun w' => w'.cell? ⟨bn, i, none⟩ = some (.int .i64 (mn : Nat)) ∧ w'.cell? ⟨b, off + i, none⟩ = some (.slice mo mn mc)) (first | exact ⟨t1, t2⟩ | exact ⟨s1, s2⟩ | exact ⟨x1, x2⟩ | exact ⟨hct, hc⟩) (first
              | (go_at_call 8; go_fit (HRR.out _ rb1); rintro e wq ⟨o2, c2, rfl, ⟨s1, s2⟩, sb⟩)
              | (go_at_call 10; go_fit (HSA.out _ _ _ sb); rintro e wv ⟨rfl, ⟨t1, t2⟩, tb⟩))
            have hb7 := Lib.hid (HB5.out.trans (tb.out.mono HB5.out.size))
            clear HRR HSA rb1 x1 x2 s1 s2 sb t1 t2 tb hc hct
            go_wp2
            go_roundw
            case rel => exact ⟨i + 1, by go_num, by omega, hb7⟩
            case measure => simp [Go.RowKit.intOf]; omega
          · have hin2 : i = n := by omega
            subst hin2
            have HB6 := Lib.hid (HBw.out.1.trans (HB5.out.mono HBw.out.1.size))
            have HR0 := Lib.hid (rows_list by_ none 0 0 0 [] wr rfl (by omega) (.inl rfl) (fun m hm => (by cases hm)) (by rw [mergeH_len]; exact Nat.zero_le _))
            have HLT := Lib.hid (fun W => lightR_any none 0 0 [] W 0 rfl (.inl rfl))
            have HLS := Lib.hid (fun W => rless_any 0 none none 0 0 0 0 ([], 0) ([], 0) W rfl rfl (Nat.zero_le _) (Nat.zero_le _) (.inl rfl) (.inl rfl))
            go_wp2_with fail
            refine HR0.out.mono ?_
            rintro e w5 ⟨⟨v, us, rfl, ho⟩, b5⟩
            obtain ⟨o5, c5, rfl⟩ := own_nil2 (us := us) (show OwnR w5 wr.heap.size v us [] from ho)
            have HB7 := Lib.hid (HB6.out.trans (b5.mono HB6.out.size))
            clear ho b5
            go_wp2_with fail
            refine (HLT.out _).mono ?_
            rintro e w6 ⟨rfl, b6⟩
            have HB8 := Lib.hid (HB7.out.trans (b6.mono HB7.out.size))
            rw [show lightR [] = true by decide]
            clear b6
            go_wp2_with fail
            refine (HLS.out _).mono ?_
            rintro e w7 ⟨rfl, b7⟩
            have HB9 := Lib.hid (HB8.out.trans (b7.mono HB8.out.size))
            rw [(swo_less 0).irrefl ([], 0)]
            clear b7
            go_wp2
            go_ret
            exact ⟨rfl, HB9.out⟩
end Go.Proofs.Ytlnlbahggbbaeaa.Mrg
