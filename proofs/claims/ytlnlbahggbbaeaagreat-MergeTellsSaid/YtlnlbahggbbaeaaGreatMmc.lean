/- The document's Merge. -/
import Derived.Test.YtlnlbahggbbaeaaGreatMmb
import Derived.Test.YtlnlbahggbbaeaaGreatMlo
import Derived.Deep.RegionLaw
namespace Go.Proofs.YtlnlbahggbbaeaaGreat.Mrg
open Go.RowKit Go.Lib Go.Proofs.YtlnlbahggbbaeaaGreat Go.Proofs.YtlnlbahggbbaeaaGreat.Vec Go.Proofs.YtlnlbahggbbaeaaGreat.Stb

theorem own_ne2 {w : World} {B1 B2 s1 s2 n1 n2 : Nat} {t1 t2 : TypeId} {v1 v2 : Value} {x1 x2 : List Value} (h1 : w.ownsRow B1 t1 s1 v1 n1 x1) (h2 : w.ownsRow B2 t2 s2 v2 n2 x2) (hne : t1 ≠ t2) : v1.ownBlock = none ∨ v1.ownBlock ≠ v2.ownBlock := by
  cases e1 : v1.ownBlock with
  | none => exact .inl rfl
  | some g =>
    refine .inr fun e2 => ?_
    obtain ⟨_, cs, q, hh⟩ := own_row h1 g e1
    obtain ⟨_, cs2, q2, hh2⟩ := own_row h2 g e2.symm
    rw [hh] at hh2
    cases hh2
    exact hne rfl
/-- Rows of one's own, where a cell of numbers below them is written. -/
theorem OwnG_set {w : World} {BE N r i : Nat} {v u : Value} {us : List (List Value)} {xs : List Rw} {cs : Array Value} {q : Nat × Nat} (h : OwnG (ERow BE) 2 51 w N v us xs) (hr : w.heap[r]? = some (.cells cs 3 q)) (hBE : BE ≤ r) (hN : r < N) : OwnG (ERow BE) 2 51 (w.setCell ⟨r, i, none⟩ u) N v us xs := by
  refine ⟨h.len, ownsRow_setCell_below h.own (show r < N from hN) u, fun j x hx => ?_⟩
  obtain ⟨p, h3, h4⟩ := h.one j x hx
  exact ⟨p, h3, (firmRow (B := BE) (t := 3) (by decide)).grown _ _ _ _ _ h4 (fun g e => by cases e; exact ⟨hBE, _, _, hr⟩) (grownBy_setCell w r i u)⟩

set_option maxHeartbeats 16000000 in
set_option maxRecDepth 100000 in
theorem dmerge_any (by_ : Int) (o : Option Addr) (n c B : Nat) (ms : List Ls) (w : World) (hBw : B ≤ w.heap.size) (hn : ms.length = n) (hn20 : n ≤ 20) (hS : ListS w B o ms) (hsum : (lsx ms).flatten.length ≤ 200) :
    Calls Tryz.prog 12 #[.int .i64 by_, .slice o n c] w fun e w' => (∃ v us, e = .returned v ∧ OwnG (ERow B) 2 51 w' w.heap.size v us ((mergeN (lessR by_) (lsx ms).flatten.length (lsx ms)).map (·.2))) ∧ Below w.heap.size w w' := by
  obtain ⟨i0, hi, hz0, hz1, hz2⟩ := info_parts infoInt
  obtain ⟨i1, hi1, hy0, hy1, hy2⟩ := info_parts infoRow
  have HN := Lib.hid hn
  have HS := Lib.hid hS
  obtain ⟨r, hr⟩ : ∃ r, w.heap.size = r := ⟨_, rfl⟩
  have HHL := Lib.hid (fun (W : World) (hb : Below r w W) => dheads_any by_ o n c B ms W hn hn20 (hS.below (by rw [hr]; exact hb)) hsum)
  obtain ⟨all, hall⟩ : ∃ all, mergeN (lessR by_) (lsx ms).flatten.length (lsx ms) = all := ⟨_, rfl⟩
  rw [hall] at HHL ⊢
  have HALL := Lib.hid hall
  obtain ⟨N, hN⟩ : ∃ N, all.length = N := ⟨_, rfl⟩
  have hN200 : N ≤ 200 := by rw [← hN, ← hall, mergeN_len (swo_less by_) _ _ (Nat.le_refl _)]; exact hsum
  rw [hN] at HHL
  have HNN := Lib.hid hN
  have HRR := Lib.hid hr
  rw [hr] at hBw ⊢
  clear hn hS hsum hall hN hr
  go_enter Tryz.func12, Tryz.ntmps12
  go_wp2_with (first | (at_make; refine wpList_make_row _ rfl _ _ 40 rfl 3 i0 (.int .i64 0) Tryz.underlying40 hi hz0 hz1 rfl .i64 .i64 n rfl rfl (by rw [hz2]; omega) (by omega) ?_) | fail)
  have hw3 := World.rowIs_made w (.int .i64 0) n 3
  have hb3 := (Below.refl r w).alloc (by rw [HRR.out]; exact Nat.le_refl _) (.cells (madeCells #[.int .i64 0] n) 3)
  have hz3 : (w.alloc (.cells (madeCells #[.int .i64 0] n) 3)).heap.size = r + 1 := by rw [World.size_alloc, HRR.out]
  rw [HRR.out] at hw3 ⊢
  obtain ⟨w3, hw⟩ : ∃ w3, w.alloc (.cells (madeCells #[.int .i64 0] n) 3) = w3 := ⟨_, rfl⟩
  rw [hw] at hw3 hb3 hz3 ⊢
  have HW3 := Lib.hid hw3
  have HB3 := Lib.hid hb3
  clear hw hw3 hb3
  refine (HHL.out _ HB3.out).mono ?_
  rintro e w4 ⟨⟨v, rfl, ho⟩, b4⟩
  rw [hz3] at ho b4
  obtain ⟨oh, ch, rfl⟩ := row_form ho
  have HO := Lib.hid ho
  have HB4 := Lib.hid (HB3.out.trans (b4.mono (by omega)))
  have HR4 := Lib.hid (HW3.out.of_block (b4.block _ (by omega)))
  have hz4 : r + 1 ≤ w4.heap.size := by have := b4.size; omega
  clear ho b4 HHL
  go_wp2_with fail
  go_loopw [7, 8] (fun v7 v8 wr => ∃ (j : Nat) (at_ : Nat → Nat) (us : List (List Value)) (ou : Option Addr) (cu : Nat), v7 = .slice ou j cu ∧ v8 = .int .i64 (j : Nat) ∧ j ≤ N ∧ Hid (∀ i, at_ i ≤ j) ∧ Hid (wr.rowIs r 3 n (fun i => .int .i64 (at_ i : Nat))) ∧ Hid (wr.ownsRow (r + 1) 3 1 (.slice oh N ch) N (all.map fun p => .int .i64 (p.1 : Nat))) ∧ Hid (OwnG (ERow B) 2 51 wr (r + 1) (.slice ou j cu) us ((all.take j).map (·.2))) ∧ Hid (mergeN (lessR by_) (rem (lsx ms) at_).flatten.length (rem (lsx ms) at_) = all.drop j) ∧ Hid (Below r w wr ∧ r + 1 ≤ wr.heap.size)) (fun _ v8 _ => N - (Go.RowKit.intOf v8).toNat)
  case atStart => exact ⟨0, fun _ => 0, [], none, 0, rfl, rfl, Nat.zero_le _, Lib.hid (fun _ => Nat.le_refl _), Lib.hid (HR4.out.congr (fun i _ => rfl)), HO, Lib.hid (OwnG.nil _ _), Lib.hid (by rw [rem_zero, HALL.out]; rfl), Lib.hid ⟨HB4.out, hz4⟩⟩
  case round =>
    obtain ⟨j, at_, us, ou, cu, rfl, rfl, hj, HAT, HR, HOw, HG, HM, HB⟩ := hrel
    have j0' : (0 : Int) ≤ j := by omega
    by_cases hjN : j < N
    · have j1 : (j : Int) < N := by omega
      obtain ⟨p, hp⟩ := get_ltG HNN.out hjN
      obtain ⟨g, cg, eg⟩ := row_pos HOw.out (by omega)
      cases eg
      have hcell := row_cell HOw.out (i := j) (u := .int .i64 (p.1 : Nat)) (by rw [List.getElem?_map, hp]; rfl)
      have hgw := (HOw.out.lt g rfl)
      obtain ⟨R, hRm⟩ : ∃ R, rem (lsx ms) at_ = R := ⟨_, rfl⟩
      have hM := HM.out
      rw [hRm] at hM
      obtain ⟨hnone, hsome⟩ := merge_step (swo_less by_) hM
      have hdrop : all.drop j = p :: all.drop (j + 1) := drop_atG hp
      have hpk : pick (lessR by_) R = some p := by
        cases h9 : pick (lessR by_) R with
        | none => rw [hdrop] at hnone; exact absurd (hnone h9) (by simp)
        | some p2 =>
          obtain ⟨t, _, h10⟩ := hsome p2 h9
          rw [hdrop] at h10
          injection h10 with h11 _
          rw [h11]
      obtain ⟨t, hRt, hdr⟩ := hsome p hpk
      have hRlen : R.length = n := by rw [← hRm, rem_len]; unfold lsx; rw [List.length_map, HN.out]
      have hkn : p.1 < n := by have := (List.getElem?_eq_some_iff.1 hRt).1; rw [hRlen] at this; exact this
      have hRt2 : (rem (lsx ms) at_)[p.1]? = some (p.2 :: t) := by rw [hRm]; exact hRt
      have HM2 := Lib.hid (show mergeN (lessR by_) (rem (lsx ms) (fun x => if x = p.1 then at_ p.1 + 1 else at_ x)).flatten.length (rem (lsx ms) (fun x => if x = p.1 then at_ p.1 + 1 else at_ x)) = all.drop (j + 1) by
        rw [← rem_step (t := t) (x := p.2) hRt2, hRm]
        rw [hdrop] at hdr
        injection hdr with _ h11
        exact h11.symm)
      obtain ⟨l2, hl2, hl3⟩ := rem_get hRt2
      obtain ⟨m2, hm2, rfl⟩ : ∃ m2, ms[p.1]? = some m2 ∧ m2.xs = l2 := by
        unfold lsx at hl2
        rw [List.getElem?_map] at hl2
        cases h9 : ms[p.1]? with
        | none => rw [h9] at hl2; cases hl2
        | some m2 => rw [h9] at hl2; cases hl2; exact ⟨m2, rfl, rfl⟩
      obtain ⟨b, off, rfl, hlow, hcs⟩ : ∃ b off, o = some ⟨b, off, none⟩ ∧ b < w.heap.size ∧ ∀ (j : Nat) (m : Ls), ms[j]? = some m → w.cell? ⟨b, off + j, none⟩ = some (.slice m.o m.xs.length m.c) ∧ LsS w B m := by
        rcases HS.out with h | h
        · have := HN.out; rw [h] at this; simp at this; omega
        · exact h
      obtain ⟨hc2, hLm2⟩ := hcs p.1 m2 hm2
      rw [HRR.out] at hlow
      rw [← HB.out.1.cell (p := ⟨b, off + p.1, none⟩) hlow] at hc2
      have hrk := HR.out.cell hkn
      obtain ⟨b2, f2, e2, hR2⟩ := (show SeeG (ERow B) 2 w m2.o m2.xs from hLm2.rows).at hl3
      obtain ⟨oM, cM, r3, r4, hM5, lM⟩ := row_at hR2 hl3
      have hb2 := hR2.low
      rw [HRR.out] at hb2
      rw [← HB.out.1.cell (p := ⟨b2, _, none⟩) hb2] at r3 r4
      have hl4 := (List.getElem?_eq_some_iff.1 hl3).1
      have HXE := Lib.hid (fun W (hb : Below wr.heap.size wr W) => show ERow B W [.slice oM p.2.1.length cM, .int .i64 p.2.2] p.2 from ⟨oM, cM, rfl, hM5.below (show Below w.heap.size w W by rw [HRR.out]; exact HB.out.1.trans (hb.mono (by have := HB.out.2; omega))), lM⟩)
      have HT1 := Lib.hid (show (all.take (j + 1)).map (·.2) = (all.take j).map (·.2) ++ [p.2] by rw [take_atG hp, List.map_append]; rfl)
      have HUL := Lib.hid (show us.length = j by rw [HG.out.len, List.length_map, List.length_take, HNN.out]; omega)
      obtain ⟨nM, hnM⟩ : ∃ nM, p.2.1.length = nM := ⟨_, rfl⟩
      obtain ⟨k, hk⟩ : ∃ k, p.1 = k := ⟨_, rfl⟩
      obtain ⟨qk, hqk⟩ : ∃ qk, at_ p.1 = qk := ⟨_, rfl⟩
      obtain ⟨mk, hmk⟩ : ∃ mk, m2.xs.length = mk := ⟨_, rfl⟩
      obtain ⟨ck, hck⟩ : ∃ ck, m2.c = ck := ⟨_, rfl⟩
      obtain ⟨vp, hvp⟩ : ∃ vp, p.2.2 = vp := ⟨_, rfl⟩
      have HQK := Lib.hid hqk
      have hqj : qk ≤ 200 := by have := HAT.out p.1; omega
      rw [e2] at hc2
      rw [hqk, hnM] at r3
      rw [hqk] at r4 hrk hl4
      rw [hmk] at hl4
      rw [hk] at hrk hcell hkn HM2 HQK
      rw [hk, hmk, hck] at hc2
      rw [hvp] at r4 HXE
      rw [hnM] at HXE
      have k2 : (k : Int) < n := by omega
      have k3 : (0 : Int) ≤ k := by omega
      have k5 : (qk : Int) < mk := by omega
      have q2 : (0 : Int) ≤ qk := by omega
      clear hnone hsome hdr hRt hRt2 hRm hM hl2 hl3 hm2 hcs hLm2 hM5 lM e2 hnM hk hqk hmk hck hvp hdrop hpk hRlen hp
      have hzr := HB.out.2
      have hne : (Value.slice ou j cu).ownBlock ≠ some g := fun e => by
        rcases own_ne2 HOw.out HG.out.own (show 3 ≠ 51 by decide) with h | h
        · cases h
        · exact h e.symm
      have hlo := fun x e => (HG.out.own.lt x e).1
      have CX := Lib.hid (fun W (h : Below wr.heap.size wr W) => show W.cell? ⟨g, j, none⟩ = some (.int .i64 (k : Nat)) ∧ W.cell? ⟨b, off + k, none⟩ = some (.slice (some ⟨b2, f2, none⟩) mk ck) ∧ W.cell? ⟨r, k, none⟩ = some (.int .i64 (qk : Nat)) ∧ W.cell? ⟨b2, f2 + qk * 2, none⟩ = some (.slice oM nM cM) ∧ W.cell? ⟨b2, f2 + qk * 2 + 1, none⟩ = some (.int .i64 vp) from
        ⟨(h.cell (p := ⟨g, _, none⟩) hgw.2).trans hcell, (h.cell (p := ⟨b, _, none⟩) (show b < _ by omega)).trans hc2, (h.cell (p := ⟨r, _, none⟩) (show r < _ by omega)).trans hrk, (h.cell (p := ⟨b2, _, none⟩) (show b2 < _ by omega)).trans r3, (h.cell (p := ⟨b2, _, none⟩) (show b2 < _ by omega)).trans r4⟩)
      have B0 := Lib.hid (show Below wr.heap.size wr wr.drew from (Below.refl _ _).drew)
      have B1 := Lib.hid (show Below wr.heap.size wr (wr.alloc (.cells #[.slice oM nM cM, .int .i64 vp] 51)).drew from ((Below.refl _ wr).alloc (Nat.le_refl _) _).drew)
      have cX := CX.out wr.drew B0.out
      have cX1 := CX.out _ B1.out
      have cX0 := CX.out wr (Below.refl _ _)
      have hsz : (wr.alloc (.cells #[.slice oM nM cM, .int .i64 vp] 51)).drew.heap.size = wr.heap.size + 1 := World.size_alloc wr (.cells #[.slice oM nM cM, .int .i64 vp] 51)
      have hGO : (wr.alloc (.cells #[.slice oM nM cM, .int .i64 vp] 51)).drew.ownsRow (r + 1) 51 2 (.slice ou j cu) j us.flatten := by
        have h := HG.out.own
        rw [HUL.out] at h
        exact own_grown h B1.out
      have HGO := Lib.hid hGO
      have HNE := Lib.hid hne
      have HLO := Lib.hid hlo
      have HSZ := Lib.hid hsz
      have HCK := Lib.hid (show ∀ x u, ([.slice oM nM cM, .int .i64 vp] : List Value)[x]? = some u → (wr.alloc (.cells #[.slice oM nM cM, .int .i64 vp] 51)).drew.cell? ((⟨wr.heap.size, 0, none⟩ : Addr).add x) = some u from fun x u h => cells_k wr [.slice oM nM cM, .int .i64 vp] 51 x u h)
      clear hcell hc2 hrk r3 r4 hGO hne hlo hsz
      go_wp2_with fail
      go_region_held3 (fun w' => w'.cell? ⟨g, j, none⟩ = some (.int .i64 (k : Nat)) ∧ w'.cell? ⟨b, off + k, none⟩ = some (.slice (some ⟨b2, f2, none⟩) mk ck) ∧ w'.cell? ⟨r, k, none⟩ = some (.int .i64 (qk : Nat)) ∧ w'.cell? ⟨b2, f2 + qk * 2, none⟩ = some (.slice oM nM cM) ∧ w'.cell? ⟨b2, f2 + qk * 2 + 1, none⟩ = some (.int .i64 vp)) (first | exact cX | exact cX1 | exact cX0 | exact cC) (first
        | (refine step_append_lies _ rfl (.tmp 21) (.tmp 38) 25 rfl (r + 1) 51 i1 (.agg #[.slice none 0 0, .int .i64 0]) 2 32 Tryz.underlying25 hi1 hy0 hy1 hy2 rfl (by decide) (.slice ou j cu) j us.flatten rfl HGO.out ⟨wr.heap.size, 0, none⟩ 1 1 [.slice oM nM cM, .int .i64 vp] rfl rfl HCK.out (by intro v hv; simp at hv; rcases hv with rfl | rfl <;> rfl) (by decide) (by unfold maxLen; omega) (by omega) (by rw [HSZ.out]; omega) _ rfl ?_
           intro g7 c7 wC hoC hgC hlC hzC
           have HOC := Lib.hid hoC
           have HGC := Lib.hid hgC
           have cC : wC.cell? ⟨g, j, none⟩ = some (.int .i64 (k : Nat)) ∧ wC.cell? ⟨b, off + k, none⟩ = some (.slice (some ⟨b2, f2, none⟩) mk ck) ∧ wC.cell? ⟨r, k, none⟩ = some (.int .i64 (qk : Nat)) ∧ wC.cell? ⟨b2, f2 + qk * 2, none⟩ = some (.slice oM nM cM) ∧ wC.cell? ⟨b2, f2 + qk * 2 + 1, none⟩ = some (.int .i64 vp) := ⟨(World.cell?_of_block (hgC.block g (by rw [HSZ.out]; omega) (fun e => HNE.out e.symm))).trans cX1.1, (World.cell?_of_block (hgC.block b (by rw [HSZ.out]; omega) (fun e => by have := HLO.out b e.symm; omega))).trans cX1.2.1, (World.cell?_of_block (hgC.block r (by rw [HSZ.out]; omega) (fun e => by have := HLO.out r e.symm; omega))).trans cX1.2.2.1, (World.cell?_of_block (hgC.block b2 (by rw [HSZ.out]; omega) (fun e => by have := HLO.out b2 e.symm; omega))).trans cX1.2.2.2.1, (World.cell?_of_block (hgC.block b2 (by rw [HSZ.out]; omega) (fun e => by have := HLO.out b2 e.symm; omega))).trans cX1.2.2.2.2⟩
           clear hoC hgC hlC))
      have HRC := Lib.hid ((HR.out.of_block (B1.out.block r (by omega))).of_block (HGC.out.block r (by rw [HSZ.out]; omega) (fun e => by have := HLO.out r e.symm; omega)))
      have hc9 := cC.2.2.1
      have hc8 := cC.1
      have hf9 := HRC.out.frozen k
      have HBC := Lib.hid ((HB.out.1.trans (B1.out.mono (show r ≤ wr.heap.size by omega))).grown HGC.out (by rw [HSZ.out]; omega) (fun x e => by have := HLO.out x e; omega))
      have HZC := Lib.hid (show r + 1 ≤ wC.heap.size from by have := HGC.out.size; rw [HSZ.out] at this; omega)
      have HOwC := Lib.hid ((own_grown HOw.out B1.out).kept HGC.out (.inr (fun e => HNE.out e.symm)))
      have HG5 := Lib.hid (OwnG.snoc (u := [.slice oM nM cM, .int .i64 vp]) (x := p.2) frow (show B ≤ r + 1 by omega) (HG.out.below frow B1.out) (HXE.out _ B1.out) (by rw [HUL.out]; exact HOC.out) HGC.out)
      have wk : IntKind.i64.wrap ((qk : Int) + 1) = ((qk + 1 : Nat) : Int) := by rw [IntKind.wrap_i64]; omega
      have wk2 : IntKind.i64.wrap ((j : Int) + 1) = ((j + 1 : Nat) : Int) := by rw [IntKind.wrap_i64]; omega
      clear cX cX1 cX0 cC CX B0 B1 HGO HG HR HOw HXE HOC HGC
      go_wp2
      go_roundw
      case measure => simp [Go.RowKit.intOf]; omega
      case rel =>
        refine ⟨j + 1, (fun x => if x = k then at_ k + 1 else at_ x), us ++ [[.slice oM nM cM, .int .i64 vp]], some ⟨g7, 0, none⟩, c7, rfl, by simp, by omega, Lib.hid (fun x => ?_), Lib.hid ((HRC.out.set k _).congr (fun x _ => ?_)), Lib.hid (ownsRow_setCell_below HOwC.out (show r < r + 1 by omega) _), ?_, HM2, Lib.hid ⟨HBC.out.setCell (Nat.le_refl r) _, by simp [World.setCell]; exact HZC.out⟩⟩
        · show (if x = k then at_ k + 1 else at_ x) ≤ j + 1
          split
          · have := HAT.out k; omega
          · have := HAT.out x; omega
        · show (if x = k then Value.int .i64 ((qk + 1 : Nat) : Int) else Value.int .i64 (at_ x : Nat)) = Value.int .i64 ((if x = k then at_ k + 1 else at_ x : Nat) : Int)
          by_cases e : x = k
          · subst e; rw [if_pos rfl, if_pos rfl, HQK.out]
          · rw [if_neg e, if_neg e]
        · obtain ⟨cs, hcs, _⟩ := HRC.out
          exact Lib.hid (by rw [HT1.out]; exact OwnG_set HG5.out hcs hBw (by omega))
    · have hjn : j = N := by omega
      subst hjn
      have i1 : (j : Int) ≤ j := by omega
      rw [List.take_of_length_le (by rw [HNN.out]; exact Nat.le_refl _)] at HG
      go_wp2
      go_ret
      exact ⟨⟨_, _, rfl, HG.out.own_le (by omega)⟩, HB.out.1⟩
end Go.Proofs.YtlnlbahggbbaeaaGreat.Mrg
