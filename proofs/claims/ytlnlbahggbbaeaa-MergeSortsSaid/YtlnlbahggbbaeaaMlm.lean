/- The document's Sort: the walk. -/
import Derived.Test.YtlnlbahggbbaeaaMll
import Derived.Test.YtlnlbahggbbaeaaMlk
namespace Go.Proofs.Ytlnlbahggbbaeaa.Mrg
open Go.RowKit Go.Lib Go.Proofs.Ytlnlbahggbbaeaa Go.Proofs.Ytlnlbahggbbaeaa.Vec Go.Proofs.Ytlnlbahggbbaeaa.Stb

theorem sort_len (by_ : Int) (l : List Rw) : (sortF by_ l).length = l.length := by rw [sortF_srt]; exact srt_len l
theorem sort_srtd (by_ : Int) (l : List Rw) : Srt (lessR by_) (sortF by_ l) := by rw [sortF_srt]; exact srt_srtd (swo_less by_) l
/-- One more is put where it belongs. -/
theorem sort_ins {by_ : Int} {xs : List Rw} {i k : Nat} {x : Rw} {S : List Rw} (hS : S = sortF by_ (xs.take i)) (hx : xs[i]? = some x) (hk : k ≤ S.length) (h2 : ∀ y ∈ S.drop k, lessR by_ x y = true) (h1 : ∀ m y, k = m + 1 → S[m]? = some y → lessR by_ x y = false) :
    insR S x k = sortF by_ (xs.take (i + 1)) := by
  have hs : Srt (lessR by_) S := by rw [hS]; exact sort_srtd by_ _
  rw [take_atG hx]
  unfold sortF
  rw [List.foldl_append]
  show insR S x k = insF by_ (sortF by_ (xs.take i)) x
  rw [← hS]
  unfold insF insR
  have e : mg (lessR by_) (S.take k ++ S.drop k) [x] = S.take k ++ x :: S.drop k := mg_one_right (lessR by_) x (S.take k) (S.drop k) (fun l hl => by
    cases k with
    | zero => simp at hl
    | succ m =>
      have hm : m < S.length := by omega
      have hxm := h1 m S[m] rfl (List.getElem?_eq_getElem hm)
      rw [List.take_succ_eq_append_getElem hm] at hl
      rcases List.mem_append.1 hl with hl | hl
      · refine (swo_less by_).ntrans _ _ _ hxm ?_
        have hs2 := hs
        rw [← List.take_append_drop m S, List.drop_eq_getElem_cons hm] at hs2
        exact (List.pairwise_append.1 hs2).2.2 l hl _ List.mem_cons_self
      · simp at hl
        rw [hl]; exact hxm) h2
  rw [List.take_append_drop] at e
  exact e.symm

set_option maxHeartbeats 16000000 in
set_option maxRecDepth 100000 in
theorem sort_any (by_ : Int) (o : Option Addr) (n c : Nat) (xs : List Rw) (w : World) (B : Nat) (hBw : B ≤ w.heap.size) (hn : xs.length = n) (hm : n ≤ 100000) (hS : RowsS w B o xs) :
    Calls Try.prog 7 #[.int .i64 by_, .slice o n c] w fun e w' => (∃ v us, e = .returned v ∧ OwnG (ERow B) 2 37 w' w.heap.size v us (sortF by_ xs)) ∧ Below w.heap.size w w' := by
  obtain ⟨i0, hi, hz0, hz1, hz2⟩ := info_parts infoRow
  have HN := Lib.hid hn
  have HS := Lib.hid hS
  clear hn hS
  go_enter Try.func7, Try.ntmps7
  go_wp2
  go_loopw [5, 6, 7] (fun v5 v6 _ wr => ∃ (i : Nat) (us : List (List Value)) (S : List Rw), v6 = .int .i64 i ∧ i ≤ n ∧ Hid (S = sortF by_ (xs.take i)) ∧ (i = 0 → v5 = .slice none 0 0) ∧ Hid (OwnG (ERow B) 2 37 wr w.heap.size v5 us S) ∧ Hid (Below w.heap.size w wr)) (fun _ v6 _ _ => n - (Go.RowKit.intOf v6).toNat)
  case atStart => exact ⟨0, [], [], rfl, Nat.zero_le _, Lib.hid (by rw [List.take_zero]; rfl), fun _ => rfl, Lib.hid (OwnG.nil _ _), Below.refl _ _⟩
  case round =>
    obtain ⟨i, us, S, rfl, hin0, HSS, hnil, HO, HBN⟩ := hrel
    have HSL := Lib.hid (show S.length = i by rw [HSS.out, sort_len, List.length_take, HN.out]; omega)
    by_cases hin : i < n
    · have j1 : (i : Int) < n := by omega
      have j0 : (0 : Int) ≤ i := by omega
      obtain ⟨x, hx⟩ := get_ltG HN.out hin
      obtain ⟨b, off, rfl, hR⟩ := (HS.out.below frow HBN.out).at hx
      obtain ⟨oL, cL, c0, c1, hL, lL⟩ := row_at hR hx
      obtain ⟨nL, hnL⟩ : ∃ nL, x.1.length = nL := ⟨_, rfl⟩
      rw [hnL] at c0
      have hlow := hR.low
      have HX := Lib.hid hx
      have HnL := Lib.hid hnL
      have HlL := Lib.hid lL
      have HUL := Lib.hid (show us.length = i from HO.out.len.trans HSL.out)
      have HWI := Lib.hid (HO.out.wide frow)
      have HCE := Lib.hid (HO.out.cellsE frow)
      obtain ⟨wo, hwo⟩ : ∃ wo : World, wr = wo := ⟨_, rfl⟩
      subst wr
      have HC := Lib.hid (fun W (h : Below wo.heap.size wo W) => (show W.cell? ⟨b, off + i * 2, none⟩ = some (.slice oL nL cL) ∧ W.cell? ⟨b, off + i * 2 + 1, none⟩ = some (.int .i64 x.2) from
        ⟨(h.cell (p := ⟨b, _, none⟩) hlow).trans c0, (h.cell (p := ⟨b, _, none⟩) hlow).trans c1⟩))
      have HL := Lib.hid hL
      clear hR hx hnL lL hlow c0 c1 hL
      by_cases hi0 : i = 0
      · obtain rfl := hnil hi0
        subst hi0
        obtain rfl : S = [] := List.eq_nil_of_length_eq_zero HSL.out
        obtain rfl : us = [] := List.eq_nil_of_length_eq_zero HUL.out
        clear hnil
        go_wp2_with fail
        go_loopw [7] (fun v7 wr => v7 = .int .i64 0 ∧ wr = wo) (fun _ _ => 0)
        case atStart => exact ⟨rfl, rfl⟩
        case round =>
          obtain ⟨rfl, rfl⟩ := hrel
          have HWB := Lib.hid (Below.refl wr.heap.size wr)
          go_wp2_with fail
          go_quiet (fail)
          go_wp2
          have HSE := Lib.hid (sort_ins (k := 0) HSS.out HX.out (Nat.le_refl _) (fun y hy => by simp at hy) (fun m y hm _ => by omega))
          obtain ⟨wq, hwq⟩ : ∃ wq, wr.drewN nq = wq := ⟨_, rfl⟩
          have HQ := Lib.hid (show Below wr.heap.size wr wq by rw [← hwq]; exact HWB.out.trans ((quietB ⟨_, rfl⟩).mono HWB.out.size))
          have HB1 := Lib.hid (HBN.out.trans (HQ.out.mono HBN.out.size))
          have HB0 := Lib.hid HB1.out.size
          have CX := Lib.hid (fun W (h : Below wq.heap.size wq W) => HC.out W (HQ.out.trans (h.mono HQ.out.size)))
          have B0 := Lib.hid (show Below wq.heap.size wq wq.drew from (Below.refl _ _).drew)
          have B1 := Lib.hid (show Below wq.heap.size wq (wq.drew.alloc (.cells #[.slice oL nL cL, .int .i64 x.2] 37)) from B0.out.alloc (Nat.le_refl _) _)
          have cX := CX.out wq.drew B0.out
          have cX1 := CX.out (wq.drew.alloc (.cells #[.slice oL nL cL, .int .i64 x.2] 37)) B1.out
          have HOQ := Lib.hid (HO.out.below frow HQ.out)
          have HLQ := Lib.hid (HL.out.below HQ.out)
          rw [hwq]
          clear hwq
          rw [show off + 0 * 2 = off by omega] at cX cX1 CX
          go_region_held3 (fun w' => w'.cell? ⟨b, off, none⟩ = some (.slice oL nL cL) ∧ w'.cell? ⟨b, off + 1, none⟩ = some (.int .i64 x.2)) (first | exact cX | exact cX1 | exact cA | exact cA1 | exact cC | exact cD) (first
            | (refine own_stepL rfl (.tmp 36) (.tmp 41) 25 rfl wq.heap.size 37 i0 (.agg #[.slice none 0 0, .int .i64 0]) 2 32 Try.underlying25 hi hz0 hz1 hz2 rfl (by decide) (.slice none 0 0) 0 [] rfl (World.ownsRow_nil _ _ _ _) ⟨wq.heap.size, 0, none⟩ 1 1 [.slice oL nL cL, .int .i64 x.2] rfl rfl (cells_k _ _ _) (by intro v hv; simp at hv; rcases hv with rfl | rfl <;> rfl) (by unfold maxLen; omega) (by omega) B1.out.size ?_
               intro v2 wC hoC hgC
               obtain ⟨g2, c2, rfl, q1, q2, q3, q4⟩ := own_posG (i := 1) hoC (by omega)
               have HOC := Lib.hid hoC
               have BC := Lib.hid (B1.out.trans ((below_ownL hgC).mono B1.out.size))
               have cC := CX.out wC BC.out
               clear hoC hgC))
          all_goals
            have HOE := Lib.hid (HOQ.out.ins frow hBw 0 (u := [.slice oL nL cL, .int .i64 x.2]) (x := x) ⟨oL, cL, by rw [HnL.out], HLQ.out, HlL.out⟩ BC.out HB0.out (Nat.zero_le _) (i := 0 + 1) HOC.out rfl)
            have HBE := Lib.hid (HB1.out.trans (BC.out.mono HB1.out.size))
            go_wp2
            go_roundw
            case rel => exact ⟨1, _, insR [] x 0, by go_num, by omega, HSE, fun h => by omega, HOE, HBE⟩
            case measure => simp [Go.RowKit.intOf]; omega
      · obtain ⟨g, sc, rfl, q1, q2, q3, q4⟩ := own_posG HO.out.own (by rw [HUL.out]; omega)
        rw [HUL.out] at HO q1 q3 ⊢
        have hne : i ≠ 0 := hi0
        clear hnil q2
        go_wp2_with fail
        go_loopw [7] (fun v7 wr => ∃ k : Nat, v7 = .int .i64 k ∧ k ≤ i ∧ Hid (∀ y ∈ S.drop k, lessR by_ x y = true) ∧ Hid (Below wo.heap.size wo wr)) (fun v7 _ => (Go.RowKit.intOf v7).toNat)
        case atStart => exact ⟨i, rfl, Nat.le_refl _, Lib.hid (fun y hy => by rw [List.drop_eq_nil_of_le (by rw [HSL.out]; omega)] at hy; simp at hy), Lib.hid (Below.refl _ _)⟩
        case round =>
          obtain ⟨k, rfl, hk, HGT, HWB⟩ := hrel
          have HBW := Lib.hid (HBN.out.trans (HWB.out.mono HBN.out.size))
          obtain ⟨d0, d1⟩ := HC.out _ HWB.out
          cases k with
          | zero =>
            have HSE := Lib.hid (sort_ins (k := 0) HSS.out HX.out (Nat.zero_le _) HGT.out (fun m y hm _ => by omega))
            go_wp2_with fail
            go_quiet (fail)
            go_wp2
            obtain ⟨wq, hwq⟩ : ∃ wq, wr.drewN nq = wq := ⟨_, rfl⟩
            have HQ := Lib.hid (show Below wo.heap.size wo wq by rw [← hwq]; exact HWB.out.trans ((quietB ⟨_, rfl⟩).mono HWB.out.size))
            have HB1 := Lib.hid (HBN.out.trans (HQ.out.mono HBN.out.size))
            have HB0 := Lib.hid HB1.out.size
            have CX := Lib.hid (fun W (h : Below wq.heap.size wq W) => HC.out W (HQ.out.trans (h.mono HQ.out.size)))
            have B0 := Lib.hid (show Below wq.heap.size wq wq.drew from (Below.refl _ _).drew)
            have B1 := Lib.hid (show Below wq.heap.size wq (wq.drew.alloc (.cells #[.slice oL nL cL, .int .i64 x.2] 37)) from B0.out.alloc (Nat.le_refl _) _)
            have cX := CX.out wq.drew B0.out
            have cX1 := CX.out (wq.drew.alloc (.cells #[.slice oL nL cL, .int .i64 x.2] 37)) B1.out
            have HOQ := Lib.hid (HO.out.below frow HQ.out)
            have HLQ := Lib.hid (HL.out.below HQ.out)
            rw [hwq]
            clear hwq
            have L1 := Lib.hid (show (us.take 0).flatten.length = 0 * 2 by rw [flat_len (fun u hu => HWI.out u (List.mem_of_mem_take hu)), List.length_take, HUL.out]; omega)
            have L3 := Lib.hid (show (us.drop 0).flatten.length = (i - 0) * 2 by rw [flat_len (fun u hu => HWI.out u (List.mem_of_mem_drop hu)), List.length_drop, HUL.out])
            have OC1 := Lib.hid (show ∀ v ∈ (us.take 0).flatten, v.oneCell' = true from fun v hv => by obtain ⟨u, hu, hv⟩ := List.mem_flatten.1 hv; exact HCE.out u (List.mem_of_mem_take hu) v hv)
            have OC3 := Lib.hid (show ∀ v ∈ (us.drop 0).flatten, v.oneCell' = true from fun v hv => by obtain ⟨u, hu, hv⟩ := List.mem_flatten.1 hv; exact HCE.out u (List.mem_of_mem_drop hu) v hv)
            have SRC1 := Lib.hid (fun W (h : Below wq.heap.size wq W) => HOQ.out.at_take frow 0 h)
            have SRC3 := Lib.hid (fun W (h : Below wq.heap.size wq W) => HOQ.out.at_drop frow 0 h)
            have k1 : ((0 : Nat) : Int) ≤ sc := by omega
            have k2 : ((0 : Nat) : Int) ≤ i := by omega
            have hcap : ¬ sc = 0 := by omega
            go_region_held3 (fun w' => w'.cell? ⟨b, off + i * 2, none⟩ = some (.slice oL nL cL) ∧ w'.cell? ⟨b, off + i * 2 + 1, none⟩ = some (.int .i64 x.2)) (first | exact cX | exact cX1 | exact cA | exact cA1 | exact cC | exact cD) (first
              | (refine own_stepL rfl (.const (.slice none 0 0)) (.tmp 35) 25 rfl wq.heap.size 37 i0 (.agg #[.slice none 0 0, .int .i64 0]) 2 32 Try.underlying25 hi hz0 hz1 hz2 rfl (by decide) (.slice none 0 0) 0 [] rfl (World.ownsRow_nil _ _ _ _) ⟨g, 0, none⟩ 0 sc (us.take 0).flatten rfl L1.out (fun j u hj => SRC1.out wq.drew B0.out j u hj) OC1.out (by unfold maxLen; omega) (by omega) (Nat.le_refl _) ?_
                 intro v1 wA hoA hgA
                 have HOA := Lib.hid hoA
                 have BA := Lib.hid (B0.out.trans ((below_ownL hgA).mono (Nat.le_refl _)))
                 have cA := CX.out wA BA.out
                 have cA1 := CX.out (wA.alloc (.cells #[.slice oL nL cL, .int .i64 x.2] 37)) (BA.out.alloc BA.out.size _)
                 clear hoA hgA)
              | (refine own_stepL rfl (.tmp 36) (.tmp 41) 25 rfl wq.heap.size 37 i0 (.agg #[.slice none 0 0, .int .i64 0]) 2 32 Try.underlying25 hi hz0 hz1 hz2 rfl (by decide) v1 _ _ rfl (HOA.out.alloc _) ⟨wA.heap.size, 0, none⟩ 1 1 [.slice oL nL cL, .int .i64 x.2] rfl rfl (cells_k _ _ _) (by intro v hv; simp at hv; rcases hv with rfl | rfl <;> rfl) (by unfold maxLen; omega) (by omega) (Nat.le_trans BA.out.size (by simp)) ?_
                 intro v2 wC hoC hgC
                 have HOC := Lib.hid hoC
                 have BC := Lib.hid (Below.grown (BA.out.alloc BA.out.size _) hgC (Nat.le_trans BA.out.size (by simp)) (fun j hj => (HOA.out.lt j hj).1) : Below wq.heap.size wq wC)
                 have cC := CX.out wC BC.out
                 clear hoC hgC)
              | (refine own_stepL rfl (.const (.slice none 0 0)) (.tmp 35) 25 rfl wq.heap.size 37 i0 (.agg #[.slice none 0 0, .int .i64 0]) 2 32 Try.underlying25 hi hz0 hz1 hz2 rfl (by decide) (.slice none 0 0) 0 [] rfl (World.ownsRow_nil _ _ _ _) ⟨g, 0, none⟩ 0 sc (us.take 0).flatten rfl L1.out (fun j u hj => SRC1.out (wq.drew.alloc (.cells #[.slice oL nL cL, .int .i64 x.2] 37)) B1.out j u hj) OC1.out (by unfold maxLen; omega) (by omega) B1.out.size ?_
                 intro v1 wA hoA hgA
                 have HOA := Lib.hid hoA
                 have BA := Lib.hid (B1.out.trans ((below_ownL hgA).mono B1.out.size))
                 have HX2 := Lib.hid (cell_keptR hgA)
                 have cA := CX.out wA BA.out
                 clear hoA hgA)
              | (refine own_stepL rfl (.tmp 36) (.tmp 41) 25 rfl wq.heap.size 37 i0 (.agg #[.slice none 0 0, .int .i64 0]) 2 32 Try.underlying25 hi hz0 hz1 hz2 rfl (by decide) v1 _ _ rfl HOA.out ⟨wq.heap.size, 0, none⟩ 1 1 [.slice oL nL cL, .int .i64 x.2] rfl rfl HX2.out (by intro v hv; simp at hv; rcases hv with rfl | rfl <;> rfl) (by unfold maxLen; omega) (by omega) BA.out.size ?_
                 intro v2 wC hoC hgC
                 have HOC := Lib.hid hoC
                 have BC := Lib.hid (Below.grown BA.out hgC BA.out.size (fun j hj => (HOA.out.lt j hj).1) : Below wq.heap.size wq wC)
                 have cC := CX.out wC BC.out
                 clear hoC hgC)
              | (refine own_stepL rfl (.tmp 42) (.tmp 45) 25 rfl wq.heap.size 37 i0 (.agg #[.slice none 0 0, .int .i64 0]) 2 32 Try.underlying25 hi hz0 hz1 hz2 rfl (by decide) v2 _ _ rfl HOC.out ⟨g, 0, none⟩ (i - 0) (sc - 0) (us.drop 0).flatten rfl L3.out (fun j u hj => SRC3.out wC BC.out j u hj) OC3.out (by unfold maxLen; omega) (by omega) BC.out.size ?_
                 intro v3 wD hoD hgD
                 have HOD := Lib.hid hoD
                 have BD := Lib.hid (Below.grown BC.out hgD BC.out.size (fun j hj => (HOC.out.lt j hj).1) : Below wq.heap.size wq wD)
                 have cD := CX.out wD BD.out
                 clear hoD hgD))
            all_goals
              have HOE := Lib.hid (HOQ.out.ins frow hBw 0 (u := [.slice oL nL cL, .int .i64 x.2]) (x := x) ⟨oL, cL, by rw [HnL.out], HLQ.out, HlL.out⟩ BD.out HB0.out (by rw [HSL.out]; omega) HOD.out (by rw [HSL.out]; omega))
              have HBE := Lib.hid (HB1.out.trans (BD.out.mono HB1.out.size))
              go_wp2
              go_roundw
              case rel => exact ⟨i + 1, _, insR S x 0, by go_num, by omega, HSE, fun h => by omega, HOE, HBE⟩
              case measure => simp [Go.RowKit.intOf]; omega
          | succ m =>
            have j2 : (m : Int) < i := by omega
            have j3 : (0 : Int) < (m : Int) + 1 := by omega
            have j5 : (0 : Int) ≤ (m : Int) := by omega
            have wm : IntKind.i64.wrap (m : Int) = m := by rw [IntKind.wrap_i64]; omega
            obtain ⟨y, hy⟩ := get_ltG HSL.out (show m < i by omega)
            obtain ⟨o2, c2, e2, hs2, _⟩ := HO.out.sees frow
            obtain rfl : o2 = some ⟨g, 0, none⟩ := (Value.slice.inj e2).1.symm
            obtain ⟨b3, f3, e3, hR2⟩ := hs2.at hy
            cases e3
            obtain ⟨oM, cM, r3, r4, hM, lM⟩ := row_at hR2 hy
            obtain ⟨nM, hnM⟩ : ∃ nM, y.1.length = nM := ⟨_, rfl⟩
            rw [hnM, Nat.zero_add] at r3
            rw [Nat.zero_add] at r4
            rw [← HWB.out.cell (p := ⟨g, _, none⟩) hR2.low] at r3 r4
            have hlg := Nat.lt_of_lt_of_le hR2.low HWB.out.size
            obtain ⟨cc, hcc⟩ : ∃ cc, lessR by_ x y = cc := ⟨_, rfl⟩
            have hbl := (HC.out _ HWB.out)
            have HQC := Lib.hid (fun W (hb : Hid (Below wr.heap.size wr W)) => (rless_any by_ oL oM nL cL nM cM x y W HnL.out hnM HlL.out lM ((HL.out.below HWB.out).sees.below hb.out) ((hM.below HWB.out).sees.below hb.out)).mono (fun e w' q => show e = .returned (.bool cc) ∧ (w'.cell? ⟨b, off + i * 2, none⟩ = some (.slice oL nL cL) ∧ w'.cell? ⟨b, off + i * 2 + 1, none⟩ = some (.int .i64 x.2) ∧ w'.cell? ⟨g, m * 2, none⟩ = some (.slice oM nM cM) ∧ w'.cell? ⟨g, m * 2 + 1, none⟩ = some (.int .i64 y.2)) ∧ Hid (Below wr.heap.size wr w') from
              have h2 := hb.out.trans (q.2.mono hb.out.size)
              ⟨by rw [q.1, hcc], ⟨(HC.out _ (HWB.out.trans (h2.mono HWB.out.size))).1, (HC.out _ (HWB.out.trans (h2.mono HWB.out.size))).2, (h2.cell (p := ⟨g, _, none⟩) hlg).trans r3, (h2.cell (p := ⟨g, _, none⟩) hlg).trans r4⟩, h2⟩))
            have rb := Lib.hid (Below.refl wr.heap.size wr).drew
            have HCC := Lib.hid hcc
            have HY := Lib.hid hy
            obtain ⟨vy, hvy⟩ : ∃ vy, y.2 = vy := ⟨_, rfl⟩
            rw [hvy] at r4 HQC
            clear hy hs2 hR2 hM lM hnM hcc e2 hvy hbl
            go_wp2_with fail
            go_region_held3 (fun w' => w'.cell? ⟨b, off + i * 2, none⟩ = some (.slice oL nL cL) ∧ w'.cell? ⟨b, off + i * 2 + 1, none⟩ = some (.int .i64 x.2) ∧ w'.cell? ⟨g, m * 2, none⟩ = some (.slice oM nM cM) ∧ w'.cell? ⟨g, m * 2 + 1, none⟩ = some (.int .i64 vy)) (first | exact ⟨s1, s2, s3, s4⟩ | exact ⟨d0, d1, r3, r4⟩) (first
              | (go_at_call 13; go_fit (HQC.out _ rb); rintro e wq ⟨rfl, ⟨s1, s2, s3, s4⟩, sb⟩))
            have HQ := Lib.hid (HWB.out.trans (sb.out.mono HWB.out.size))
            clear HQC rb d0 d1 r3 r4 s1 s2 s3 s4 sb
            cases cc with
            | true =>
              have HGT2 := Lib.hid (show ∀ z ∈ S.drop m, lessR by_ x z = true from fun z hz => by
                rw [drop_atG HY.out] at hz
                rcases List.mem_cons.1 hz with rfl | hz
                · exact HCC.out
                · exact HGT.out z hz)
              go_wp2
              go_roundw
              case rel => exact ⟨m, by go_num, by omega, HGT2, HQ⟩
              case measure => simp [Go.RowKit.intOf]
            | false =>
              have HSE := Lib.hid (sort_ins (k := m + 1) HSS.out HX.out (by rw [HSL.out]; omega) HGT.out (fun q z hq hz => by
                obtain rfl : m = q := by omega
                rw [HY.out] at hz; cases hz; exact HCC.out))
              go_wp2
              obtain ⟨k, hkm⟩ : ∃ k, m + 1 = k := ⟨_, rfl⟩
              have ek : (m : Int) + 1 = (k : Int) := by omega
              rw [hkm] at HSE hk
              rw [ek]
              clear ek wm j2 j3 j5 HY HCC HGT HWB HBW hkm
              have k0 : (0 : Int) ≤ (k : Int) := by omega
              by_cases hki : k < i
              · have HB1 := Lib.hid (HBN.out.trans (HQ.out.mono HBN.out.size))
                have HB0 := Lib.hid HB1.out.size
                have CX := Lib.hid (fun W (h : Below wq.heap.size wq W) => HC.out W (HQ.out.trans (h.mono HQ.out.size)))
                have B0 := Lib.hid (show Below wq.heap.size wq wq.drew from (Below.refl _ _).drew)
                have B1 := Lib.hid (show Below wq.heap.size wq (wq.drew.alloc (.cells #[.slice oL nL cL, .int .i64 x.2] 37)) from B0.out.alloc (Nat.le_refl _) _)
                have cX := CX.out wq.drew B0.out
                have cX1 := CX.out (wq.drew.alloc (.cells #[.slice oL nL cL, .int .i64 x.2] 37)) B1.out
                have HOQ := Lib.hid (HO.out.below frow HQ.out)
                have HLQ := Lib.hid (HL.out.below HQ.out)
                have L1 := Lib.hid (show (us.take k).flatten.length = k * 2 by rw [flat_len (fun u hu => HWI.out u (List.mem_of_mem_take hu)), List.length_take, HUL.out]; omega)
                have L3 := Lib.hid (show (us.drop k).flatten.length = (i - k) * 2 by rw [flat_len (fun u hu => HWI.out u (List.mem_of_mem_drop hu)), List.length_drop, HUL.out])
                have OC1 := Lib.hid (show ∀ v ∈ (us.take k).flatten, v.oneCell' = true from fun v hv => by obtain ⟨u, hu, hv⟩ := List.mem_flatten.1 hv; exact HCE.out u (List.mem_of_mem_take hu) v hv)
                have OC3 := Lib.hid (show ∀ v ∈ (us.drop k).flatten, v.oneCell' = true from fun v hv => by obtain ⟨u, hu, hv⟩ := List.mem_flatten.1 hv; exact HCE.out u (List.mem_of_mem_drop hu) v hv)
                have SRC1 := Lib.hid (fun W (h : Below wq.heap.size wq W) => HOQ.out.at_take frow k h)
                have SRC3 := Lib.hid (fun W (h : Below wq.heap.size wq W) => HOQ.out.at_drop frow k h)
                have k1 : ((k : Nat) : Int) ≤ sc := by omega
                have k2 : ((k : Nat) : Int) ≤ i := by omega
                have hcap : ¬ sc = k := by omega
                go_region_held3 (fun w' => w'.cell? ⟨b, off + i * 2, none⟩ = some (.slice oL nL cL) ∧ w'.cell? ⟨b, off + i * 2 + 1, none⟩ = some (.int .i64 x.2)) (first | exact cX | exact cX1 | exact cA | exact cA1 | exact cC | exact cD) (first
                  | (refine own_stepL rfl (.const (.slice none 0 0)) (.tmp 35) 25 rfl wq.heap.size 37 i0 (.agg #[.slice none 0 0, .int .i64 0]) 2 32 Try.underlying25 hi hz0 hz1 hz2 rfl (by decide) (.slice none 0 0) 0 [] rfl (World.ownsRow_nil _ _ _ _) ⟨g, 0, none⟩ k sc (us.take k).flatten rfl L1.out (fun j u hj => SRC1.out wq.drew B0.out j u hj) OC1.out (by unfold maxLen; omega) (by omega) (Nat.le_refl _) ?_
                     intro v1 wA hoA hgA
                     have HOA := Lib.hid hoA
                     have BA := Lib.hid (B0.out.trans ((below_ownL hgA).mono (Nat.le_refl _)))
                     have cA := CX.out wA BA.out
                     have cA1 := CX.out (wA.alloc (.cells #[.slice oL nL cL, .int .i64 x.2] 37)) (BA.out.alloc BA.out.size _)
                     clear hoA hgA)
                  | (refine own_stepL rfl (.tmp 36) (.tmp 41) 25 rfl wq.heap.size 37 i0 (.agg #[.slice none 0 0, .int .i64 0]) 2 32 Try.underlying25 hi hz0 hz1 hz2 rfl (by decide) v1 _ _ rfl (HOA.out.alloc _) ⟨wA.heap.size, 0, none⟩ 1 1 [.slice oL nL cL, .int .i64 x.2] rfl rfl (cells_k _ _ _) (by intro v hv; simp at hv; rcases hv with rfl | rfl <;> rfl) (by unfold maxLen; omega) (by omega) (Nat.le_trans BA.out.size (by simp)) ?_
                     intro v2 wC hoC hgC
                     have HOC := Lib.hid hoC
                     have BC := Lib.hid (Below.grown (BA.out.alloc BA.out.size _) hgC (Nat.le_trans BA.out.size (by simp)) (fun j hj => (HOA.out.lt j hj).1) : Below wq.heap.size wq wC)
                     have cC := CX.out wC BC.out
                     clear hoC hgC)
                  | (refine own_stepL rfl (.const (.slice none 0 0)) (.tmp 35) 25 rfl wq.heap.size 37 i0 (.agg #[.slice none 0 0, .int .i64 0]) 2 32 Try.underlying25 hi hz0 hz1 hz2 rfl (by decide) (.slice none 0 0) 0 [] rfl (World.ownsRow_nil _ _ _ _) ⟨g, 0, none⟩ k sc (us.take k).flatten rfl L1.out (fun j u hj => SRC1.out (wq.drew.alloc (.cells #[.slice oL nL cL, .int .i64 x.2] 37)) B1.out j u hj) OC1.out (by unfold maxLen; omega) (by omega) B1.out.size ?_
                     intro v1 wA hoA hgA
                     have HOA := Lib.hid hoA
                     have BA := Lib.hid (B1.out.trans ((below_ownL hgA).mono B1.out.size))
                     have HX2 := Lib.hid (cell_keptR hgA)
                     have cA := CX.out wA BA.out
                     clear hoA hgA)
                  | (refine own_stepL rfl (.tmp 36) (.tmp 41) 25 rfl wq.heap.size 37 i0 (.agg #[.slice none 0 0, .int .i64 0]) 2 32 Try.underlying25 hi hz0 hz1 hz2 rfl (by decide) v1 _ _ rfl HOA.out ⟨wq.heap.size, 0, none⟩ 1 1 [.slice oL nL cL, .int .i64 x.2] rfl rfl HX2.out (by intro v hv; simp at hv; rcases hv with rfl | rfl <;> rfl) (by unfold maxLen; omega) (by omega) BA.out.size ?_
                     intro v2 wC hoC hgC
                     have HOC := Lib.hid hoC
                     have BC := Lib.hid (Below.grown BA.out hgC BA.out.size (fun j hj => (HOA.out.lt j hj).1) : Below wq.heap.size wq wC)
                     have cC := CX.out wC BC.out
                     clear hoC hgC)
                  | (refine own_stepL rfl (.tmp 42) (.tmp 45) 25 rfl wq.heap.size 37 i0 (.agg #[.slice none 0 0, .int .i64 0]) 2 32 Try.underlying25 hi hz0 hz1 hz2 rfl (by decide) v2 _ _ rfl HOC.out ⟨g, k * 2, none⟩ (i - k) (sc - k) (us.drop k).flatten rfl L3.out (fun j u hj => SRC3.out wC BC.out j u hj) OC3.out (by unfold maxLen; omega) (by omega) BC.out.size ?_
                     intro v3 wD hoD hgD
                     have HOD := Lib.hid hoD
                     have BD := Lib.hid (Below.grown BC.out hgD BC.out.size (fun j hj => (HOC.out.lt j hj).1) : Below wq.heap.size wq wD)
                     have cD := CX.out wD BD.out
                     clear hoD hgD))
                all_goals
                  have HOE := Lib.hid (HOQ.out.ins frow hBw k (u := [.slice oL nL cL, .int .i64 x.2]) (x := x) ⟨oL, cL, by rw [HnL.out], HLQ.out, HlL.out⟩ BD.out HB0.out (by rw [HSL.out]; omega) HOD.out (by rw [HSL.out]; omega))
                  have HBE := Lib.hid (HB1.out.trans (BD.out.mono HB1.out.size))
                  go_wp2
                  go_roundw
                  case rel => exact ⟨i + 1, _, insR S x k, by go_num, by omega, HSE, fun h => by omega, HOE, HBE⟩
                  case measure => simp [Go.RowKit.intOf]; omega
              · obtain rfl : k = i := by omega
                have HB1 := Lib.hid (HBN.out.trans (HQ.out.mono HBN.out.size))
                have HB0 := Lib.hid HB1.out.size
                have CX := Lib.hid (fun W (h : Below wq.heap.size wq W) => HC.out W (HQ.out.trans (h.mono HQ.out.size)))
                have B0 := Lib.hid (show Below wq.heap.size wq wq.drew from (Below.refl _ _).drew)
                have B1 := Lib.hid (show Below wq.heap.size wq (wq.drew.alloc (.cells #[.slice oL nL cL, .int .i64 x.2] 37)) from B0.out.alloc (Nat.le_refl _) _)
                have cX := CX.out wq.drew B0.out
                have cX1 := CX.out (wq.drew.alloc (.cells #[.slice oL nL cL, .int .i64 x.2] 37)) B1.out
                have HOQ := Lib.hid (HO.out.below frow HQ.out)
                have HLQ := Lib.hid (HL.out.below HQ.out)
                have L1 := Lib.hid (show (us.take k).flatten.length = k * 2 by rw [flat_len (fun u hu => HWI.out u (List.mem_of_mem_take hu)), List.length_take, HUL.out]; omega)
                have L3 := Lib.hid (show (us.drop k).flatten.length = (0) * 2 by rw [flat_len (fun u hu => HWI.out u (List.mem_of_mem_drop hu)), List.length_drop, HUL.out]; omega)
                have OC1 := Lib.hid (show ∀ v ∈ (us.take k).flatten, v.oneCell' = true from fun v hv => by obtain ⟨u, hu, hv⟩ := List.mem_flatten.1 hv; exact HCE.out u (List.mem_of_mem_take hu) v hv)
                have OC3 := Lib.hid (show ∀ v ∈ (us.drop k).flatten, v.oneCell' = true from fun v hv => by obtain ⟨u, hu, hv⟩ := List.mem_flatten.1 hv; exact HCE.out u (List.mem_of_mem_drop hu) v hv)
                have SRC1 := Lib.hid (fun W (h : Below wq.heap.size wq W) => HOQ.out.at_take frow k h)
                have k1 : (k : Int) ≤ sc := by omega
                have k2 : (k : Int) ≤ k := by omega
                by_cases hcap : sc = k
                · have SRC3 := Lib.hid (fun W (_ : Below wq.heap.size wq W) => (show ∀ j u, (us.drop k).flatten[j]? = some u → W.cell? ((⟨g, 0, none⟩ : Addr).add j) = some u from fun j u hj => by
                    rw [List.drop_eq_nil_of_le (by rw [HUL.out]; omega)] at hj; simp at hj))
                  obtain rfl : k = sc := hcap.symm
                  go_region_held3 (fun w' => w'.cell? ⟨b, off + k * 2, none⟩ = some (.slice oL nL cL) ∧ w'.cell? ⟨b, off + k * 2 + 1, none⟩ = some (.int .i64 x.2)) (first | exact cX | exact cX1 | exact cA | exact cA1 | exact cC | exact cD) (first
                    | (refine own_stepL rfl (.const (.slice none 0 0)) (.tmp 35) 25 rfl wq.heap.size 37 i0 (.agg #[.slice none 0 0, .int .i64 0]) 2 32 Try.underlying25 hi hz0 hz1 hz2 rfl (by decide) (.slice none 0 0) 0 [] rfl (World.ownsRow_nil _ _ _ _) ⟨g, 0, none⟩ k k (us.take k).flatten rfl L1.out (fun j u hj => SRC1.out wq.drew B0.out j u hj) OC1.out (by unfold maxLen; omega) (by omega) (Nat.le_refl _) ?_
                       intro v1 wA hoA hgA
                       have HOA := Lib.hid hoA
                       have BA := Lib.hid (B0.out.trans ((below_ownL hgA).mono (Nat.le_refl _)))
                       have cA := CX.out wA BA.out
                       have cA1 := CX.out (wA.alloc (.cells #[.slice oL nL cL, .int .i64 x.2] 37)) (BA.out.alloc BA.out.size _)
                       clear hoA hgA)
                    | (refine own_stepL rfl (.tmp 36) (.tmp 41) 25 rfl wq.heap.size 37 i0 (.agg #[.slice none 0 0, .int .i64 0]) 2 32 Try.underlying25 hi hz0 hz1 hz2 rfl (by decide) v1 _ _ rfl (HOA.out.alloc _) ⟨wA.heap.size, 0, none⟩ 1 1 [.slice oL nL cL, .int .i64 x.2] rfl rfl (cells_k _ _ _) (by intro v hv; simp at hv; rcases hv with rfl | rfl <;> rfl) (by unfold maxLen; omega) (by omega) (Nat.le_trans BA.out.size (by simp)) ?_
                       intro v2 wC hoC hgC
                       have HOC := Lib.hid hoC
                       have BC := Lib.hid (Below.grown (BA.out.alloc BA.out.size _) hgC (Nat.le_trans BA.out.size (by simp)) (fun j hj => (HOA.out.lt j hj).1) : Below wq.heap.size wq wC)
                       have cC := CX.out wC BC.out
                       clear hoC hgC)
                    | (refine own_stepL rfl (.const (.slice none 0 0)) (.tmp 35) 25 rfl wq.heap.size 37 i0 (.agg #[.slice none 0 0, .int .i64 0]) 2 32 Try.underlying25 hi hz0 hz1 hz2 rfl (by decide) (.slice none 0 0) 0 [] rfl (World.ownsRow_nil _ _ _ _) ⟨g, 0, none⟩ k k (us.take k).flatten rfl L1.out (fun j u hj => SRC1.out (wq.drew.alloc (.cells #[.slice oL nL cL, .int .i64 x.2] 37)) B1.out j u hj) OC1.out (by unfold maxLen; omega) (by omega) B1.out.size ?_
                       intro v1 wA hoA hgA
                       have HOA := Lib.hid hoA
                       have BA := Lib.hid (B1.out.trans ((below_ownL hgA).mono B1.out.size))
                       have HX2 := Lib.hid (cell_keptR hgA)
                       have cA := CX.out wA BA.out
                       clear hoA hgA)
                    | (refine own_stepL rfl (.tmp 36) (.tmp 41) 25 rfl wq.heap.size 37 i0 (.agg #[.slice none 0 0, .int .i64 0]) 2 32 Try.underlying25 hi hz0 hz1 hz2 rfl (by decide) v1 _ _ rfl HOA.out ⟨wq.heap.size, 0, none⟩ 1 1 [.slice oL nL cL, .int .i64 x.2] rfl rfl HX2.out (by intro v hv; simp at hv; rcases hv with rfl | rfl <;> rfl) (by unfold maxLen; omega) (by omega) BA.out.size ?_
                       intro v2 wC hoC hgC
                       have HOC := Lib.hid hoC
                       have BC := Lib.hid (Below.grown BA.out hgC BA.out.size (fun j hj => (HOA.out.lt j hj).1) : Below wq.heap.size wq wC)
                       have cC := CX.out wC BC.out
                       clear hoC hgC)
                    | (refine own_stepL rfl (.tmp 42) (.tmp 45) 25 rfl wq.heap.size 37 i0 (.agg #[.slice none 0 0, .int .i64 0]) 2 32 Try.underlying25 hi hz0 hz1 hz2 rfl (by decide) v2 _ _ rfl HOC.out ⟨g, 0, none⟩ 0 0 (us.drop k).flatten rfl L3.out (fun j u hj => SRC3.out wC BC.out j u hj) OC3.out (by unfold maxLen; omega) (by omega) BC.out.size ?_
                       intro v3 wD hoD hgD
                       have HOD := Lib.hid hoD
                       have BD := Lib.hid (Below.grown BC.out hgD BC.out.size (fun j hj => (HOC.out.lt j hj).1) : Below wq.heap.size wq wD)
                       have cD := CX.out wD BD.out
                       clear hoD hgD))
                  all_goals
                    have HOE := Lib.hid (HOQ.out.ins frow hBw k (u := [.slice oL nL cL, .int .i64 x.2]) (x := x) ⟨oL, cL, by rw [HnL.out], HLQ.out, HlL.out⟩ BD.out HB0.out (by rw [HSL.out]; omega) HOD.out (by rw [HSL.out]; omega))
                    have HBE := Lib.hid (HB1.out.trans (BD.out.mono HB1.out.size))
                    go_wp2
                    go_roundw
                    case rel => exact ⟨k + 1, _, insR S x k, by go_num, by omega, HSE, fun h => by omega, HOE, HBE⟩
                    case measure => simp [Go.RowKit.intOf]; omega
                · have SRC3 := Lib.hid (fun W (h : Below wq.heap.size wq W) => HOQ.out.at_drop frow k h)
                  go_region_held3 (fun w' => w'.cell? ⟨b, off + k * 2, none⟩ = some (.slice oL nL cL) ∧ w'.cell? ⟨b, off + k * 2 + 1, none⟩ = some (.int .i64 x.2)) (first | exact cX | exact cX1 | exact cA | exact cA1 | exact cC | exact cD) (first
                    | (refine own_stepL rfl (.const (.slice none 0 0)) (.tmp 35) 25 rfl wq.heap.size 37 i0 (.agg #[.slice none 0 0, .int .i64 0]) 2 32 Try.underlying25 hi hz0 hz1 hz2 rfl (by decide) (.slice none 0 0) 0 [] rfl (World.ownsRow_nil _ _ _ _) ⟨g, 0, none⟩ k sc (us.take k).flatten rfl L1.out (fun j u hj => SRC1.out wq.drew B0.out j u hj) OC1.out (by unfold maxLen; omega) (by omega) (Nat.le_refl _) ?_
                       intro v1 wA hoA hgA
                       have HOA := Lib.hid hoA
                       have BA := Lib.hid (B0.out.trans ((below_ownL hgA).mono (Nat.le_refl _)))
                       have cA := CX.out wA BA.out
                       have cA1 := CX.out (wA.alloc (.cells #[.slice oL nL cL, .int .i64 x.2] 37)) (BA.out.alloc BA.out.size _)
                       clear hoA hgA)
                    | (refine own_stepL rfl (.tmp 36) (.tmp 41) 25 rfl wq.heap.size 37 i0 (.agg #[.slice none 0 0, .int .i64 0]) 2 32 Try.underlying25 hi hz0 hz1 hz2 rfl (by decide) v1 _ _ rfl (HOA.out.alloc _) ⟨wA.heap.size, 0, none⟩ 1 1 [.slice oL nL cL, .int .i64 x.2] rfl rfl (cells_k _ _ _) (by intro v hv; simp at hv; rcases hv with rfl | rfl <;> rfl) (by unfold maxLen; omega) (by omega) (Nat.le_trans BA.out.size (by simp)) ?_
                       intro v2 wC hoC hgC
                       have HOC := Lib.hid hoC
                       have BC := Lib.hid (Below.grown (BA.out.alloc BA.out.size _) hgC (Nat.le_trans BA.out.size (by simp)) (fun j hj => (HOA.out.lt j hj).1) : Below wq.heap.size wq wC)
                       have cC := CX.out wC BC.out
                       clear hoC hgC)
                    | (refine own_stepL rfl (.const (.slice none 0 0)) (.tmp 35) 25 rfl wq.heap.size 37 i0 (.agg #[.slice none 0 0, .int .i64 0]) 2 32 Try.underlying25 hi hz0 hz1 hz2 rfl (by decide) (.slice none 0 0) 0 [] rfl (World.ownsRow_nil _ _ _ _) ⟨g, 0, none⟩ k sc (us.take k).flatten rfl L1.out (fun j u hj => SRC1.out (wq.drew.alloc (.cells #[.slice oL nL cL, .int .i64 x.2] 37)) B1.out j u hj) OC1.out (by unfold maxLen; omega) (by omega) B1.out.size ?_
                       intro v1 wA hoA hgA
                       have HOA := Lib.hid hoA
                       have BA := Lib.hid (B1.out.trans ((below_ownL hgA).mono B1.out.size))
                       have HX2 := Lib.hid (cell_keptR hgA)
                       have cA := CX.out wA BA.out
                       clear hoA hgA)
                    | (refine own_stepL rfl (.tmp 36) (.tmp 41) 25 rfl wq.heap.size 37 i0 (.agg #[.slice none 0 0, .int .i64 0]) 2 32 Try.underlying25 hi hz0 hz1 hz2 rfl (by decide) v1 _ _ rfl HOA.out ⟨wq.heap.size, 0, none⟩ 1 1 [.slice oL nL cL, .int .i64 x.2] rfl rfl HX2.out (by intro v hv; simp at hv; rcases hv with rfl | rfl <;> rfl) (by unfold maxLen; omega) (by omega) BA.out.size ?_
                       intro v2 wC hoC hgC
                       have HOC := Lib.hid hoC
                       have BC := Lib.hid (Below.grown BA.out hgC BA.out.size (fun j hj => (HOA.out.lt j hj).1) : Below wq.heap.size wq wC)
                       have cC := CX.out wC BC.out
                       clear hoC hgC)
                    | (refine own_stepL rfl (.tmp 42) (.tmp 45) 25 rfl wq.heap.size 37 i0 (.agg #[.slice none 0 0, .int .i64 0]) 2 32 Try.underlying25 hi hz0 hz1 hz2 rfl (by decide) v2 _ _ rfl HOC.out ⟨g, k * 2, none⟩ 0 (sc - k) (us.drop k).flatten rfl L3.out (fun j u hj => SRC3.out wC BC.out j u hj) OC3.out (by unfold maxLen; omega) (by omega) BC.out.size ?_
                       intro v3 wD hoD hgD
                       have HOD := Lib.hid hoD
                       have BD := Lib.hid (Below.grown BC.out hgD BC.out.size (fun j hj => (HOC.out.lt j hj).1) : Below wq.heap.size wq wD)
                       have cD := CX.out wD BD.out
                       clear hoD hgD))
                  all_goals
                    have HOE := Lib.hid (HOQ.out.ins frow hBw k (u := [.slice oL nL cL, .int .i64 x.2]) (x := x) ⟨oL, cL, by rw [HnL.out], HLQ.out, HlL.out⟩ BD.out HB0.out (by rw [HSL.out]; omega) HOD.out (by rw [HSL.out]; omega))
                    have HBE := Lib.hid (HB1.out.trans (BD.out.mono HB1.out.size))
                    go_wp2
                    go_roundw
                    case rel => exact ⟨k + 1, _, insR S x k, by go_num, by omega, HSE, fun h => by omega, HOE, HBE⟩
                    case measure => simp [Go.RowKit.intOf]; omega
    · have hE : i = n := by omega
      have j1 : ¬ (i : Int) < n := by omega
      have HD := Lib.hid (show S = sortF by_ xs by rw [HSS.out, List.take_of_length_le (by rw [HN.out]; omega)])
      clear hE
      go_wp2
      go_ret
      exact ⟨⟨_, rfl, us, by rw [← HD.out]; exact HO.out⟩, HBN.out⟩
end Go.Proofs.Ytlnlbahggbbaeaa.Mrg
