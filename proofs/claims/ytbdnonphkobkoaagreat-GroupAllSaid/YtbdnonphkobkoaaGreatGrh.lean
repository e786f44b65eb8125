/- Groups that stand one behind the other are joined: the walk's loop. -/
import Derived.Test.YtbdnonphkobkoaaGreatGrg
namespace Go.Proofs.YtbdnonphkobkoaaGreat.Grp
open Go.RowKit Go.Lib Go.Sort Vec

theorem infoG0 : (Tryz.prog.info? 115).map (fun i => (i.zero, i.size, i.bytes)) = some (some (.agg #[.slice none 0 0, .slice none 0 0]), 2, 48) := by kernel_rfl
/-- The state of the walk's loop: no group yet, or some and a last one. -/
def JSt (B0 : Nat) (w : World) (v : Value) (acc : List Grp) : Prop :=
  (acc = [] ∧ v = .slice none 0 0) ∨ ∃ (g cap D : Nat) (usA : List (List Value)) (oK : Option Addr) (cK : Nat) (vR : Value) (A : List Grp) (L : Grp), acc = A ++ [L] ∧ v = .slice (some ⟨g, 0, none⟩) (A.length + 1) cap ∧ LastAt B0 w g cap D usA oK cK vR A L

theorem JSt.own {B0 : Nat} {w : World} {v : Value} {acc : List Grp} (h : JSt B0 w v acc) (hne : ∀ g ∈ acc, g.2 ≠ []) : ∃ us, OwnG (EGrp w.heap.size) 2 115 w B0 v us acc := by
  rcases h with ⟨rfl, rfl⟩ | ⟨g, cap, D, usA, oK, cK, vR, A, L, rfl, rfl, h⟩
  · exact ⟨[], OwnG.nil _ _⟩
  · exact ⟨_, h.all (hne L (by simp))⟩

/-- A new group of one row, behind all others. -/
theorem JSt.put {B0 : Nat} {w wz wA : World} {v vA : Value} {us : List (List Value)} {acc : List Grp} {x : One} {oK : Option Addr} {cK b : Nat} (ho : OwnG (EGrp w.heap.size) 2 115 wz B0 v us acc) (hB : B0 ≤ wz.heap.size) (hD : w.heap.size ≤ wA.heap.size)
    (hx : LabS wz 0 oK x.1) (hl : x.1.length ≤ maxLen) (hr : RowAt wz b x.2) (hoA : wA.ownsRow B0 115 2 vA (us.length + 1) (us.flatten ++ [.slice oK x.1.length cK, .slice (some ⟨b, 0, none⟩) 1 1])) (hgA : wz.grownBy wA v.ownBlock) : JSt B0 wA vA (acc ++ [oneOf x]) := by
  have hrow : ∀ g, v.ownBlock = some g → ∃ cs m, wz.heap[g]? = some (.cells cs 115 m) := fun g hg => (own_row ho.own g hg).2
  obtain ⟨g, cap, rfl⟩ : ∃ g cap, vA = .slice (some ⟨g, 0, none⟩) (us.length + 1) cap := by
    rcases hoA.2 with ⟨_, h0⟩ | ⟨g, cap, cur, rfl, _⟩
    · omega
    · exact ⟨g, cap, rfl⟩
  have hl2 := ho.len
  refine .inr ⟨g, cap, wA.heap.size, us, oK, cK, .slice (some ⟨b, 0, none⟩) 1 1, acc, oneOf x, rfl, by rw [hl2], ⟨by rw [← hl2]; exact hoA, hl2, fun j y hy => ?_, ?_, hl, Nat.le_refl _, Nat.le_trans hB hgA.size, .inl ⟨b, x.2, rfl, rfl, ?_⟩⟩⟩
  · obtain ⟨u, h1, h2⟩ := ho.one j y hy
    exact ⟨u, h1, ((firmGrp (B := 0)).grown _ _ _ _ _ h2 (fun g hg => ⟨Nat.zero_le _, hrow g hg⟩) hgA).mono hD⟩
  · exact hx.grown neLG (fun g hg => ⟨Nat.zero_le _, hrow g hg⟩) hgA
  · obtain ⟨oL, cL, m, r1, r2, r3⟩ := hr
    exact ⟨oL, cL, m, heap_grown r1 neRG hrow hgA, r2.grown neLG (fun g hg => ⟨Nat.zero_le _, hrow g hg⟩) hgA, r3⟩

set_option maxHeartbeats 8000000 in
set_option maxRecDepth 100000 in
theorem join_any (o : Option Addr) (n c : Nat) (xs : List One) (w : World) (hn : xs.length = n) (hm : n ≤ 1000) (hS : SeeG EOne 2 w o xs) :
    Calls Tryz.prog 134 #[.slice o n c] w fun e w' => ∃ v2 us2 D, e = .returned v2 ∧ OwnG (EGrp D) 2 115 w' w.heap.size v2 us2 (joinR (xs.map oneOf)) ∧ Below w.heap.size w w' := by
  obtain ⟨i0, hi, hz0, hz1, hz2⟩ := info_parts infoG0
  have HN := Lib.hid hn
  have HS := Lib.hid hS
  clear hn hS
  go_enter Tryz.func134, Tryz.ntmps134
  go_wp2
  go_loopw [3, 9] (fun v3 v9 wr => ∃ k : Nat, v9 = .int .i64 k ∧ k ≤ n ∧ Hid (JSt w.heap.size wr v3 (joinR ((xs.take k).map oneOf))) ∧ Hid (Below w.heap.size w wr)) (fun _ v9 _ => n - (intOf v9).toNat)
  case atStart => exact ⟨0, rfl, Nat.zero_le _, .inl ⟨rfl, rfl⟩, Below.refl _ _⟩
  case round =>
    obtain ⟨k, rfl, hk, HJ, HB⟩ := hrel
    by_cases hkn : k < n
    · have j1 : (k : Int) < n := by omega
      obtain ⟨x, hx⟩ := get_ltG HN.out hkn
      obtain ⟨b, off, rfl, hR⟩ := (HS.out.below (firmOne (B := 0)) HB.out).at hx
      obtain ⟨u, ⟨oK, cK, bR, oL, cL, mR, rfl, hL, lK, hRow, hLx, lL⟩, hcell⟩ := hR.at0 k x hx
      have c0 := hcell 0 _ rfl
      have c1 := hcell 1 _ rfl
      rw [Nat.add_zero] at c0
      rw [← Nat.add_assoc] at c1
      have HLK := Lib.hid hL
      have HlK := Lib.hid lK
      have HRo := Lib.hid (show RowAt wr bR x.2 from ⟨oL, cL, mR, hRow, hLx, lL⟩)
      obtain ⟨nK, hnK⟩ : ∃ nK, x.1.length = nK := ⟨_, rfl⟩
      rw [hnK] at c0
      have HnK := Lib.hid hnK
      have HX := Lib.hid (show joinR ((xs.take (k + 1)).map oneOf) = joinF (joinR ((xs.take k).map oneOf)) (oneOf x) by
        rw [take_atG hx, List.map_append, List.map_cons, List.map_nil, joinR_snoc])
      have hsmall := join_small (xs.take k)
      have hlk : (xs.take k).length = k := by rw [List.length_take, HN.out]; omega
      rw [hlk] at hsmall
      have hne := joinR_ne ((xs.take k).map oneOf) (fun a ha => by obtain ⟨y, _, rfl⟩ := List.mem_map.1 ha; simp [oneOf])
      obtain ⟨W1, hW1⟩ : ∃ W1, wr.alloc (Obj.cells #[.slice oK nK cK, .slice (some ⟨bR, 0, none⟩) 1 1] 115) = W1 := ⟨_, rfl⟩
      have HW1 := Lib.hid hW1
      have HBW := Lib.hid (show Below wr.heap.size wr W1 by rw [← hW1]; exact below_box (Below.refl _ _) _ _ _)
      have HB1 := Lib.hid (HB.out.trans (HBW.out.mono HB.out.size))
      have HBX := Lib.hid (show ∀ W, Below W1.heap.size W1 W → W.cell? ⟨wr.heap.size, 0, none⟩ = some (.slice oK nK cK) ∧ W.cell? ⟨wr.heap.size, 1, none⟩ = some (.slice (some ⟨bR, 0, none⟩) 1 1) by
        rw [← hW1]; intro W h
        exact ⟨boxk wr [.slice oK nK cK, .slice (some ⟨bR, 0, none⟩) 1 1] _ W h 0 _ rfl, boxk wr [.slice oK nK cK, .slice (some ⟨bR, 0, none⟩) 1 1] _ W h 1 _ rfl⟩)
      have HLW := Lib.hid (show wr.heap.size < W1.heap.size by rw [← hW1]; simp)
      clear hR hcell hL lK hRow hLx lL hnK hx hW1 hlk
      rcases HJ.out with ⟨ha, rfl⟩ | ⟨g, cap, D, usA, oKL, cKL, vR, A, L, ha, rfl, hLast⟩
      · -- the first group
        rw [ha] at HX
        have HX2 := Lib.hid (show joinR ((xs.take (k + 1)).map oneOf) = [] ++ [oneOf x] from by rw [HX.out]; rfl)
        obtain ⟨r0, r1⟩ := HBX.out W1 (Below.refl _ _)
        clear ha hsmall hne HX HJ
        go_wp2_with fail
        rw [HW1.out]
        go_quiet (fail)
        obtain ⟨W2, hW2⟩ : ∃ W2, W1.drewN nq = W2 := ⟨_, rfl⟩
        have HB12 := Lib.hid (show Below W1.heap.size W1 W2 from by rw [← hW2]; exact ⟨rfl, rfl, rfl, Nat.le_refl _, fun _ _ => rfl⟩)
        rw [hW2]
        clear hW2 r0 r1
        obtain ⟨r0, r1⟩ := HBX.out W2 HB12.out
        go_wp2_with (at_builtin; go_must (refine wpList_append_own _ rfl _ _ 112 rfl w.heap.size 115 i0 (.agg #[.slice none 0 0, .slice none 0 0]) 2 48 Tryz.underlying112 hi hz0 hz1 hz2 rfl (by decide) (.slice none 0 0) 0 [] rfl (own_nil _ _ _ _) ⟨W2.heap.size, 0, none⟩ 1 1 [.slice oK nK cK, .slice (some ⟨bR, 0, none⟩) 1 1] rfl rfl (cells_k _ _ _) (by intro v hv; simp at hv; rcases hv with rfl | rfl <;> rfl) (by unfold maxLen; omega) (by omega) (by have h7 := HB1.out.size; have h8 := HB12.out.size; simp; omega) ?_); intro vA wA hoA hgA hnA)
        have hBz := (HBW.out.trans (HB12.out.mono HBW.out.size)).trans ((Below.refl W2.heap.size W2).alloc (Nat.le_refl _) (Obj.cells #[.slice oK nK cK, .slice (some ⟨bR, 0, none⟩) 1 1] 115) |>.mono (Nat.le_trans HBW.out.size HB12.out.size))
        have HA := Lib.hid (show JSt w.heap.size wA vA (joinR ((xs.take (k + 1)).map oneOf)) from by
          rw [HX2.out]
          exact JSt.put (w := wr) (OwnG.nil _ _) (by have h7 := HB1.out.size; have h8 := HB12.out.size; simp; omega) (Nat.le_trans hBz.size hgA.size) (HLK.out.below hBz) HlK.out (HRo.out.below hBz) (by rw [HnK.out]; exact hoA) hgA)
        have HBA := Lib.hid (show Below w.heap.size w wA from Below.grown (HB.out.trans (hBz.mono HB.out.size)) hgA (by have h7 := HB1.out.size; have h8 := HB12.out.size; simp; omega) (fun g hg => by cases hg))
        clear hoA hgA hnA hBz r0 r1
        go_wp2
        go_roundw
        case rel => exact ⟨k + 1, by go_num, by omega, HA, HBA⟩
        case measure => simp [intOf]; omega
      · -- there is a last group
        have hLne := hne L (by rw [ha]; simp)
        have hL2 := hsmall.2 L (by rw [ha]; simp)
        have hA2 := hsmall.1
        rw [ha, List.length_append, List.length_singleton] at hA2
        rw [ha, joinF_snoc] at HX
        have HLast := Lib.hid hLast
        have HLne := Lib.hid hLne
        obtain ⟨p, hp⟩ : ∃ p, A.length = p := ⟨_, rfl⟩
        have HP := Lib.hid hp
        have HpB := Lib.hid (show p + 1 ≤ k from by omega)
        obtain ⟨nL, hnL⟩ : ∃ nL, L.1.length = nL := ⟨_, rfl⟩
        have HnL := Lib.hid hnL
        have HCe := Lib.hid (fun (W : World) (hb : Below wr.heap.size wr W) => (show W.cell? ⟨g, p * 2, none⟩ = some (.slice oKL nL cKL) ∧ W.cell? ⟨g, p * 2 + 1, none⟩ = some vR from by
          have h := hLast.below hb
          have hf := h.flatLen
          have h1 := h.own.cellAt (p * 2) (by omega)
          have h2 := h.own.cellAt (p * 2 + 1) (by omega)
          rw [List.getElem?_append_right (by omega), hf, hp, Nat.sub_self] at h1
          rw [List.getElem?_append_right (by omega), hf, hp, Nat.add_sub_cancel_left] at h2
          rw [hnL] at h1
          exact ⟨h1, h2⟩))
        have HSm := Lib.hid (fun (W : World) (hb : Hid (Below W1.heap.size W1 W)) => (same_any oKL oK cKL cK L.1 x.1 W hLast.lim HlK.out ((hLast.lab.below (HBW.out.trans (hb.out.mono HBW.out.size))).sees) ((HLK.out.below (HBW.out.trans (hb.out.mono HBW.out.size))).sees)).mono (fun e w' q => show e = .returned (.bool (sameL L.1 x.1)) ∧ (w'.cell? ⟨g, p * 2, none⟩ = some (.slice oKL nL cKL) ∧ w'.cell? ⟨wr.heap.size, 0, none⟩ = some (.slice oK nK cK)) ∧ Hid (Below W1.heap.size W1 w') from by
          have h2 := hb.out.trans (q.2.mono hb.out.size)
          exact ⟨q.1, ⟨(HCe.out _ (HBW.out.trans (h2.mono HBW.out.size))).1, (HBX.out _ h2).1⟩, h2⟩))
        have HSm2 := Lib.hid (show ∀ (W : World), Hid (Below W1.heap.size W1 W) → Calls Tryz.prog 158 #[.slice oKL nL cKL, .slice oK nK cK] W fun e w' => e = .returned (.bool (sameL L.1 x.1)) ∧ (w'.cell? ⟨g, p * 2, none⟩ = some (.slice oKL nL cKL) ∧ w'.cell? ⟨wr.heap.size, 0, none⟩ = some (.slice oK nK cK)) ∧ Hid (Below W1.heap.size W1 w') from by
          intro W hb; have := HSm.out W hb; rwa [hnL, HnK.out] at this)
        obtain ⟨r0, r1⟩ := HBX.out W1 (Below.refl _ _)
        obtain ⟨q0, q1⟩ := HCe.out W1 HBW.out
        have rb := Lib.hid (show Below W1.heap.size W1 W1.drew from (Below.refl _ _).drew)
        obtain ⟨S, hS⟩ : ∃ S, sameL L.1 x.1 = S := ⟨_, rfl⟩
        rw [hS] at HSm2
        have HSS := Lib.hid hS
        have pB : p ≤ 1000 := by omega
        have pg : ¬ ((p : Int) < 0) := by omega
        have pd : decide ((p : Int) < 0) = false := decide_eq_false pg
        have pb : (p : Int) < (p : Int) + 1 := by omega
        have pb0 : (0 : Int) ≤ (p : Int) := by omega
        have pn : ((p : Int)).toNat = p := by omega
        rw [hp]
        clear hLast hLne hp hnL hne ha HJ HSm hS hsmall
        go_wp2_with fail
        rw [HW1.out]
        go_region_held3 (fun w' => w'.cell? ⟨g, p * 2, none⟩ = some (.slice oKL nL cKL) ∧ w'.cell? ⟨wr.heap.size, 0, none⟩ = some (.slice oK nK cK)) (first | exact ⟨s0, s1⟩ | exact ⟨q0, r0⟩) (first
          | (go_at_call 158; go_fit (HSm2.out _ rb); rintro e wq ⟨rfl, ⟨s0, s1⟩, sb⟩))
        cases S with
        | false =>
          have HX2 := Lib.hid (show joinR ((xs.take (k + 1)).map oneOf) = (A ++ [L]) ++ [oneOf x] from by
            rw [HX.out, if_neg (by rw [show (oneOf x).1 = x.1 from rfl, HSS.out]; simp)])
          have HAll := Lib.hid (HLast.out.all HLne.out)
          clear HX s0 s1
          obtain ⟨s0, s1⟩ := HBX.out wq sb.out
          go_wp2_with (at_builtin; go_must (refine wpList_append_own _ rfl _ _ 112 rfl w.heap.size 115 i0 (.agg #[.slice none 0 0, .slice none 0 0]) 2 48 Tryz.underlying112 hi hz0 hz1 hz2 rfl (by decide) (.slice (some ⟨g, 0, none⟩) (p + 1) cap) (p + 1) (usA ++ [[.slice oKL L.1.length cKL, vR]]).flatten rfl (by have h9 := (own_grown HAll.out.own (HBW.out.trans (sb.out.mono HBW.out.size))).alloc (Obj.cells #[.slice oK nK cK, .slice (some ⟨bR, 0, none⟩) 1 1] 115); rw [show (usA ++ [[Value.slice oKL L.1.length cKL, vR]]).length = p + 1 from by rw [List.length_append, HLast.out.len, HP.out]; rfl, HP.out] at h9; exact h9) ⟨wq.heap.size, 0, none⟩ 1 1 [.slice oK nK cK, .slice (some ⟨bR, 0, none⟩) 1 1] rfl rfl (cells_k _ _ _) (by intro v hv; simp at hv; rcases hv with rfl | rfl <;> rfl) (by unfold maxLen; omega) (by omega) (by have h7 := HB1.out.size; have h8 := sb.out.size; simp; omega) ?_); intro vA wA hoA hgA hnA)
          have hBz := (HBW.out.trans (sb.out.mono HBW.out.size)).trans ((Below.refl wq.heap.size wq).alloc (Nat.le_refl _) (Obj.cells #[.slice oK nK cK, .slice (some ⟨bR, 0, none⟩) 1 1] 115) |>.mono (Nat.le_trans HBW.out.size sb.out.size))
          have HLTg := fun k hk => HLast.out.own.lt k hk
          have HA := Lib.hid (show JSt w.heap.size wA vA (joinR ((xs.take (k + 1)).map oneOf)) from by
            rw [HX2.out]
            refine JSt.put (w := wr) (v := .slice (some ⟨g, 0, none⟩) (A.length + 1) cap) (cK := cK) (HAll.out.below (firmGrp (B := 0)) hBz) (by have h7 := HB1.out.size; have h8 := sb.out.size; simp; omega) (Nat.le_trans hBz.size hgA.size) (HLK.out.below hBz) HlK.out (HRo.out.below hBz) ?_ hgA
            rw [HnK.out, show (usA ++ [[Value.slice oKL L.1.length cKL, vR]]).length = p + 1 from by rw [List.length_append, HLast.out.len, HP.out]; rfl]
            exact hoA)
          have HBA := Lib.hid (show Below w.heap.size w wA from Below.grown (HB.out.trans (hBz.mono HB.out.size)) hgA (by have h7 := HB1.out.size; have h8 := sb.out.size; simp; omega) (fun k hk => (HLTg k hk).1))
          clear hoA hgA hnA hBz HLTg s0 s1
          go_wp2
          go_roundw
          case rel => exact ⟨k + 1, by go_num, by omega, HA, HBA⟩
          case measure => simp [intOf]; omega
        | true =>
          have HX2 := Lib.hid (show joinR ((xs.take (k + 1)).map oneOf) = A ++ [(L.1, L.2 ++ [x.2])] from by
            rw [HX.out, if_pos (by rw [show (oneOf x).1 = x.1 from rfl, HSS.out])]; rfl)
          have HLq := Lib.hid (HLast.out.below (HBW.out.trans (sb.out.mono HBW.out.size)))
          have HBq := Lib.hid (show Below w.heap.size w wq from HB1.out.trans (sb.out.mono HB1.out.size))
          obtain ⟨oL, cL, mR, hRow, hLx, lL⟩ := HRo.out.below (HBW.out.trans (sb.out.mono HBW.out.size))
          have HLX := Lib.hid (And.intro hLx lL)
          have HRC := Lib.hid (fun (W : World) (h : W.heap[bR]? = some (Obj.cells #[.slice oL x.2.1.length cL, .int .i64 x.2.2] 53 mR)) => (show ∀ (j : Nat) (u : Value), [Value.slice oL x.2.1.length cL, .int .i64 x.2.2][j]? = some u → W.cell? ((⟨bR, 0, none⟩ : Addr).add j) = some u from World.news_of_block h))
          have HRow := Lib.hid hRow
          clear HX s0 s1 hRow hLx lL
          obtain ⟨s0, s1⟩ := HBX.out wq sb.out
          obtain ⟨q2, q3⟩ := HCe.out wq (HBW.out.trans (sb.out.mono HBW.out.size))
          obtain ⟨iR, hiR, hzR0, hzR1, hzR2⟩ := info_parts infoRow
          rcases HLq.out.row with ⟨b2, x2, rfl, hrows, oL2, cL2, m2, hb2, hL2x, l2L⟩ | ⟨g2, c2, us2, rfl, ho2⟩
          · have HB2 := Lib.hid (And.intro hb2 (And.intro hL2x l2L))
            have HRws := Lib.hid hrows
            clear hb2 hL2x l2L hrows
            go_wp2_with fail
            go_region_law (refine step_append_grows rfl (.tmp 39) (.tmp 41) 22 rfl 53 iR (.agg #[.slice none 0 0, .int .i64 0]) 2 32 Tryz.underlying22 hiR hzR0 hzR1 hzR2 rfl (by decide) (some ⟨b2, 0, none⟩) 1 1 [.slice oL2 x2.1.length cL2, .int .i64 x2.2] (by simp [Act.eval]) (fun h => by cases h) rfl (fun b hb => by cases hb; exact World.news_of_block (cs := #[.slice oL2 x2.1.length cL2, .int .i64 x2.2]) HB2.out.1) ⟨bR, 0, none⟩ 1 1 [.slice oL x.2.1.length cL, .int .i64 x.2.2] (by simp [Act.eval]) rfl (HRC.out _ HRow.out) (by intro v hv; simp at hv; rcases hv with rfl | rfl <;> rfl) (by omega) (by unfold maxLen; omega) (by omega) ?_; intro vN wN hown hgrow; obtain ⟨g3, c3, rfl, hg3⟩ := form2 hown; have hBN : Below wq.heap.size wq wN := ((Below.refl wq.heap.size wq).drew).trans hgrow.below; have cX := HCe.out wN ((HBW.out.trans (sb.out.mono HBW.out.size)).trans (hBN.mono (Nat.le_trans HBW.out.size sb.out.size))); have cY := HBX.out wN (sb.out.trans (hBN.mono sb.out.size)); have cF := frz (HLq.out.below ((Below.refl wq.heap.size wq).drew)) hgrow (fun k hk => by cases hk); rw [HP.out] at cF; obtain ⟨cX0, cX1⟩ := cX; obtain ⟨cY0, cY1⟩ := cY)
            all_goals
              have hln : (L.2 ++ [x.2]).length = 2 := by rw [HRws.out]; rfl
              have hownR : OwnR wN wq.heap.size (.slice (some ⟨g3, 0, none⟩) (L.2 ++ [x.2]).length c3) [[.slice oL2 x2.1.length cL2, .int .i64 x2.2], [.slice oL x.2.1.length cL, .int .i64 x.2.2]] (L.2 ++ [x.2]) := by
                rw [hln, HRws.out]
                refine ⟨rfl, hown, fun j y hy => ?_⟩
                match j, hy with
                | 0, hy => simp at hy; subst hy; exact ⟨_, rfl, oL2, cL2, rfl, HB2.out.2.1.below hBN, HB2.out.2.2⟩
                | 1, hy => simp at hy; subst hy; exact ⟨_, rfl, oL, cL, rfl, HLX.out.1.below hBN, HLX.out.2⟩
                | j + 2, hy => simp at hy
              have hput := (HLq.out.below ((Below.refl wq.heap.size wq).drew)).put (D' := wq.heap.size) hownR hgrow (fun k hk => by cases hk) HLq.out.low hBN.size
              rw [hln, HP.out] at hput
              have HA := Lib.hid (show JSt w.heap.size (wN.setCell ⟨g, p * 2 + 1, none⟩ (.slice (some ⟨g3, 0, none⟩) 2 c3)) (.slice (some ⟨g, 0, none⟩) (p + 1) cap) (joinR ((xs.take (k + 1)).map oneOf)) from by
                rw [HX2.out]
                exact .inr ⟨g, cap, wq.heap.size, usA, oKL, cKL, _, A, (L.1, L.2 ++ [x.2]), rfl, by rw [HP.out], hput.1⟩)
              have HBA := Lib.hid (show Below w.heap.size w (wN.setCell ⟨g, p * 2 + 1, none⟩ (.slice (some ⟨g3, 0, none⟩) 2 c3)) from Below.grown (HBq.out.trans (hBN.mono HBq.out.size)) hput.2 (Nat.le_trans HBq.out.size hBN.size) (fun k hk => by cases hk; exact (HLq.out.own.lt g rfl).1))
              clear hown hgrow hg3 hBN hownR hput hln cX0 cX1 cY0 cY1 cF
              go_wp2
              go_roundw
              case rel => exact ⟨k + 1, by go_num, by omega, HA, HBA⟩
              case measure => simp [intOf]; omega
          · obtain ⟨nR, hnR⟩ : ∃ nR, L.2.length = nR := ⟨_, rfl⟩
            have hg2 : g2 < wr.heap.size := HLast.out.row.lt
            have hnB : nR ≤ 1000 := by omega
            have HNR := Lib.hid hnR
            have HO2 := Lib.hid ho2
            have hO2 : wq.drew.ownsRow D 53 2 (.slice (some ⟨g2, 0, none⟩) nR c2) nR us2.flatten := by
              have h9 := ho2.own
              rw [ho2.len, hnR] at h9
              exact h9
            have HO2r := Lib.hid hO2
            have HlowD := Lib.hid HLq.out.low
            rw [hnR] at q3
            clear ho2 hnR hO2
            go_wp2_with fail
            go_region_law (refine step_append_lies _ rfl (.tmp 39) (.tmp 41) 22 rfl D 53 iR (.agg #[.slice none 0 0, .int .i64 0]) 2 32 Tryz.underlying22 hiR hzR0 hzR1 hzR2 rfl (by decide) (.slice (some ⟨g2, 0, none⟩) nR c2) nR us2.flatten (by simp [Act.eval]) HO2r.out ⟨bR, 0, none⟩ 1 1 [.slice oL x.2.1.length cL, .int .i64 x.2.2] (by simp [Act.eval]) rfl (HRC.out _ HRow.out) (by intro v hv; simp at hv; rcases hv with rfl | rfl <;> rfl) (by omega) (by unfold maxLen; omega) (by omega) HlowD.out wq.heap.size rfl ?_; intro g3 c3 wN hown hgrow hgg hg3; have hbG : wN.heap[g]? = wq.heap[g]? := hgrow.block g (HLq.out.own.lt g rfl).2 (fun e => gne HLq.out HO2.out (Option.some.inj e)); have hbX : wN.heap[wr.heap.size]? = wq.heap[wr.heap.size]? := hgrow.block _ (Nat.lt_of_lt_of_le HLW.out sb.out.size) (fun e => by have e2 : wr.heap.size = g2 := Option.some.inj e; omega); have cX0 : wN.cell? ⟨g, p * 2, none⟩ = some (.slice oKL nL cKL) := (cell_same hbG).trans q2; have cX1 : wN.cell? ⟨g, p * 2 + 1, none⟩ = some (.slice (some ⟨g2, 0, none⟩) nR c2) := (cell_same hbG).trans q3; have cY0 := (cell_same (off := 0) hbX).trans s0; have cY1 := (cell_same (off := 1) hbX).trans s1; have cF := frz (HLq.out.below ((Below.refl wq.heap.size wq).drew)) hgrow (fun k hk => (own_row HO2.out.own k hk).2); rw [HP.out] at cF)
            all_goals
              have hln : (L.2 ++ [x.2]).length = nR + 1 := by rw [List.length_append, HNR.out]; rfl
              have hrw : ∀ k, (Value.slice (some ⟨g2, 0, none⟩) nR c2).ownBlock = some k → D ≤ k ∧ ∃ cs m, wq.heap[k]? = some (.cells cs 53 m) := fun k hk => own_row HO2.out.own k hk
              have hownR : OwnR wN D (.slice (some ⟨g3, 0, none⟩) (L.2 ++ [x.2]).length c3) (us2 ++ [[.slice oL x.2.1.length cL, .int .i64 x.2.2]]) (L.2 ++ [x.2]) := by
                rw [hln]
                refine OwnG.snoc (w := wq.drew) (frow (B := 0)) (Nat.zero_le _) (HO2.out.below frow ((Below.refl wq.heap.size wq).drew)) ⟨oL, cL, rfl, HLX.out.1.below ((Below.refl wq.heap.size wq).drew), HLX.out.2⟩ ?_ hgrow
                rw [HO2.out.len, HNR.out]
                exact hown
              have hput := (HLq.out.below ((Below.refl wq.heap.size wq).drew)).put (D' := D) hownR hgrow hrw (Nat.le_refl _) (Nat.le_trans HlowD.out hgrow.size)
              rw [hln, HP.out] at hput
              have HA := Lib.hid (show JSt w.heap.size (wN.setCell ⟨g, p * 2 + 1, none⟩ (.slice (some ⟨g3, 0, none⟩) (nR + 1) c3)) (.slice (some ⟨g, 0, none⟩) (p + 1) cap) (joinR ((xs.take (k + 1)).map oneOf)) from by
                rw [HX2.out]
                exact .inr ⟨g, cap, D, usA, oKL, cKL, _, A, (L.1, L.2 ++ [x.2]), rfl, by rw [HP.out], hput.1⟩)
              have hBN : Below w.heap.size w wN := Below.grown (HBq.out.trans (((Below.refl wq.heap.size wq).drew).mono HBq.out.size)) hgrow HBq.out.size (fun k hk => Nat.le_trans HLq.out.base (hrw k hk).1)
              have HBA := Lib.hid (show Below w.heap.size w (wN.setCell ⟨g, p * 2 + 1, none⟩ (.slice (some ⟨g3, 0, none⟩) (nR + 1) c3)) from Below.grown hBN hput.2 hBN.size (fun k hk => by cases hk; exact (HLq.out.own.lt g rfl).1))
              clear hown hgrow hgg hg3 hBN hownR hput hln hrw cX0 cX1 cY0 cY1 cF hbG hbX
              go_wp2
              go_roundw
              case rel => exact ⟨k + 1, by go_num, by omega, HA, HBA⟩
              case measure => simp [intOf]; omega
    · have HE := Lib.hid (show (xs.take k).map oneOf = xs.map oneOf by rw [List.take_of_length_le (by rw [HN.out]; omega)])
      have j1 : ¬ (k : Int) < n := by omega
      rw [HE.out] at HJ
      have hne := joinR_ne (xs.map oneOf) (fun a ha => by obtain ⟨y, _, rfl⟩ := List.mem_map.1 ha; simp [oneOf])
      obtain ⟨us2, ho⟩ := HJ.out.own hne
      have HO := Lib.hid ho
      clear ho hne HJ
      go_wp2
      go_ret
      exact ⟨_, rfl, ⟨us2, _, HO.out⟩, HB.out⟩
end Go.Proofs.YtbdnonphkobkoaaGreat.Grp
