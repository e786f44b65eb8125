/- Walks: the document's own Tidy. -/
import Derived.Test.YtphkodkenkiecaaZf
namespace Go.Proofs.Ytphkodkenkiecaa
open Go.RowKit Go.Lib
theorem flatL_cells (xs : List Lab) : ∀ v ∈ flatL xs, v.oneCell' = true := by
  intro v hv
  obtain ⟨x, _, hv⟩ := List.mem_flatMap.1 hv
  simp at hv
  rcases hv with rfl | rfl <;> rfl

set_option maxHeartbeats 16000000 in
set_option maxRecDepth 100000 in
theorem rtidy_any (o : Option Addr) (cap : Nat) (xs : List Lab) (w : World) (hm : xs.length ≤ 1000000) (hS : SeesO w o xs) (hv : ∀ x ∈ xs, x.1.size ≤ 1000 ∧ x.2.size ≤ 1000) :
    Calls Try.prog 21 #[.slice o xs.length cap] w fun e w' => RTidied w.heap.size xs e w' ∧ Below w.heap.size w w' := by
  obtain ⟨i0, hi, hz0, hz1, hz2⟩ := info_parts info38
  obtain ⟨n, hn⟩ : ∃ n, xs.length = n := ⟨_, rfl⟩
  have HN := Lib.hid hn
  rw [hn] at hm ⊢
  clear hn
  have HSO := Lib.hid hS
  have HV := Lib.hid hv
  clear hS hv
  by_cases h8 : n ≤ 8
  · have j8 : ¬ ((8 : Int) < n) := by omega
    have HNM := Lib.hid (fun (x : Lab) (hx : x ∈ xs) (W : World) => rname_any x.1 W (by have := (HV.out x hx).1; omega))
    go_enter Try.func21, Try.ntmps21
    go_wp2
    go_loopw [4, 5] (fun v4 v5 wr => ∃ (i : Nat) (S : List Lab), v5 = .int .i64 i ∧ i ≤ n ∧ (i = 0 → v4 = .slice none 0 0) ∧ Hid (wr.ownsRow w.heap.size 57 2 v4 i (flatL S)) ∧ Hid (Laid S xs i) ∧ Hid (Below w.heap.size w wr)) (fun _ v5 _ => n - (RowKit.intOf v5).toNat)
    case atStart => exact ⟨0, [], rfl, Nat.zero_le _, fun _ => rfl, Lib.hid (World.ownsRow_nil _ _ _ _), Lib.hid (Laid.nil _), Lib.hid (Below.refl _ _)⟩
    case round =>
      obtain ⟨i, S, rfl, hin, hnil, HO, HSS, HB⟩ := hrel
      by_cases hlt : i < n
      · have j1 : (i : Int) < n := by omega
        have j0 : (0 : Int) ≤ i := by omega
        obtain ⟨x, hx⟩ := get_lt HN.out hlt
        obtain ⟨b, off, rfl, _⟩ := (HSO.out.below (Below.refl _ _)).at hx
        have HC := Lib.hid (fun W (h : Below w.heap.size w W) => (show W.cell? ⟨b, off + i * 2, none⟩ = some (.string x.1) ∧ W.cell? ⟨b, off + i * 2 + 1, none⟩ = some (.string x.2) by
          obtain ⟨b', off', e, hc⟩ := (HSO.out.below h).at hx
          cases e; exact ⟨hc.at0 i x hx, hc.at1 i x hx⟩))
        have HX := Lib.hid hx
        have HM := Lib.hid (List.mem_of_getElem? hx)
        have HT := Lib.hid (show xs.take (i + 1) = xs.take i ++ [x] by rw [List.take_add_one, hx]; rfl)
        have c0 := (HC.out _ HB.out).1
        have hxs := HV.out x HM.out
        clear hx
        have CALL : True := trivial
        obtain ⟨wu, rfl⟩ : ∃ wu : World, wu = wr := ⟨_, rfl⟩
        cases hfit : fitsB x.1 x.2 with
        | false =>
          have HD := Lib.hid (unfit HM.out hfit)
          unfold fitsB at hfit
          clear hxs CALL hnil
          cases hq : nameB x.1.data.toList with
          | false =>
            have HN2 := Lib.hid (fun W => (show Calls Try.prog 29 #[.string x.1] W fun e w' => e = .returned (.bool false) ∧ Below W.heap.size W w' by rw [← hq]; exact HNM.out x HM.out W))
            clear hfit hq
            go_wp2_with (go_at_call 29; refine (HN2.out _).mono ?_; rintro e wr ⟨rfl, bq⟩; have HBN := Lib.hid (HB.out.trans (bq.mono HB.out.size)); clear bq HB HO c0)
            go_ret2
            exact ⟨.inr ⟨HD.out, rfl⟩, HBN.out⟩
          | true =>
            have HN2 := Lib.hid (fun W => (show Calls Try.prog 29 #[.string x.1] W fun e w' => e = .returned (.bool true) ∧ Below W.heap.size W w' by rw [← hq]; exact HNM.out x HM.out W))
            rw [hq, Bool.true_and] at hfit
            clear hq
            cases he : x.2.toList.isEmpty with
            | true =>
              clear hfit
              go_wp2_with (go_at_call 29; refine (HN2.out _).mono ?_; rintro e wr ⟨rfl, bq⟩; have HBN := Lib.hid (HB.out.trans (bq.mono HB.out.size)); clear bq HB HO c0; have c1 := (HC.out _ HBN.out).2)
              go_ret2
              exact ⟨.inr ⟨HD.out, rfl⟩, HBN.out⟩
            | false =>
              rw [he] at hfit
              have t3 : (60 : Int) < x.2.size := by
                have : ¬ ((x.2.size : Int) ≤ 60) := by simpa using hfit
                omega
              clear hfit
              go_wp2_with (go_at_call 29; refine (HN2.out _).mono ?_; rintro e wr ⟨rfl, bq⟩; have HBN := Lib.hid (HB.out.trans (bq.mono HB.out.size)); clear bq HB HO c0; have c1 := (HC.out _ HBN.out).2)
              go_ret2
              exact ⟨.inr ⟨HD.out, rfl⟩, HBN.out⟩
        | true =>
          have HF := Lib.hid hfit
          unfold fitsB at hfit
          simp only [Bool.and_eq_true, Bool.not_eq_true', decide_eq_true_eq] at hfit
          obtain ⟨hq, he, ht⟩ := hfit
          have t3 : ¬ ((60 : Int) < x.2.size) := by omega
          have HN2 := Lib.hid (fun W => (show Calls Try.prog 29 #[.string x.1] W fun e w' => e = .returned (.bool true) ∧ Below W.heap.size W w' by rw [← hq]; exact HNM.out x HM.out W))
          clear hq ht hxs CALL
          by_cases hi0 : i = 0
          · subst hi0
            obtain rfl := hnil rfl
            obtain rfl : S = [] := List.length_eq_zero_iff.1 HSS.out.1
            have HC0 := Lib.hid (fun W (h : Below w.heap.size w W) => (show W.cell? ⟨b, off, none⟩ = some (.string x.1) ∧ W.cell? ⟨b, off + 1, none⟩ = some (.string x.2) from HC.out W h))
            have c0' := (HC0.out _ HB.out).1
            clear c0
            go_wp2_with (go_at_call 29; refine (HN2.out _).mono ?_; rintro e wo ⟨rfl, bq⟩; have HBN := Lib.hid (HB.out.trans (bq.mono HB.out.size)); clear bq HB HO c0'; have c1 := (HC0.out _ HBN.out).2)
            clear c1 he
            go_loopw [6] (fun v6 wi => v6 = .int .i64 0 ∧ wi = wo) (fun _ _ => 0)
            case atStart => exact ⟨rfl, rfl⟩
            case round =>
              obtain ⟨rfl, rfl⟩ := hrel
              go_wp2_with fail
              go_quiet (fail)
              go_wp2_with fail
              go_quiet (fail)
              go_wp2
              rename_i nq1
              obtain ⟨wq, hwq⟩ : ∃ wq, (wr.drewN nq1).drewN nq = wq := ⟨_, rfl⟩
              have HB1 := Lib.hid (show Below w.heap.size w wq by rw [← hwq, drewN_two]; exact HBN.out.trans ((Txt.drewN_below wr _).mono HBN.out.size))
              have CX := Lib.hid (fun W (h : Below wq.heap.size wq W) => HC0.out W (HB1.out.trans (h.mono HB1.out.size)))
              have B0 := Lib.hid (show Below wq.heap.size wq wq.drew from (Below.refl _ _).drew)
              have B1 := Lib.hid (show Below wq.heap.size wq (wq.drew.alloc (.cells #[.string x.1, .string x.2] 57)) from B0.out.alloc (Nat.le_refl _) _)
              have cX := CX.out wq.drew B0.out
              have cX1 := CX.out (wq.drew.alloc (.cells #[.string x.1, .string x.2] 57)) B1.out
              have HSE := Lib.hid (HSS.out.step 0 (fun y hy => by simp at hy) (fun y hy => by simp at hy) HF.out HT.out)
              rw [hwq]
              clear hwq
              go_region_held3 (fun w' => w'.cell? ⟨b, off, none⟩ = some (.string x.1) ∧ w'.cell? ⟨b, off + 1, none⟩ = some (.string x.2)) (first | exact cX | exact cX1 | exact cC) (first
                | (refine own_stepL rfl (.tmp 79) (.tmp 84) 25 rfl wq.heap.size 57 i0 (.agg #[.string ⟨#[]⟩, .string ⟨#[]⟩]) 2 32 Try.underlying25 hi hz0 hz1 hz2 rfl (by decide) (.slice none 0 0) 0 [] rfl (World.ownsRow_nil _ _ _ _) ⟨wq.heap.size, 0, none⟩ 1 1 [.string x.1, .string x.2] rfl rfl (cells_2 _ _ _ _) (one_2 _ _) (by unfold maxLen; omega) (by omega) B1.out.size ?_
                   intro v2 wC hoC hgC
                   obtain ⟨g2, c2, rfl, q1, q2, q3, q4, _⟩ := own_posL (S := [x]) hoC rfl (by omega)
                   have HOC := Lib.hid hoC
                   have BC := Lib.hid (B1.out.trans ((below_ownL hgC).mono B1.out.size))
                   have cC := CX.out wC BC.out
                   clear hoC hgC))
              all_goals
                go_wp2
                go_roundw
                case rel => exact ⟨1, insL [] x 0, by go_num, by omega, fun h => by omega, Lib.hid (own_mono HOC.out HB1.out.size), HSE, Lib.hid (HB1.out.trans (BC.out.mono HB1.out.size))⟩
                case measure => simp [RowKit.intOf]; omega
          · obtain ⟨g, sc, rfl, q1, q2, q3, q4, hsee⟩ := own_posL HO.out HSS.out.1 (by omega)
            clear hnil q2
            go_wp2_with (go_at_call 29; refine (HN2.out _).mono ?_; rintro e wo ⟨rfl, bq⟩; have HBN := Lib.hid (HB.out.trans (bq.mono HB.out.size)); have HOo := Lib.hid (own_grown HO.out bq); have HSee := Lib.hid (hsee.below bq); clear bq HB HO c0 hsee; have c1 := (HC.out _ HBN.out).2)
            clear c1 he t3
            go_loopw [6] (fun v6 wi => ∃ k : Nat, v6 = .int .i64 k ∧ k ≤ i ∧ Hid (∀ y ∈ S.take k, nm y < nm x) ∧ Hid (∃ m, wi = wo.drewN m)) (fun v6 _ => i - (RowKit.intOf v6).toNat)
            case atStart => exact ⟨0, rfl, Nat.zero_le _, Lib.hid (fun y hy => by simp at hy), Lib.hid ⟨0, rfl⟩⟩
            case round =>
              obtain ⟨k, rfl, hk, HLE, HW⟩ := hrel
              have k0 : (0 : Int) ≤ k := by omega
              have HWB := Lib.hid (show Below wo.heap.size wo wr by obtain ⟨m, rfl⟩ := HW.out; exact Txt.drewN_below wo m)
              have HBW := Lib.hid (HBN.out.trans (HWB.out.mono HBN.out.size))
              have c2 := (HC.out _ HBW.out).1
              by_cases hki : k < i
              · have j2 : (k : Int) < i := by omega
                obtain ⟨y, hy⟩ := get_lt HSS.out.1 hki
                have c1 : wr.cell? ⟨g, k * 2, none⟩ = some (.string y.1) := by
                  have := (HSee.out.below HWB.out).at0 k y hy
                  rwa [Nat.zero_add] at this
                have HY := Lib.hid hy
                clear hy
                by_cases hyx : nm y < nm x
                · have HL2 := Lib.hid (le_step HLE.out HY.out hyx)
                  have t1 : Op.bytesLess y.1.toList x.1.toList = true := by
                    rw [bytesLess_eq, ByteArray.toList_eq, ByteArray.toList_eq]; exact decide_eq_true hyx
                  clear hyx
                  go_wp2_with fail
                  go_quiet (fail)
                  go_wp2
                  go_roundw
                  case rel => exact ⟨k + 1, by go_num, by omega, HL2, Lib.hid (by obtain ⟨m, rfl⟩ := HW.out; exact ⟨_, drewN_two _ _ _⟩)⟩
                  case measure => simp [RowKit.intOf]; omega
                · have t1 : Op.bytesLess y.1.toList x.1.toList = false := by
                    rw [bytesLess_eq, ByteArray.toList_eq, ByteArray.toList_eq]; exact decide_eq_false hyx
                  by_cases hne : nm y = nm x
                  · have t2 : (y.1.toList == x.1.toList) = true := by
                      rw [ByteArray.toList_eq, ByteArray.toList_eq]; exact beq_iff_eq.2 hne
                    have HD := Lib.hid (twice HX.out (HSS.out.2.2.1.mem_iff.1 (List.mem_of_getElem? HY.out)) hne)
                    clear hyx hne
                    have HZ := Lib.hid (fun a b => (show Below w.heap.size w ((wr.drewN a).drewN b) by rw [drewN_two]; exact HBW.out.trans ((Txt.drewN_below wr _).mono HBW.out.size)))
                    go_wp2_with fail
                    go_quiet (fail)
                    go_wp2_with fail
                    go_quiet (fail)
                    go_wp2
                    go_ret2
                    exact ⟨.inr ⟨HD.out, rfl⟩, HZ.out _ _⟩
                  · have t2 : (y.1.toList == x.1.toList) = false := by
                      rw [ByteArray.toList_eq, ByteArray.toList_eq]; exact beq_eq_false_iff_ne.2 hne
                    have HEX := Lib.hid (show ∀ z, S[k]? = some z → nm x < nm z from fun z hz => by
                      rw [HY.out] at hz; cases hz; exact lt_of_not hyx hne)
                    clear hyx hne
                    go_wp2_with fail
                    go_quiet (fail)
                    go_wp2_with fail
                    go_quiet (fail)
                    go_wp2
                    clear c1 c2 t1 t2
                    rename_i nq1
                    obtain ⟨wq, hwq⟩ : ∃ wq, (wr.drewN nq1).drewN nq = wq := ⟨_, rfl⟩
                    have HQ := Lib.hid (show Below wo.heap.size wo wq by rw [← hwq, drewN_two]; exact HWB.out.trans ((Txt.drewN_below wr _).mono HWB.out.size))
                    have HB1 := Lib.hid (HBN.out.trans (HQ.out.mono HBN.out.size))
                    have HSE := Lib.hid (HSS.out.step k HLE.out HEX.out HF.out HT.out)
                    have HB0 := Lib.hid HB1.out.size
                    have CX := Lib.hid (fun W (h : Below wq.heap.size wq W) => HC.out W (HB1.out.trans (h.mono HB1.out.size)))
                    have B0 := Lib.hid (show Below wq.heap.size wq wq.drew from (Below.refl _ _).drew)
                    have B1 := Lib.hid (show Below wq.heap.size wq (wq.drew.alloc (.cells #[.string x.1, .string x.2] 57)) from B0.out.alloc (Nat.le_refl _) _)
                    have L1 := Lib.hid (show (flatL (S.take k)).length = k * 2 by rw [flatL_len, List.length_take, HSS.out.1]; omega)
                    have L3 := Lib.hid (show (flatL (S.drop k)).length = (i - k) * 2 by have := HSS.out.1; rw [flatL_len, List.length_drop]; omega)
                    have SRC1 := Lib.hid (fun W (h : Below wq.heap.size wq W) => sees_all (((HSee.out.below (HQ.out.trans (h.mono HQ.out.size)))).take k))
                    have cX := CX.out wq.drew B0.out
                    have cX1 := CX.out (wq.drew.alloc (.cells #[.string x.1, .string x.2] 57)) B1.out
                    rw [hwq]
                    clear hwq
                    have k1 : (k : Int) ≤ sc := by omega
                    have k2 : (k : Int) ≤ i := by omega
                    have hcap : ¬ sc = k := by omega
                    have SRC3 := Lib.hid (fun W (h : Below wq.heap.size wq W) => (show ∀ j u, (flatL (S.drop k))[j]? = some u → W.cell? ((⟨g, k * 2, none⟩ : Addr).add j) = some u by
                      have := sees_all ((HSee.out.below (HQ.out.trans (h.mono HQ.out.size))).drop k)
                      rwa [Nat.zero_add] at this))
                    go_region_held3 (fun w' => w'.cell? ⟨b, off + i * 2, none⟩ = some (.string x.1) ∧ w'.cell? ⟨b, off + i * 2 + 1, none⟩ = some (.string x.2)) (first | exact cX | exact cX1 | exact cA | exact cA1 | exact cC | exact cD) (first
                      | (refine own_stepL rfl (.const (.slice none 0 0)) (.tmp 78) 25 rfl wq.heap.size 57 i0 (.agg #[.string ⟨#[]⟩, .string ⟨#[]⟩]) 2 32 Try.underlying25 hi hz0 hz1 hz2 rfl (by decide) (.slice none 0 0) 0 [] rfl (World.ownsRow_nil _ _ _ _) ⟨g, 0, none⟩ k sc (flatL (S.take k)) rfl L1.out (fun j u hj => SRC1.out wq.drew B0.out j u hj) (flatL_cells _) (by unfold maxLen; omega) (by omega) (Nat.le_refl _) ?_
                         intro v1 wA hoA hgA
                         have HOA := Lib.hid hoA
                         have BA := Lib.hid (B0.out.trans ((below_ownL hgA).mono (Nat.le_refl _)))
                         have cA := CX.out wA BA.out
                         have cA1 := CX.out (wA.alloc (.cells #[.string x.1, .string x.2] 57)) (BA.out.alloc BA.out.size _)
                         clear hoA hgA)
                      | (refine own_stepL rfl (.tmp 79) (.tmp 84) 25 rfl wq.heap.size 57 i0 (.agg #[.string ⟨#[]⟩, .string ⟨#[]⟩]) 2 32 Try.underlying25 hi hz0 hz1 hz2 rfl (by decide) v1 _ _ rfl (HOA.out.alloc _) ⟨wA.heap.size, 0, none⟩ 1 1 [.string x.1, .string x.2] rfl rfl (cells_2 _ _ _ _) (one_2 _ _) (by unfold maxLen; omega) (by omega) (Nat.le_trans BA.out.size (by simp)) ?_
                         intro v2 wC hoC hgC
                         have HOC := Lib.hid hoC
                         have BC := Lib.hid (Below.grown (BA.out.alloc BA.out.size _) hgC (Nat.le_trans BA.out.size (by simp)) (fun j hj => (HOA.out.lt j hj).1) : Below wq.heap.size wq wC)
                         have cC := CX.out wC BC.out
                         clear hoC hgC)
                      | (refine own_stepL rfl (.const (.slice none 0 0)) (.tmp 78) 25 rfl wq.heap.size 57 i0 (.agg #[.string ⟨#[]⟩, .string ⟨#[]⟩]) 2 32 Try.underlying25 hi hz0 hz1 hz2 rfl (by decide) (.slice none 0 0) 0 [] rfl (World.ownsRow_nil _ _ _ _) ⟨g, 0, none⟩ k sc (flatL (S.take k)) rfl L1.out (fun j u hj => SRC1.out (wq.drew.alloc (.cells #[.string x.1, .string x.2] 57)) B1.out j u hj) (flatL_cells _) (by unfold maxLen; omega) (by omega) B1.out.size ?_
                         intro v1 wA hoA hgA
                         have HOA := Lib.hid hoA
                         have BA := Lib.hid (B1.out.trans ((below_ownL hgA).mono B1.out.size))
                         have HX2 := Lib.hid (cell_keptL hgA)
                         have cA := CX.out wA BA.out
                         clear hoA hgA)
                      | (refine own_stepL rfl (.tmp 79) (.tmp 84) 25 rfl wq.heap.size 57 i0 (.agg #[.string ⟨#[]⟩, .string ⟨#[]⟩]) 2 32 Try.underlying25 hi hz0 hz1 hz2 rfl (by decide) v1 _ _ rfl HOA.out ⟨wq.heap.size, 0, none⟩ 1 1 [.string x.1, .string x.2] rfl rfl HX2.out (one_2 _ _) (by unfold maxLen; omega) (by omega) BA.out.size ?_
                         intro v2 wC hoC hgC
                         have HOC := Lib.hid hoC
                         have BC := Lib.hid (Below.grown BA.out hgC BA.out.size (fun j hj => (HOA.out.lt j hj).1) : Below wq.heap.size wq wC)
                         have cC := CX.out wC BC.out
                         clear hoC hgC)
                      | (refine own_stepL rfl (.tmp 85) (.tmp 88) 25 rfl wq.heap.size 57 i0 (.agg #[.string ⟨#[]⟩, .string ⟨#[]⟩]) 2 32 Try.underlying25 hi hz0 hz1 hz2 rfl (by decide) v2 _ _ rfl HOC.out ⟨g, k * 2, none⟩ (i - k) (sc - k) (flatL (S.drop k)) rfl L3.out (fun j u hj => SRC3.out wC BC.out j u hj) (flatL_cells _) (by unfold maxLen; omega) (by omega) BC.out.size ?_
                         intro v3 wD hoD hgD
                         have HOD := Lib.hid hoD
                         have BD := Lib.hid (Below.grown BC.out hgD BC.out.size (fun j hj => (HOC.out.lt j hj).1) : Below wq.heap.size wq wD)
                         have cD := CX.out wD BD.out
                         clear hoD hgD))
                    all_goals
                      have HOE := Lib.hid (own_insL HB0.out k x (by omega) HOD.out)
                      have HBE := Lib.hid (HB1.out.trans (BD.out.mono HB1.out.size))
                      go_wp2
                      go_roundw
                      case rel => exact ⟨i + 1, insL S x k, by go_num, by omega, fun h => by omega, HOE, HSE, HBE⟩
                      case measure => simp [RowKit.intOf]; omega
              · obtain rfl : k = i := by omega
                have j2 : ¬ (k : Int) < k := by omega
                have HEX := Lib.hid (show ∀ z, S[k]? = some z → nm x < nm z from fun z hz => by
                  have := (List.getElem?_eq_some_iff.1 hz).1; rw [HSS.out.1] at this; omega)
                go_wp2_with fail
                go_quiet (fail)
                go_wp2_with fail
                go_quiet (fail)
                go_wp2
                clear c2
                rename_i nq1
                obtain ⟨wq, hwq⟩ : ∃ wq, (wr.drewN nq1).drewN nq = wq := ⟨_, rfl⟩
                have HQ := Lib.hid (show Below wo.heap.size wo wq by rw [← hwq, drewN_two]; exact HWB.out.trans ((Txt.drewN_below wr _).mono HWB.out.size))
                have HB1 := Lib.hid (HBN.out.trans (HQ.out.mono HBN.out.size))
                have HSE := Lib.hid (HSS.out.step k HLE.out HEX.out HF.out HT.out)
                have HB0 := Lib.hid HB1.out.size
                have CX := Lib.hid (fun W (h : Below wq.heap.size wq W) => HC.out W (HB1.out.trans (h.mono HB1.out.size)))
                have B0 := Lib.hid (show Below wq.heap.size wq wq.drew from (Below.refl _ _).drew)
                have B1 := Lib.hid (show Below wq.heap.size wq (wq.drew.alloc (.cells #[.string x.1, .string x.2] 57)) from B0.out.alloc (Nat.le_refl _) _)
                have L1 := Lib.hid (show (flatL (S.take k)).length = k * 2 by rw [flatL_len, List.length_take, HSS.out.1]; omega)
                have L3 := Lib.hid (show (flatL (S.drop k)).length = 0 * 2 by have := HSS.out.1; rw [flatL_len, List.length_drop]; omega)
                have SRC1 := Lib.hid (fun W (h : Below wq.heap.size wq W) => sees_all (((HSee.out.below (HQ.out.trans (h.mono HQ.out.size)))).take k))
                have cX := CX.out wq.drew B0.out
                have cX1 := CX.out (wq.drew.alloc (.cells #[.string x.1, .string x.2] 57)) B1.out
                rw [hwq]
                clear hwq
                have k1 : (k : Int) ≤ sc := by omega
                have k2 : (k : Int) ≤ k := by omega
                by_cases hcap : sc = k
                · have SRC3 := Lib.hid (fun W (_ : Below wq.heap.size wq W) => (show ∀ j u, (flatL (S.drop k))[j]? = some u → W.cell? ((⟨g, 0, none⟩ : Addr).add j) = some u from fun j u hj => by
                    rw [List.drop_eq_nil_of_le (by rw [HSS.out.1]; omega)] at hj; simp [flatL] at hj))
                  obtain rfl : k = sc := hcap.symm
                  go_region_held3 (fun w' => w'.cell? ⟨b, off + k * 2, none⟩ = some (.string x.1) ∧ w'.cell? ⟨b, off + k * 2 + 1, none⟩ = some (.string x.2)) (first | exact cX | exact cX1 | exact cA | exact cA1 | exact cC | exact cD) (first
                    | (refine own_stepL rfl (.const (.slice none 0 0)) (.tmp 78) 25 rfl wq.heap.size 57 i0 (.agg #[.string ⟨#[]⟩, .string ⟨#[]⟩]) 2 32 Try.underlying25 hi hz0 hz1 hz2 rfl (by decide) (.slice none 0 0) 0 [] rfl (World.ownsRow_nil _ _ _ _) ⟨g, 0, none⟩ k k (flatL (S.take k)) rfl L1.out (fun j u hj => SRC1.out wq.drew B0.out j u hj) (flatL_cells _) (by unfold maxLen; omega) (by omega) (Nat.le_refl _) ?_
                       intro v1 wA hoA hgA
                       have HOA := Lib.hid hoA
                       have BA := Lib.hid (B0.out.trans ((below_ownL hgA).mono (Nat.le_refl _)))
                       have cA := CX.out wA BA.out
                       have cA1 := CX.out (wA.alloc (.cells #[.string x.1, .string x.2] 57)) (BA.out.alloc BA.out.size _)
                       clear hoA hgA)
                    | (refine own_stepL rfl (.tmp 79) (.tmp 84) 25 rfl wq.heap.size 57 i0 (.agg #[.string ⟨#[]⟩, .string ⟨#[]⟩]) 2 32 Try.underlying25 hi hz0 hz1 hz2 rfl (by decide) v1 _ _ rfl (HOA.out.alloc _) ⟨wA.heap.size, 0, none⟩ 1 1 [.string x.1, .string x.2] rfl rfl (cells_2 _ _ _ _) (one_2 _ _) (by unfold maxLen; omega) (by omega) (Nat.le_trans BA.out.size (by simp)) ?_
                       intro v2 wC hoC hgC
                       have HOC := Lib.hid hoC
                       have BC := Lib.hid (Below.grown (BA.out.alloc BA.out.size _) hgC (Nat.le_trans BA.out.size (by simp)) (fun j hj => (HOA.out.lt j hj).1) : Below wq.heap.size wq wC)
                       have cC := CX.out wC BC.out
                       clear hoC hgC)
                    | (refine own_stepL rfl (.const (.slice none 0 0)) (.tmp 78) 25 rfl wq.heap.size 57 i0 (.agg #[.string ⟨#[]⟩, .string ⟨#[]⟩]) 2 32 Try.underlying25 hi hz0 hz1 hz2 rfl (by decide) (.slice none 0 0) 0 [] rfl (World.ownsRow_nil _ _ _ _) ⟨g, 0, none⟩ k k (flatL (S.take k)) rfl L1.out (fun j u hj => SRC1.out (wq.drew.alloc (.cells #[.string x.1, .string x.2] 57)) B1.out j u hj) (flatL_cells _) (by unfold maxLen; omega) (by omega) B1.out.size ?_
                       intro v1 wA hoA hgA
                       have HOA := Lib.hid hoA
                       have BA := Lib.hid (B1.out.trans ((below_ownL hgA).mono B1.out.size))
                       have HX2 := Lib.hid (cell_keptL hgA)
                       have cA := CX.out wA BA.out
                       clear hoA hgA)
                    | (refine own_stepL rfl (.tmp 79) (.tmp 84) 25 rfl wq.heap.size 57 i0 (.agg #[.string ⟨#[]⟩, .string ⟨#[]⟩]) 2 32 Try.underlying25 hi hz0 hz1 hz2 rfl (by decide) v1 _ _ rfl HOA.out ⟨wq.heap.size, 0, none⟩ 1 1 [.string x.1, .string x.2] rfl rfl HX2.out (one_2 _ _) (by unfold maxLen; omega) (by omega) BA.out.size ?_
                       intro v2 wC hoC hgC
                       have HOC := Lib.hid hoC
                       have BC := Lib.hid (Below.grown BA.out hgC BA.out.size (fun j hj => (HOA.out.lt j hj).1) : Below wq.heap.size wq wC)
                       have cC := CX.out wC BC.out
                       clear hoC hgC)
                    | (refine own_stepL rfl (.tmp 85) (.tmp 88) 25 rfl wq.heap.size 57 i0 (.agg #[.string ⟨#[]⟩, .string ⟨#[]⟩]) 2 32 Try.underlying25 hi hz0 hz1 hz2 rfl (by decide) v2 _ _ rfl HOC.out ⟨g, 0, none⟩ 0 0 (flatL (S.drop k)) rfl L3.out (fun j u hj => SRC3.out wC BC.out j u hj) (flatL_cells _) (by unfold maxLen; omega) (by omega) BC.out.size ?_
                       intro v3 wD hoD hgD
                       have HOD := Lib.hid hoD
                       have BD := Lib.hid (Below.grown BC.out hgD BC.out.size (fun j hj => (HOC.out.lt j hj).1) : Below wq.heap.size wq wD)
                       have cD := CX.out wD BD.out
                       clear hoD hgD))
                  all_goals
                    have HOE := Lib.hid (own_insL HB0.out k x (by omega) (by rw [Nat.sub_self]; exact HOD.out))
                    have HBE := Lib.hid (HB1.out.trans (BD.out.mono HB1.out.size))
                    go_wp2
                    go_roundw
                    case rel => exact ⟨k + 1, insL S x k, by go_num, by omega, fun h => by omega, HOE, HSE, HBE⟩
                    case measure => simp [RowKit.intOf]; omega
                · have SRC3 := Lib.hid (fun W (h : Below wq.heap.size wq W) => (show ∀ j u, (flatL (S.drop k))[j]? = some u → W.cell? ((⟨g, k * 2, none⟩ : Addr).add j) = some u by
                    have := sees_all ((HSee.out.below (HQ.out.trans (h.mono HQ.out.size))).drop k)
                    rwa [Nat.zero_add] at this))
                  go_region_held3 (fun w' => w'.cell? ⟨b, off + k * 2, none⟩ = some (.string x.1) ∧ w'.cell? ⟨b, off + k * 2 + 1, none⟩ = some (.string x.2)) (first | exact cX | exact cX1 | exact cA | exact cA1 | exact cC | exact cD) (first
                    | (refine own_stepL rfl (.const (.slice none 0 0)) (.tmp 78) 25 rfl wq.heap.size 57 i0 (.agg #[.string ⟨#[]⟩, .string ⟨#[]⟩]) 2 32 Try.underlying25 hi hz0 hz1 hz2 rfl (by decide) (.slice none 0 0) 0 [] rfl (World.ownsRow_nil _ _ _ _) ⟨g, 0, none⟩ k sc (flatL (S.take k)) rfl L1.out (fun j u hj => SRC1.out wq.drew B0.out j u hj) (flatL_cells _) (by unfold maxLen; omega) (by omega) (Nat.le_refl _) ?_
                       intro v1 wA hoA hgA
                       have HOA := Lib.hid hoA
                       have BA := Lib.hid (B0.out.trans ((below_ownL hgA).mono (Nat.le_refl _)))
                       have cA := CX.out wA BA.out
                       have cA1 := CX.out (wA.alloc (.cells #[.string x.1, .string x.2] 57)) (BA.out.alloc BA.out.size _)
                       clear hoA hgA)
                    | (refine own_stepL rfl (.tmp 79) (.tmp 84) 25 rfl wq.heap.size 57 i0 (.agg #[.string ⟨#[]⟩, .string ⟨#[]⟩]) 2 32 Try.underlying25 hi hz0 hz1 hz2 rfl (by decide) v1 _ _ rfl (HOA.out.alloc _) ⟨wA.heap.size, 0, none⟩ 1 1 [.string x.1, .string x.2] rfl rfl (cells_2 _ _ _ _) (one_2 _ _) (by unfold maxLen; omega) (by omega) (Nat.le_trans BA.out.size (by simp)) ?_
                       intro v2 wC hoC hgC
                       have HOC := Lib.hid hoC
                       have BC := Lib.hid (Below.grown (BA.out.alloc BA.out.size _) hgC (Nat.le_trans BA.out.size (by simp)) (fun j hj => (HOA.out.lt j hj).1) : Below wq.heap.size wq wC)
                       have cC := CX.out wC BC.out
                       clear hoC hgC)
                    | (refine own_stepL rfl (.const (.slice none 0 0)) (.tmp 78) 25 rfl wq.heap.size 57 i0 (.agg #[.string ⟨#[]⟩, .string ⟨#[]⟩]) 2 32 Try.underlying25 hi hz0 hz1 hz2 rfl (by decide) (.slice none 0 0) 0 [] rfl (World.ownsRow_nil _ _ _ _) ⟨g, 0, none⟩ k sc (flatL (S.take k)) rfl L1.out (fun j u hj => SRC1.out (wq.drew.alloc (.cells #[.string x.1, .string x.2] 57)) B1.out j u hj) (flatL_cells _) (by unfold maxLen; omega) (by omega) B1.out.size ?_
                       intro v1 wA hoA hgA
                       have HOA := Lib.hid hoA
                       have BA := Lib.hid (B1.out.trans ((below_ownL hgA).mono B1.out.size))
                       have HX2 := Lib.hid (cell_keptL hgA)
                       have cA := CX.out wA BA.out
                       clear hoA hgA)
                    | (refine own_stepL rfl (.tmp 79) (.tmp 84) 25 rfl wq.heap.size 57 i0 (.agg #[.string ⟨#[]⟩, .string ⟨#[]⟩]) 2 32 Try.underlying25 hi hz0 hz1 hz2 rfl (by decide) v1 _ _ rfl HOA.out ⟨wq.heap.size, 0, none⟩ 1 1 [.string x.1, .string x.2] rfl rfl HX2.out (one_2 _ _) (by unfold maxLen; omega) (by omega) BA.out.size ?_
                       intro v2 wC hoC hgC
                       have HOC := Lib.hid hoC
                       have BC := Lib.hid (Below.grown BA.out hgC BA.out.size (fun j hj => (HOA.out.lt j hj).1) : Below wq.heap.size wq wC)
                       have cC := CX.out wC BC.out
                       clear hoC hgC)
                    | (refine own_stepL rfl (.tmp 85) (.tmp 88) 25 rfl wq.heap.size 57 i0 (.agg #[.string ⟨#[]⟩, .string ⟨#[]⟩]) 2 32 Try.underlying25 hi hz0 hz1 hz2 rfl (by decide) v2 _ _ rfl HOC.out ⟨g, k * 2, none⟩ 0 (sc - k) (flatL (S.drop k)) rfl L3.out (fun j u hj => SRC3.out wC BC.out j u hj) (flatL_cells _) (by unfold maxLen; omega) (by omega) BC.out.size ?_
                       intro v3 wD hoD hgD
                       have HOD := Lib.hid hoD
                       have BD := Lib.hid (Below.grown BC.out hgD BC.out.size (fun j hj => (HOC.out.lt j hj).1) : Below wq.heap.size wq wD)
                       have cD := CX.out wD BD.out
                       clear hoD hgD))
                  all_goals
                    have HOE := Lib.hid (own_insL HB0.out k x (by omega) (by rw [Nat.sub_self]; exact HOD.out))
                    have HBE := Lib.hid (HB1.out.trans (BD.out.mono HB1.out.size))
                    go_wp2
                    go_roundw
                    case rel => exact ⟨k + 1, insL S x k, by go_num, by omega, fun h => by omega, HOE, HSE, HBE⟩
                    case measure => simp [RowKit.intOf]; omega
      · obtain rfl : i = n := by omega
        have j1 : ¬ ((i : Int) < i) := by omega
        obtain ⟨d1, d2⟩ := HSS.out.done HN.out h8
        have HD := Lib.hid d1
        have HD2 := Lib.hid d2
        clear d1 d2 hnil
        go_wp2
        go_ret2
        exact ⟨.inl ⟨HD.out, _, rfl, by rw [← HD2.out, HSS.out.1]; exact HO.out⟩, HB.out⟩
  · have j8 : (8 : Int) < n := by omega
    have HD := Lib.hid (tidy_len (xs := xs) (by rw [HN.out]; omega))
    go_enter Try.func21, Try.ntmps21
    go_wp2
    go_ret2
    exact ⟨.inr ⟨HD.out, rfl⟩, Below.refl _ _⟩
end Go.Proofs.Ytphkodkenkiecaa
