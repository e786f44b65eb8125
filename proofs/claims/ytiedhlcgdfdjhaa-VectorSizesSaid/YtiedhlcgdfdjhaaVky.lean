/- The walk of the statement on keys: on some names, ignoring all others. -/
import Derived.Test.YtiedhlcgdfdjhaaVsp
namespace Go.Proofs.Ytiedhlcgdfdjhaa.Vec
open Go.RowKit

def isM (x : Lab) : Bool := inB [metricT] x
theorem isM_iff (x : Lab) : isM x = true ↔ x.1 = metricT := by
  unfold isM inB
  rw [Lib.containsS_iff]; simp
theorem outM (x : Lab) : outB [metricT] x = !isM x := rfl
theorem len_split (p : Lab → Bool) (l : Labs) : (l.filter p).length + (l.filter fun x => !p x).length = l.length := by
  have := (List.filter_append_perm p l).length_eq
  rw [List.length_append] at this; exact this
theorem gets_filterM : ∀ T : Labs, (T.filter isM = [] → getL metricT T = ⟨#[]⟩) ∧ ∀ y ys, T.filter isM = y :: ys → getL metricT T = y.2
  | [] => ⟨fun _ => rfl, fun y ys h => by simp at h⟩
  | x :: xs => by
    obtain ⟨h1, h2⟩ := gets_filterM xs
    by_cases hx : isM x = true
    · have hn := (isM_iff x).1 hx
      refine ⟨fun h => by rw [List.filter_cons_of_pos hx] at h; simp at h, fun y ys h => ?_⟩
      rw [List.filter_cons_of_pos hx] at h
      obtain ⟨rfl, _⟩ := List.cons.inj h
      rw [getL, if_pos (by rw [hn])]
    · have hn : ¬ x.1.toList = metricT.toList := fun e => hx ((isM_iff x).2 (toList_inj.1 e))
      rw [List.filter_cons_of_neg hx, getL, if_neg hn]
      exact ⟨h1, h2⟩
theorem countM_le {l : Labs} (h : rightB l = true) : (l.filter isM).length ≤ 1 := by
  have hp := ((right_iff l).1 h).2.1.filter isM
  match hf : l.filter isM with
  | [] => simp
  | [_] => simp
  | a :: b :: r =>
    rw [hf] at hp
    have h1 := (List.pairwise_cons.1 hp).1 b List.mem_cons_self
    have ha : isM a = true := (List.mem_filter.1 (by rw [hf]; exact List.mem_cons_self)).2
    have hb : isM b = true := (List.mem_filter.1 (by rw [hf]; exact List.mem_cons_of_mem _ List.mem_cons_self)).2
    unfold nm at h1
    rw [(isM_iff a).1 ha, (isM_iff b).1 hb] at h1
    exact absurd h1 (List.lt_irrefl _)
/-- 1, if there is a metric. -/
def metI (l : Labs) : Int := if (getL metricT l).toList = [] then 0 else 1
theorem metI_eq {l : Labs} (h : rightB l = true) : metI l = (l.filter isM).length := by
  obtain ⟨h1, h2⟩ := gets_filterM l
  have hle := countM_le h
  unfold metI
  match hf : l.filter isM with
  | [] => rw [h1 hf, if_pos (by rw [ByteArray.toList_eq])]; rfl
  | y :: ys =>
    rw [h2 y ys hf]
    rw [hf] at hle
    have hy : y ∈ l := (List.mem_filter.1 (show y ∈ l.filter isM by rw [hf]; exact List.mem_cons_self)).1
    have hfit := ((right_iff l).1 h).2.2 y hy
    unfold fitsB at hfit
    rw [Bool.and_eq_true, Bool.and_eq_true] at hfit
    have hne : ¬ y.2.toList = [] := by
      intro e
      rw [e] at hfit
      simp at hfit
    rw [if_neg hne]
    have : ys = [] := by
      cases ys with
      | nil => rfl
      | cons _ _ => simp at hle
    subst this; rfl
def namedI (l : Labs) : Int := if l.filter isM = [] then 0 else 1
theorem keys_plain {l : Labs} (ns : List ByteArray) (h : rightB l = true) : ((keyR 0 [] l).length : Int) = l.length - metI l ∧ ((keyR 1 ns l).length : Int) + (keyR 2 ns l).length = l.length - metI l + namedI (keyR 1 ns l) := by
  have e0 : keyR 0 [] l = l.filter (fun x => !isM x) := rfl
  have e1 : keyR 1 ns l = l.filter (inB ns) := rfl
  have e2 : keyR 2 ns l = (l.filter (outB ns)).filter (fun x => !isM x) := rfl
  have s1 := len_split isM l
  have s2 := len_split (inB ns) l
  have s3 := len_split isM (l.filter (outB ns))
  have s4 := len_split (inB ns) (l.filter isM)
  have c1 : (l.filter (outB ns)).filter isM = (l.filter isM).filter (fun x => !inB ns x) := by
    rw [List.filter_filter, List.filter_filter]
    congr 1; funext x; exact Bool.and_comm _ _
  have c2 : (l.filter (inB ns)).filter isM = (l.filter isM).filter (inB ns) := by
    rw [List.filter_filter, List.filter_filter]
    congr 1; funext x; exact Bool.and_comm _ _
  have e3 : (l.filter (outB ns)).length = (l.filter fun x => !inB ns x).length := rfl
  rw [c1] at s3
  have hle := countM_le h
  have hn : namedI (keyR 1 ns l) = ((l.filter isM).filter (inB ns)).length := by
    unfold namedI
    rw [e1, c2]
    cases hq : (l.filter isM).filter (inB ns) with
    | nil => rfl
    | cons a r =>
      have : ((l.filter isM).filter (inB ns)).length ≤ 1 := by omega
      rw [hq] at this
      simp at this
      subst this
      simp
  rw [hn, metI_eq h, e0, e1, e2]
  omega
theorem namedI_step {l : Labs} {k : Nat} {x : Lab} (h : l[k]? = some x) : namedI (l.take (k + 1)) = if isM x then 1 else namedI (l.take k) := by
  unfold namedI
  rw [List.take_add_one, h, List.filter_append, Option.toList_some]
  cases hx : isM x with
  | true => rw [show List.filter isM [x] = [x] by simp [hx]]; simp
  | false => rw [show List.filter isM [x] = [] by simp [hx], List.append_nil]; rfl
theorem metric_eq (x : Lab) : (x.1.toList == metricT.toList) = isM x := by
  rw [Bool.eq_iff_iff, beq_iff_eq, isM_iff, toList_inj]

set_option maxHeartbeats 8000000 in
set_option maxRecDepth 100000 in
theorem keys_any (o on : Option Addr) (n c nn cn : Nat) (xs : List Rw) (ns : List ByteArray) (w : World) (hn : xs.length = n) (hnn : ns.length = nn) (hmn : nn ≤ maxLen) (hS : RowsS w w.heap.size o xs) (hN : SeesN w on ns) :
    Calls Try.prog 5 #[.slice o n c, .slice on nn cn] w fun e w' => e = .returned (.bool true) ∧ Below w.heap.size w w' := by
  have HAl := Lib.hid (fun W => alive_any W)
  have HLt := Lib.hid (lightR_any o n c xs w _ hn hS)
  unfold maxLen at hmn
  cases hl : lightR xs with
  | false =>
    rw [hl] at HLt
    clear hl hS hN
    go_enter Try.func5, Try.ntmps5
    go_wp2_with fail
    refine HLt.out.mono ?_
    rintro e w1 ⟨rfl, b1⟩
    go_wp2_with fail
    refine (HAl.out _).mono ?_
    rintro e w2 ⟨rfl, b2⟩
    go_wp2
    go_ret
    exact ⟨rfl, b1.trans (b2.mono b1.size)⟩
  | true =>
  obtain ⟨h60, hsm⟩ := lightR_mk hl
  rw [hl] at HLt
  by_cases hnn10 : 10 < nn
  · have i1 : (10 : Int) < nn := by omega
    clear hl hS hN
    go_enter Try.func5, Try.ntmps5
    go_wp2_with fail
    refine HLt.out.mono ?_
    rintro e w1 ⟨rfl, b1⟩
    go_wp2_with fail
    refine (HAl.out _).mono ?_
    rintro e w2 ⟨rfl, b2⟩
    go_wp2
    go_ret
    exact ⟨rfl, b1.trans (b2.mono b1.size)⟩
  have i1 : ¬ (10 : Int) < nn := by omega
  have har := vecT_right xs
  have hal : (vecT xs).length ≤ 60 := Nat.le_trans (vecT_len xs) h60
  have HT := Lib.hid (fun W (hb : Below w.heap.size w W) => ltidy_any o n c xs W _ hn (by omega) hsm (hS.below frow hb))
  obtain ⟨a, ha⟩ : ∃ a, vecT xs = a := ⟨_, rfl⟩
  rw [ha] at har hal HT
  obtain ⟨na, hna⟩ : ∃ na, a.length = na := ⟨_, rfl⟩
  have HNA := Lib.hid hna
  have HAR := Lib.hid har
  have HNN := Lib.hid hnn
  have HSN := Lib.hid hN
  have hna60 : na ≤ 60 := by rw [← hna]; exact hal
  clear hl hS hN ha har hal hna hsm hnn
  go_enter Try.func5, Try.ntmps5
  go_wp2_with fail
  refine HLt.out.mono ?_
  rintro e w1 ⟨rfl, b1⟩
  go_wp2_with fail
  refine (HAl.out _).mono ?_
  rintro e w2 ⟨rfl, b2⟩
  have b12 := b1.trans (b2.mono b1.size)
  clear b1 b2
  go_wp2_with fail
  refine (HT.out _ b12).mono ?_
  rintro e w3 ⟨⟨va, usa, rfl, hoa⟩, b3⟩
  obtain ⟨oA, cA, rfl, hsA, _⟩ := hoa.sees frow
  rw [HNA.out]
  have HB3 := Lib.hid (b12.trans (b3.mono b12.size))
  have HSA := Lib.hid hsA
  clear b12 b3 hoa hsA HLt HAl HT
  go_wp2
  go_loopw [6, 7, 8, 9, 10, 11, 12] (fun v6 v7 v8 v9 v10 v11 v12 wr => ∃ i : Nat, v6 = .int .i64 i ∧ i ≤ na ∧ Hid (Below w3.heap.size w3 wr)) (fun v6 _ _ _ _ _ _ _ => na - (intOf v6).toNat)
  case atStart => exact ⟨0, rfl, Nat.zero_le _, Below.refl _ _⟩
  case round =>
    obtain ⟨i, rfl, hi, HB⟩ := hrel
    by_cases hin : i < na
    · have j1 : (i : Int) < na := by omega
      obtain ⟨x, hx⟩ := get_ltG HNA.out hin
      obtain ⟨b, off, rfl, hR⟩ := (HSA.out.below frow HB.out).at hx
      obtain ⟨oL, cL, c0, _, hL, lL⟩ := row_at hR hx
      have hlow := hR.low
      have hrx := ((right_fit HAR.out).2.1 x (List.mem_of_getElem? hx)).1
      have hsx := right_small hrx
      obtain ⟨P0, P1⟩ := keys_plain ns hrx
      obtain ⟨nL, hnL⟩ : ∃ nL, x.1.length = nL := ⟨_, rfl⟩
      rw [hnL] at c0 P0 P1
      have HC0 := Lib.hid (fun W (h : Below wr.heap.size wr W) => (show W.cell? ⟨b, off + i * 2, none⟩ = some (.slice oL nL cL) from (h.cell (p := ⟨b, _, none⟩) hlow).trans c0))
      have HBw := Lib.hid (HB3.out.trans (HB.out.mono HB3.out.size))
      have HK := Lib.hid (fun (mode : Int) (on2 : Option Addr) (nn2 cn2 : Nat) (ns2 : List ByteArray) (W : World) (h1 : ns2.length = nn2) (h2 : nn2 ≤ 10) (hb : Below wr.heap.size wr W) (hs2 : SeesN W on2 ns2) => (show Calls Try.prog 19 #[.int .i64 mode, .slice on2 nn2 cn2, .slice oL nL cL] W (KeyIs W (keyR mode ns2 x.1)) from
        key_any mode on2 oL nn2 cn2 nL cL ns2 x.1 W h1 hnL hsx (by unfold maxLen; omega) (hL.sees.below hb) hs2))
      have HG := Lib.hid (fun W (hb : Below wr.heap.size wr W) => (show Calls Try.prog 12 #[.slice oL nL cL, .string metricT] W fun e w' => e = .returned (.string (getL metricT x.1)) ∧ W = w' from by
        rw [← hnL]; exact rget_any oL cL x.1 metricT W lL (hL.sees.below hb)))
      obtain ⟨k1, hk1⟩ : ∃ k1, keyR 1 ns x.1 = k1 := ⟨_, rfl⟩
      obtain ⟨k2, hk2⟩ : ∃ k2, keyR 2 ns x.1 = k2 := ⟨_, rfl⟩
      obtain ⟨k0, hk0⟩ : ∃ k0, keyR 0 [] x.1 = k0 := ⟨_, rfl⟩
      obtain ⟨g, hg⟩ : ∃ g, getL metricT x.1 = g := ⟨_, rfl⟩
      have hmi : metI x.1 = if g.toList = [] then 0 else 1 := by unfold metI; rw [hg]
      have H1 := Lib.hid (HK.out 1 on nn cn ns wr HNN.out (by omega) (Below.refl _ _) (HSN.out.below HBw.out))
      have H2 := Lib.hid (fun W hb => HK.out 2 on nn cn ns W HNN.out (by omega) hb (HSN.out.below (HBw.out.trans (hb.mono HBw.out.size))))
      have H0 := Lib.hid (fun W hb => HK.out 0 none 0 0 [] W rfl (by omega) hb (seesNil W))
      have hl1 : k1.length ≤ nL := by rw [← hk1, ← hnL]; exact key_len _ _ _
      have hl2 : k2.length ≤ nL := by rw [← hk2, ← hnL]; exact key_len _ _ _
      have hl0 : k0.length ≤ nL := by rw [← hk0, ← hnL]; exact key_len _ _ _
      have hnl8 : nL ≤ 1000 := by rw [← hnL]; exact hsx.len
      rw [hk1] at H1 P1
      rw [hk2] at H2 P1
      rw [hk0] at H0 P0
      rw [hg] at HG
      rw [hmi] at P0 P1
      have HP0 := Lib.hid P0
      have HP1 := Lib.hid P1
      clear hR hx hL lL hlow hrx hsx P0 P1 hnL hk1 hk2 hk0 hg hmi HK c0
      have c0 := HC0.out wr (Below.refl _ _)
      go_wp2_with fail
      refine H1.out.mono ?_
      rintro e w4 ⟨⟨v4, rfl, ho1⟩, b4⟩
      obtain ⟨o1, c1, rfl, hs1, _⟩ := own_sees ho1
      have HS1 := Lib.hid hs1
      have HB4 := Lib.hid b4
      have c4 := HC0.out w4 b4
      clear ho1 hs1 b4 c0 H1
      go_wp2_with fail
      refine (H2.out _ HB4.out).mono ?_
      rintro e w5 ⟨⟨v5, rfl, ho2⟩, b5⟩
      obtain ⟨o2, c2, rfl, _, _⟩ := own_sees ho2
      have HS15 := Lib.hid (HS1.out.below b5)
      have HB5 := Lib.hid (HB4.out.trans (b5.mono HB4.out.size))
      have c5 := HC0.out w5 HB5.out
      clear ho2 b5 c4 H2 HS1 HB4
      go_wp2_with fail
      refine (H0.out _ HB5.out).mono ?_
      rintro e w6 ⟨⟨v6, rfl, ho0⟩, b6⟩
      obtain ⟨o0, c0, rfl, _, _⟩ := own_sees ho0
      have HS16 := Lib.hid (HS15.out.below b6)
      have HB6 := Lib.hid (HB5.out.trans (b6.mono HB5.out.size))
      have c6 := HC0.out w6 HB6.out
      clear ho0 b6 c5 H0 HS15 HB5
      obtain ⟨n1, hn1⟩ : ∃ n1, k1.length = n1 := ⟨_, rfl⟩
      obtain ⟨n2, hn2⟩ : ∃ n2, k2.length = n2 := ⟨_, rfl⟩
      obtain ⟨n0, hn0⟩ : ∃ n0, k0.length = n0 := ⟨_, rfl⟩
      rw [hn1] at hl1 HP1 ⊢
      rw [hn2] at hl2 HP1 ⊢
      rw [hn0] at hl0 HP0 ⊢
      have HN1 := Lib.hid hn1
      clear hn1 hn2 hn0
      obtain ⟨mI, hmI⟩ : ∃ mI : Int, (if g.toList = [] then 0 else 1) = mI := ⟨_, rfl⟩
      rw [hmI] at HP0 HP1
      have HB7 := Lib.hid (HB.out.trans (HB6.out.mono HB.out.size))
      go_wp2_with fail
      refine (HG.out _ HB6.out).mono ?_
      rintro e w7 ⟨rfl, rfl⟩
      clear HG
      by_cases hg0 : g.toList = []
      · have g1 : (g.toList == []) = true := by rw [hg0]; rfl
        have g2 : g.toList.isEmpty = true := by rw [hg0]; rfl
        rw [if_pos hg0] at hmI
        subst hmI
        have w0 : IntKind.i64.wrap ((nL : Int)) = (nL : Int) := by rw [IntKind.wrap_i64]; omega
        have t0 : ((n0 : Int) != (nL : Int)) = false := by rw [bne_eq_false_iff_eq]; have := HP0.out; omega
        have HQ := Lib.hid (show (n1 : Int) + n2 = (nL : Int) + namedI k1 by have := HP1.out; omega)
        clear HP0 HP1
        go_wp2
        go_loopw [11, 12] (fun v11 v12 wi => ∃ k : Nat, v12 = .int .i64 k ∧ k ≤ n1 ∧ v11 = .int .i64 (namedI (k1.take k)) ∧ Hid (Below w6.heap.size w6 wi)) (fun _ v12 _ => n1 - (intOf v12).toNat)
        case atStart => exact ⟨0, rfl, Nat.zero_le _, rfl, Below.refl _ _⟩
        case round =>
          obtain ⟨k, rfl, hk, rfl, HBi⟩ := hrel
          by_cases hkn : k < n1
          · have j2 : (k : Int) < n1 := by omega
            obtain ⟨y, hy⟩ := get_lt HN1.out hkn
            obtain ⟨b1, off1, rfl, hY⟩ := (HS16.out.below HBi.out).at hy
            have d0 := hY.at0 k y hy
            have hstep := namedI_step hy
            cases hq : isM y with
            | true =>
              have e1 : y.1.toList = [109, 101, 116, 114, 105, 99] := by rw [(isM_iff y).1 hq, ByteArray.toList_eq]
              have e2 : (y.1.toList == [109, 101, 116, 114, 105, 99]) = true := beq_iff_eq.2 e1
              rw [hq, if_pos rfl] at hstep
              have HST := Lib.hid hstep
              clear hstep hY hy hq
              go_wp2
              go_roundw
              case rel => exact ⟨k + 1, by go_num, by omega, by rw [HST.out], HBi⟩
              case measure => simp [intOf]; omega
            | false =>
              have e1 : ¬ y.1.toList = [109, 101, 116, 114, 105, 99] := fun e => by
                have : isM y = true := (isM_iff y).2 (toList_inj.1 (by rw [e, ByteArray.toList_eq]))
                rw [hq] at this; cases this
              have e2 : (y.1.toList == [109, 101, 116, 114, 105, 99]) = false := beq_eq_false_iff_ne.2 e1
              rw [hq, if_neg (by decide)] at hstep
              have HST := Lib.hid hstep
              clear hstep hY hy hq
              go_wp2
              go_roundw
              case rel => exact ⟨k + 1, by go_num, by omega, by rw [HST.out], HBi⟩
              case measure => simp [intOf]; omega
          · have j2 : ¬ (k : Int) < n1 := by omega
            have hE : k1.take k = k1 := List.take_of_length_le (by rw [HN1.out]; omega)
            rw [hE]
            obtain ⟨nm, hnm⟩ : ∃ nm, namedI k1 = nm := ⟨_, rfl⟩
            have hn01 : 0 ≤ nm ∧ nm ≤ 1 := by rw [← hnm]; unfold namedI; split <;> omega
            have hQ := HQ.out
            rw [hnm] at hQ ⊢
            have d6 := HC0.out _ (HB6.out.trans (HBi.out.mono HB6.out.size))
            have w1 : IntKind.i64.wrap ((n1 : Int) + n2) = (n1 : Int) + n2 := by rw [IntKind.wrap_i64]; omega
            have w2 : IntKind.i64.wrap ((nL : Int) + nm) = (nL : Int) + nm := by rw [IntKind.wrap_i64]; omega
            have t6 : ((n1 : Int) + n2 != (nL : Int) + nm) = false := by rw [bne_eq_false_iff_eq]; exact hQ
            have HBf := Lib.hid (HB7.out.trans (HBi.out.mono HB7.out.size))
            clear hE hnm hQ hn01 HQ
            go_wp2
            go_roundw
            case rel => exact ⟨i + 1, by go_num, by omega, HBf⟩
            case measure => simp [intOf]; omega
      · have g1 : (g.toList == []) = false := beq_eq_false_iff_ne.2 hg0
        have g2 : g.toList.isEmpty = false := by rw [List.isEmpty_eq_false_iff]; exact hg0
        rw [if_neg hg0] at hmI
        subst hmI
        have w0 : IntKind.i64.wrap ((nL : Int) - 1) = (nL : Int) - 1 := by rw [IntKind.wrap_i64]; omega
        have t0 : ((n0 : Int) != (nL : Int) - 1) = false := by rw [bne_eq_false_iff_eq]; have := HP0.out; omega
        have HQ := Lib.hid (show (n1 : Int) + n2 = (nL : Int) - 1 + namedI k1 by have := HP1.out; omega)
        clear HP0 HP1
        go_wp2
        go_loopw [11, 12] (fun v11 v12 wi => ∃ k : Nat, v12 = .int .i64 k ∧ k ≤ n1 ∧ v11 = .int .i64 (namedI (k1.take k)) ∧ Hid (Below w6.heap.size w6 wi)) (fun _ v12 _ => n1 - (intOf v12).toNat)
        case atStart => exact ⟨0, rfl, Nat.zero_le _, rfl, Below.refl _ _⟩
        case round =>
          obtain ⟨k, rfl, hk, rfl, HBi⟩ := hrel
          by_cases hkn : k < n1
          · have j2 : (k : Int) < n1 := by omega
            obtain ⟨y, hy⟩ := get_lt HN1.out hkn
            obtain ⟨b1, off1, rfl, hY⟩ := (HS16.out.below HBi.out).at hy
            have d0 := hY.at0 k y hy
            have hstep := namedI_step hy
            cases hq : isM y with
            | true =>
              have e1 : y.1.toList = [109, 101, 116, 114, 105, 99] := by rw [(isM_iff y).1 hq, ByteArray.toList_eq]
              have e2 : (y.1.toList == [109, 101, 116, 114, 105, 99]) = true := beq_iff_eq.2 e1
              rw [hq, if_pos rfl] at hstep
              have HST := Lib.hid hstep
              clear hstep hY hy hq
              go_wp2
              go_roundw
              case rel => exact ⟨k + 1, by go_num, by omega, by rw [HST.out], HBi⟩
              case measure => simp [intOf]; omega
            | false =>
              have e1 : ¬ y.1.toList = [109, 101, 116, 114, 105, 99] := fun e => by
                have : isM y = true := (isM_iff y).2 (toList_inj.1 (by rw [e, ByteArray.toList_eq]))
                rw [hq] at this; cases this
              have e2 : (y.1.toList == [109, 101, 116, 114, 105, 99]) = false := beq_eq_false_iff_ne.2 e1
              rw [hq, if_neg (by decide)] at hstep
              have HST := Lib.hid hstep
              clear hstep hY hy hq
              go_wp2
              go_roundw
              case rel => exact ⟨k + 1, by go_num, by omega, by rw [HST.out], HBi⟩
              case measure => simp [intOf]; omega
          · have j2 : ¬ (k : Int) < n1 := by omega
            have hE : k1.take k = k1 := List.take_of_length_le (by rw [HN1.out]; omega)
            rw [hE]
            obtain ⟨nm, hnm⟩ : ∃ nm, namedI k1 = nm := ⟨_, rfl⟩
            have hn01 : 0 ≤ nm ∧ nm ≤ 1 := by rw [← hnm]; unfold namedI; split <;> omega
            have hQ := HQ.out
            rw [hnm] at hQ ⊢
            have d6 := HC0.out _ (HB6.out.trans (HBi.out.mono HB6.out.size))
            have w1 : IntKind.i64.wrap ((n1 : Int) + n2) = (n1 : Int) + n2 := by rw [IntKind.wrap_i64]; omega
            have w2 : IntKind.i64.wrap ((nL : Int) - 1 + nm) = (nL : Int) - 1 + nm := by rw [IntKind.wrap_i64]; omega
            have t6 : ((n1 : Int) + n2 != (nL : Int) - 1 + nm) = false := by rw [bne_eq_false_iff_eq]; exact hQ
            have HBf := Lib.hid (HB7.out.trans (HBi.out.mono HB7.out.size))
            clear hE hnm hQ hn01 HQ
            go_wp2
            go_roundw
            case rel => exact ⟨i + 1, by go_num, by omega, HBf⟩
            case measure => simp [intOf]; omega
    · have j1 : ¬ (i : Int) < na := by omega
      go_wp2
      go_ret
      exact ⟨rfl, HB3.out.trans (HB.out.mono HB3.out.size)⟩
end Go.Proofs.Ytiedhlcgdfdjhaa.Vec
