/- The document's page of a file. -/
import Derived.Test.YtldlfmeppcdbbaaRur
namespace Go.Proofs.Ytldlfmeppcdbbaa.Run
open Go.RowKit Go.Lib Go.Proofs.Ytldlfmeppcdbbaa.Crc Go.Proofs.Ytldlfmeppcdbbaa.Row Go.Proofs.Ytldlfmeppcdbbaa.Vec

theorem seg_in {α : Type} (d : List α) (x : α) (a z : Nat) (h1 : a ≤ d.length) (h2 : d.length < z) : ((d ++ [x]).take z).drop a = (d.take z).drop a ++ [x] := by
  rw [List.take_of_length_le (by rw [List.length_append]; simp; omega), List.take_of_length_le (by omega), List.drop_append, show a - d.length = 0 by omega]
  rfl
theorem seg_out {α : Type} (d : List α) (x : α) (a z : Nat) (h : z ≤ d.length) : ((d ++ [x]).take z).drop a = (d.take z).drop a := by
  rw [List.take_append_of_le_length h]
theorem seg_ahead {α : Type} (d : List α) (x : α) (a z : Nat) (h : d.length < a) : ((d ++ [x]).take z).drop a = (d.take z).drop a := by
  rw [List.drop_eq_nil_of_le (by rw [List.length_take, List.length_append]; simp; omega), List.drop_eq_nil_of_le (by rw [List.length_take]; omega)]
theorem pagR_own {B code n c : Nat} {w' : World} {o : Option Addr} {us : List (List Value)} {out : List Rw} (h : OwnR w' B (.slice o n c) us out) (hn : out.length = n) : PagR (code, out) (.returned (.tuple #[.slice o n c, .int .i64 (code : Nat)])) w' := by
  subst hn
  exact ⟨_, _, rfl, own_rows h⟩
theorem count_small {l r : List UInt8} {N : Nat} (h : countF l = some (N, r)) : N ≤ 2000 ∧ r.length ≤ l.length := by
  unfold countF at h
  split at h
  · next hc =>
    cases h
    exact ⟨hc.2.2.2, by have := take_less hc.1; omega⟩
  · cases h

/-- What a block that is looked at gives, and what comes behind it. -/
def joinP (i a z : Nat) (g : Option (List Rw × List UInt8)) (q : Option (List Rw)) : Option (List Rw) :=
  match g with
  | none => none
  | some p => if p.2 ≠ [] then none else
    match q with
    | none => none
    | some q => some (((p.1.take (z - i)).drop (a - i)) ++ q)
theorem page_step {N A z f i : Nat} {l : List UInt8} (h : i < z ∧ A < z) (h0 : (takeF l).1 = 0) (h8 : ¬ i + 8 ≤ A) : pageL N A z (f + 1) i l = joinP i A z (getN (min 8 (N - i)) (takeF l).2.1) (pageL N A z f (i + 8) (takeF l).2.2) := by
  rw [pageL, if_pos h, if_neg (fun e => e h0), if_neg h8]
  unfold joinP
  cases getN (min 8 (N - i)) (takeF l).2.1 with
  | none => rfl
  | some p =>
    simp only []
    split
    · rfl
    · cases pageL N A z f (i + 8) (takeF l).2.2 <;> rfl
set_option maxHeartbeats 32000000 in
set_option maxRecDepth 100000 in
theorem dpage_any (b : ByteArray) (a n : Int) (w : World) (hb : b.size ≤ 1000000) :
    Calls Try.prog 10 #[.string b, .int .i64 a, .int .i64 n] w fun e w' => PagR (pageF b.data.toList a n) e w' ∧ Below w.heap.size w w' := by
  obtain ⟨i0, hi, hz0, hz1, hz2⟩ := info_parts infoRow
  have HCo := Lib.hid (dcount_any b w hb)
  obtain ⟨C, hC⟩ : ∃ C, countF b.data.toList = C := ⟨_, rfl⟩
  obtain ⟨P, hP⟩ : ∃ P, pageF b.data.toList a n = P := ⟨_, rfl⟩
  rw [hP]
  unfold pageF at hP
  rw [hC] at hP HCo
  cases C with
  | none =>
    simp only [] at hP
    subst hP
    simp only [countS] at HCo
    clear hC hb hi hz0 hz1 hz2
    go_enter Try.func10, Try.ntmps10
    go_wp2_with fail
    refine HCo.out.mono ?_
    rintro e w1 ⟨rfl, b1⟩
    have HB1 := Lib.hid b1
    clear b1
    go_wp2
    go_ret2
    exact ⟨PagR.err 10 _, HB1.out⟩
  | some p =>
  obtain ⟨N, r0⟩ := p
  obtain ⟨hN, hr0⟩ := count_small hC
  obtain ⟨rb0, hrb0⟩ : ∃ rb0 : ByteArray, ⟨r0.toArray⟩ = rb0 := ⟨_, rfl⟩
  have hrd0 : rb0.data.toList = r0 := by rw [← hrb0, Crc.str_data]
  have hrs0 : rb0.size ≤ 1000000 := by rw [Lib.size_eq, hrd0]; rw [← Lib.size_eq] at hr0; omega
  simp only [countS, hrb0] at HCo
  simp only [] at hP
  by_cases hc : a < 0 ∨ (N : Int) < a ∨ n < 0
  · rw [if_pos hc] at hP
    subst hP
    clear hC hb hi hz0 hz1 hz2 hrb0 hrd0 hrs0 hr0
    by_cases h1 : a < 0
    · clear hc
      go_enter Try.func10, Try.ntmps10
      go_wp2_with fail
      refine HCo.out.mono ?_
      rintro e w1 ⟨rfl, b1⟩
      have HB1 := Lib.hid b1
      clear b1
      go_wp2
      go_ret2
      exact ⟨PagR.err 1 _, HB1.out⟩
    have j1 : 0 ≤ a := by omega
    by_cases h2 : (N : Int) < a
    · clear hc h1
      go_enter Try.func10, Try.ntmps10
      go_wp2_with fail
      refine HCo.out.mono ?_
      rintro e w1 ⟨rfl, b1⟩
      have HB1 := Lib.hid b1
      clear b1
      go_wp2
      go_ret2
      exact ⟨PagR.err 1 _, HB1.out⟩
    have h3 : n < 0 := by omega
    have j2 : a ≤ (N : Int) := by omega
    clear hc h1 h2
    go_enter Try.func10, Try.ntmps10
    go_wp2_with fail
    refine HCo.out.mono ?_
    rintro e w1 ⟨rfl, b1⟩
    have HB1 := Lib.hid b1
    clear b1
    go_wp2
    go_ret2
    exact ⟨PagR.err 1 _, HB1.out⟩
  rw [if_neg hc] at hP
  obtain ⟨A, rfl⟩ : ∃ A : Nat, a = A := ⟨a.toNat, by omega⟩
  have j1 : (0 : Int) ≤ A := by omega
  have j2 : (A : Int) ≤ N := by omega
  have j2n : ¬ N < A := by omega
  have j3 : 0 ≤ n := by omega
  rw [Int.toNat_natCast] at hP
  by_cases hlt : n < (N : Int) - A
  · rw [if_pos hlt] at hP
    obtain ⟨z, hz⟩ : ∃ z, ((A : Int) + n).toNat = z := ⟨_, rfl⟩
    have e1 : (A : Int) + n = z := by omega
    rw [hz] at hP
    have hzN : z ≤ N := by omega
    clear hz hc
    obtain ⟨T, hT⟩ : ∃ T, pageL N A z (N + 1) 0 r0 = T := ⟨_, rfl⟩
    rw [hT] at hP
    have HT := Lib.hid hT
    have HRD := Lib.hid hrd0
    have HP := Lib.hid hP
    clear hT hP hC hrb0 hrd0 hb hr0
    go_enter Try.func10, Try.ntmps10
    go_wp2_with fail
    refine HCo.out.mono ?_
    rintro e w1 ⟨rfl, b1⟩
    have HB1 := Lib.hid b1
    clear b1
    go_wp2
    go_loopw [9, 12, 13, 14, 15, 16, 17, 18, 19, 20] (fun v9 v12 v13 _ _ _ _ _ _ _ wr => ∃ (i f : Nat) (rest : ByteArray) (out : List Rw) (us : List (List Value)), v13 = .int .i64 (i : Int) ∧ i ≤ z + 7 ∧ z - i < f ∧ v9 = .string rest ∧ rest.size ≤ 1000000 ∧ out.length ≤ i ∧ Hid (T = (pageL N A z f i rest.data.toList).map fun q => out ++ q) ∧ Hid (OwnR wr w.heap.size v12 us out) ∧ Hid (Below w.heap.size w wr)) (fun _ _ v13 _ _ _ _ _ _ _ _ => z + 8 - (Go.RowKit.intOf v13).toNat)
    case atStart => exact ⟨0, N + 1, rb0, [], [], rfl, by omega, by omega, rfl, hrs0, Nat.le_refl _, (show _ = _ by rw [HRD.out, HT.out]; cases T <;> rfl), OwnG.nil _ _, HB1⟩
    case round =>
      obtain ⟨i, f, rest, out, us, rfl, hi7, hf, rfl, hrs, hol, HE, HO, HB⟩ := hrel
      obtain ⟨oO, cO, rfl, hSO, _⟩ := HO.out.sees frow
      obtain ⟨nO, hnO⟩ : ∃ nO, out.length = nO := ⟨_, rfl⟩
      rw [hnO] at HO ⊢
      have HNO := Lib.hid hnO
      have hzr := HB.out.size
      obtain ⟨f, rfl⟩ : ∃ g, f = g + 1 := ⟨f - 1, by omega⟩
      clear hSO
      by_cases hcc : i < z ∧ A < z
      · obtain ⟨hiz, hAz⟩ := hcc
        have k1 : (i : Int) < z := by omega
        have k2 : (A : Int) < z := by omega
        have HTk := Lib.hid (dtake_is rest wr (by omega))
        obtain ⟨l, hl⟩ : ∃ l, rest.data.toList = l := ⟨_, rfl⟩
        rw [hl] at HE
        by_cases h0 : (takeF l).1 = 0
        case neg =>
          obtain ⟨q, hq⟩ : ∃ q, (takeF l).1 = q := ⟨_, rfl⟩
          have h2 := take_none h0
          have hV : takeV rest = .tuple #[.string ⟨#[]⟩, .string ⟨#[]⟩, .int .i64 q] := by unfold takeV; rw [hl, hq, h2.1, h2.2]
          rw [hV] at HTk
          have HX := Lib.hid (show P = (10, []) by
            rw [← HP.out, HE.out, pageL, if_pos ⟨hiz, hAz⟩, if_pos h0]; rfl)
          rw [hq] at h0
          have k3 : ¬ (q : Int) = 0 := by omega
          clear hV h2 hq h0 hl HE
          go_wp2_with fail
          refine HTk.out.mono ?_
          rintro e w2 ⟨rfl, dn, rfl⟩
          have HB2 := Lib.hid (HB.out.trans ((drewN_low wr dn).mono hzr))
          go_wp2
          go_ret2
          rw [HX.out]
          exact ⟨PagR.err 10 _, HB2.out⟩
        case pos =>
        obtain ⟨tb, htb⟩ : ∃ tb : ByteArray, ⟨(takeF l).2.1.toArray⟩ = tb := ⟨_, rfl⟩
        obtain ⟨rb, hrb⟩ : ∃ rb : ByteArray, ⟨(takeF l).2.2.toArray⟩ = rb := ⟨_, rfl⟩
        have htd : (takeF l).2.1 = tb.data.toList := by rw [← htb, Crc.str_data]
        have hrd : (takeF l).2.2 = rb.data.toList := by rw [← hrb, Crc.str_data]
        have hV : takeV rest = .tuple #[.string tb, .string rb, .int .i64 0] := by unfold takeV; rw [hl, h0, htb, hrb]; rfl
        rw [hV] at HTk
        have hrs2 : rb.size ≤ 1000000 := by
          have := take_less h0
          rw [Lib.size_eq, ← hrd]; rw [← hl, ← Lib.size_eq] at this; rw [← hl]; omega
        have hts : tb.size ≤ 12000 := by rw [Lib.size_eq, ← htd]; exact (take_inv (take_three h0)).2
        by_cases h8 : i + 8 ≤ A
        · have HE2 := Lib.hid (show T = (pageL N A z f (i + 8) rb.data.toList).map fun q => out ++ q by
            rw [HE.out, pageL, if_pos ⟨hiz, hAz⟩, if_neg (fun e => e h0), if_pos h8, hrd])
          have k3 : (i : Int) + 8 ≤ A := by omega
          clear hV htb hrb htd hrd h0 hl HE
          go_wp2_with fail
          refine HTk.out.mono ?_
          rintro e w2 ⟨rfl, dn, rfl⟩
          have HB2 := Lib.hid (HB.out.trans ((drewN_low wr dn).mono hzr))
          have HO2 := Lib.hid (HO.out.below frow (drewN_low wr dn))
          go_wp2
          go_roundw
          case rel => exact ⟨i + 8, f, rb, out, us, by go_num, by omega, by omega, rfl, hrs2, by omega, HE2, HO2, HB2⟩
          case measure => simp [Go.RowKit.intOf]; omega
        · obtain ⟨K, hK⟩ : ∃ K, min 8 (N - i) = K := ⟨_, rfl⟩
          have HE2 := Lib.hid (show T = (joinP i A z (getN K tb.data.toList) (pageL N A z f (i + 8) rb.data.toList)).map fun q => out ++ q by
            rw [HE.out, page_step ⟨hiz, hAz⟩ h0 h8, htd, hrd, hK])
          have k3 : (A : Int) < (i : Int) + 8 := by omega
          have hK1 : 1 ≤ K := by omega
          have hK8 : K ≤ 8 := by omega
          have hKN : i + K ≤ N := by omega
          have HKK := Lib.hid hK
          clear hV htb hrb htd hrd h0 hl HE hK
          go_wp2_with fail
          refine HTk.out.mono ?_
          rintro e w2 ⟨rfl, dn, rfl⟩
          have HB2 := Lib.hid (HB.out.trans ((drewN_low wr dn).mono hzr))
          have HO2 := Lib.hid (HO.out.below frow (drewN_low wr dn))
          go_wp2
          go_loopw [12, 14, 17, 18, 19, 20] (fun v12 v14 v17 _ _ _ wr2 => ∃ (k : Nat) (cur : ByteArray) (dn : List Rw) (us : List (List Value)), v17 = .int .i64 ((i + k : Nat) : Int) ∧ k ≤ K ∧ v14 = .string cur ∧ cur.size ≤ 12000 ∧ dn.length = k ∧ Hid (getN K tb.data.toList = (getN (K - k) cur.data.toList).map fun q => (dn ++ q.1, q.2)) ∧ Hid (OwnR wr2 w.heap.size v12 us (out ++ (dn.take (z - i)).drop (A - i))) ∧ Hid (Below w.heap.size w wr2)) (fun _ _ v17 _ _ _ _ => N - (Go.RowKit.intOf v17).toNat)
          case atStart => exact ⟨0, tb, [], us, rfl, Nat.zero_le _, rfl, hts, rfl, (show _ = _ by rw [Nat.sub_zero]; cases getN K tb.data.toList <;> rfl), (show OwnR _ _ _ _ _ by rw [List.take_nil, List.drop_nil, List.append_nil]; exact HO2.out), HB2⟩
          case round =>
            clear HB2 HO2 HTk
            obtain ⟨k, cur, dl, us, rfl, hkK, rfl, hcs, hdl, HG, HO3, HB3⟩ := hrel
            obtain ⟨y, hy⟩ : ∃ y, i + k = y := ⟨_, rfl⟩
            rw [hy]
            obtain ⟨oI, cI, rfl, hSI, _⟩ := HO3.out.sees frow
            obtain ⟨nI, hnI⟩ : ∃ nI, (out ++ (dl.take (z - i)).drop (A - i)).length = nI := ⟨_, rfl⟩
            have hnI2 : nI ≤ 2100 := by
              rw [← hnI, List.length_append, List.length_drop, List.length_take]; omega
            rw [hnI] at HO3 ⊢
            have HNI := Lib.hid hnI
            have hz3 := HB3.out.size
            clear hSI hnI
            by_cases hkk : k < K
            · have y1 : (y : Int) < (i : Int) + 8 := by omega
              have y2 : (y : Int) < N := by omega
              have HGt := Lib.hid (fun (W : World) => dget_any cur W (by omega))
              cases hg : getR cur.data.toList with
              | none =>
                have HX := Lib.hid (show P = (10, []) by
                  rw [← HP.out, HE2.out, HG.out, show K - k = (K - k - 1) + 1 by omega, getN, hg]; rfl)
                have HG2 := Lib.hid (fun (W : World) => (show Calls Try.prog 24 #[.string cur] W fun e w' => e = .returned (.tuple #[.agg #[.slice none 0 0, .int .i64 0], .string ⟨#[]⟩, .bool false]) ∧ Below W.heap.size W w' from (HGt.out W).mono fun e w' ⟨h1, h2⟩ => ⟨by unfold DGot at h1; rw [hg] at h1; exact h1, h2⟩))
                clear HGt hg HG
                go_wp2_with fail
                refine (HG2.out _).mono ?_
                rintro e w5 ⟨rfl, b5⟩
                have HB5 := Lib.hid (HB3.out.trans (b5.mono hz3))
                have HB6 := Lib.hid (HB5.out.alloc HB5.out.size (Obj.cells #[Value.slice none 0 0, Value.int .i64 0] 40))
                clear b5 HG2
                go_wp2
                go_ret2
                rw [HX.out]
                exact ⟨PagR.err 10 _, HB6.out⟩
              | some p =>
                obtain ⟨hpl, hp8⟩ := getR_len hg
                obtain ⟨xs, v, r⟩ := p
                simp only [] at hpl hp8
                obtain ⟨nL, hnL⟩ : ∃ nL, xs.length = nL := ⟨_, rfl⟩
                have hn8 : nL ≤ 8 := by omega
                obtain ⟨u, hu⟩ : ∃ u : ByteArray, ⟨r.toArray⟩ = u := ⟨_, rfl⟩
                have hud : u.data.toList = r := by rw [← hu, Crc.str_data]
                have hus : u.size ≤ 12000 := by rw [← Lib.size_eq] at hpl; rw [Lib.size_eq, hud]; omega
                have HG2 := Lib.hid (fun (W : World) => (show Calls Try.prog 24 #[.string cur] W fun e w' => (∃ o c, e = .returned (.tuple #[.agg #[.slice o nL c, .int .i64 v], .string u, .bool true]) ∧ w'.ownsRow W.heap.size 79 2 (.slice o nL c) nL (flatL xs)) ∧ Below W.heap.size W w' from (HGt.out W).mono fun e w' ⟨h1, h2⟩ => ⟨by unfold DGot at h1; rw [hg] at h1; simp only [hnL, hu] at h1; exact h1, h2⟩))
                have HG3 := Lib.hid (show getN K tb.data.toList = (getN (K - (k + 1)) u.data.toList).map fun q => ((dl ++ [(xs, v)]) ++ q.1, q.2) by
                  rw [HG.out, show K - k = (K - (k + 1)) + 1 by omega, getN, hg, hud]
                  simp only []
                  cases getN (K - (k + 1)) r with
                  | none => rfl
                  | some q => simp)
                have HNL := Lib.hid hnL
                have HDL := Lib.hid hdl
                have HY := Lib.hid hy
                have hk1 : k + 1 ≤ K := by omega
                clear HGt hg HG hnL hu hud hpl
                by_cases hap : A ≤ y ∧ y < z
                · have y3 : (A : Int) ≤ y := by omega
                  have y4 : (y : Int) < z := by omega
                  have HSG := Lib.hid (show (out ++ (dl.take (z - i)).drop (A - i)) ++ [(xs, v)] = out ++ ((dl ++ [(xs, v)]).take (z - i)).drop (A - i) by
                    rw [seg_in dl (xs, v) (A - i) (z - i) (by omega) (by omega), List.append_assoc])
                  obtain ⟨nU, hnU⟩ : ∃ nU, us.length = nU := ⟨_, rfl⟩
                  have hnk : nU = nI := by rw [← hnU, HO3.out.len, HNI.out]
                  clear hap hdl hy
                  go_wp2_with fail
                  refine (HG2.out _).mono ?_
                  rintro e w5 ⟨⟨oL, cL, rfl, hOL⟩, b5⟩
                  have hB5 := HB3.out.trans (b5.mono hz3)
                  have hz5 := hB5.size
                  have hO5 := HO3.out.below frow b5
                  have hX1 := (Below.refl w5.heap.size w5).alloc (Nat.le_refl _) (Obj.cells #[Value.slice oL nL cL, Value.int .i64 v] 40)
                  have hX2 := hX1.alloc hX1.size (Obj.cells #[Value.slice oL nL cL, Value.int .i64 v] 40)
                  have HB7 := Lib.hid (hB5.trans (hX2.mono hz5))
                  have HO7 := Lib.hid (hO5.below frow hX2)
                  have HLb := Lib.hid (own_grown hOL hX2)
                  have hlim : us.length ≤ 2100 := by rw [hnU]; omega
                  have HO8 := Lib.hid (show ((w5.alloc (Obj.cells #[Value.slice oL nL cL, Value.int .i64 v] 40)).alloc (Obj.cells #[Value.slice oL nL cL, Value.int .i64 v] 40)).ownsRow w.heap.size 40 2 (.slice oI nI cI) us.length us.flatten from HO7.out.own)
                  clear hO5 hOL b5 hB5 hX1 hX2 HG2 hnk
                  go_wp2_with (at_builtin; go_must (refine wpList_append_own _ rfl _ _ 23 rfl w.heap.size 40 i0 (.agg #[.slice none 0 0, .int .i64 0]) 2 32 Try.underlying23 hi hz0 hz1 hz2 rfl (by decide) _ _ _ rfl HO8.out ⟨w5.heap.size + 1, 0, none⟩ 1 1 [.slice oL nL cL, .int .i64 v] rfl rfl (cells_k2 w5 _ _ _) (by intro v hv; simp at hv; rcases hv with rfl | rfl <;> rfl) (by unfold maxLen; omega) (by omega) (by simp; omega) ?_); intro v' w8 hown' hgrow8 hnil8)
                  have HB8 := Lib.hid (Below.grown HB7.out hgrow8 (by
                    rw [show ((w5.alloc (Obj.cells #[Value.slice oL nL cL, Value.int .i64 v] 40)).alloc (Obj.cells #[Value.slice oL nL cL, Value.int .i64 v] 40)).heap.size = w5.heap.size + 1 + 1 from (Array.size_push _).trans (by rw [show (w5.alloc (Obj.cells #[Value.slice oL nL cL, Value.int .i64 v] 40)).heap.size = w5.heap.size + 1 from Array.size_push _])]
                    omega) (fun j hj => (HO7.out.own.lt j hj).1))
                  have HO9 := Lib.hid (show OwnR w8 w.heap.size v' (us ++ [[.slice oL nL cL, .int .i64 v]]) (out ++ ((dl ++ [(xs, v)]).take (z - i)).drop (A - i)) from by
                    rw [← HSG.out]
                    exact OwnG.snoc frow (Nat.zero_le _) HO7.out ⟨oL, cL, by rw [HNL.out], labS_own HLb.out HNL.out, by rw [HNL.out]; unfold maxLen; omega⟩ hown' hgrow8)
                  clear hown' hgrow8 hnil8 HO7 HB7 HLb HO8
                  go_wp2
                  go_roundw
                  case rel => exact ⟨k + 1, u, dl ++ [(xs, v)], _, by rw [← HY.out]; go_num, hk1, rfl, hus, by rw [List.length_append, HDL.out]; rfl, HG3, HO9, HB8⟩
                  case measure => have := HY.out; simp [Go.RowKit.intOf]; omega
                · have HSG := Lib.hid (show (out ++ (dl.take (z - i)).drop (A - i)) = out ++ ((dl ++ [(xs, v)]).take (z - i)).drop (A - i) by
                    by_cases hA : y < A
                    · rw [seg_ahead dl (xs, v) (A - i) (z - i) (by omega)]
                    · rw [seg_out dl (xs, v) (A - i) (z - i) (by omega)])
                  by_cases hA : y < A
                  · have y3 : (y : Int) < A := by omega
                    clear hap hdl hy hA
                    go_wp2_with fail
                    refine (HG2.out _).mono ?_
                    rintro e w5 ⟨⟨oL, cL, rfl, hOL⟩, b5⟩
                    have hB5 := HB3.out.trans (b5.mono hz3)
                    have hX1 := (Below.refl w5.heap.size w5).alloc (Nat.le_refl _) (Obj.cells #[Value.slice oL nL cL, Value.int .i64 v] 40)
                    have HB7 := Lib.hid (hB5.trans (hX1.mono hB5.size))
                    have HO7 := Lib.hid ((HO3.out.below frow b5).below frow hX1)
                    rw [HSG.out] at HO7
                    clear hOL b5 hB5 hX1 HG2
                    go_wp2
                    go_roundw
                    case rel => exact ⟨k + 1, u, dl ++ [(xs, v)], _, by rw [← HY.out]; go_num, hk1, rfl, hus, by rw [List.length_append, HDL.out]; rfl, HG3, HO7, HB7⟩
                    case measure => have := HY.out; simp [Go.RowKit.intOf]; omega
                  · have y3 : (A : Int) ≤ y := by omega
                    have y4 : (z : Int) ≤ y := by omega
                    clear hap hdl hy hA
                    go_wp2_with fail
                    refine (HG2.out _).mono ?_
                    rintro e w5 ⟨⟨oL, cL, rfl, hOL⟩, b5⟩
                    have hB5 := HB3.out.trans (b5.mono hz3)
                    have hX1 := (Below.refl w5.heap.size w5).alloc (Nat.le_refl _) (Obj.cells #[Value.slice oL nL cL, Value.int .i64 v] 40)
                    have HB7 := Lib.hid (hB5.trans (hX1.mono hB5.size))
                    have HO7 := Lib.hid ((HO3.out.below frow b5).below frow hX1)
                    rw [HSG.out] at HO7
                    clear hOL b5 hB5 hX1 HG2
                    go_wp2
                    go_roundw
                    case rel => exact ⟨k + 1, u, dl ++ [(xs, v)], _, by rw [← HY.out]; go_num, hk1, rfl, hus, by rw [List.length_append, HDL.out]; rfl, HG3, HO7, HB7⟩
                    case measure => have := HY.out; simp [Go.RowKit.intOf]; omega
            · have hkK2 : K - k = 0 := by omega
              have HG2 := Lib.hid (show getN K tb.data.toList = some (dl, cur.data.toList) by
                rw [HG.out, hkK2]; simp [getN])
              have hyK : y = i + K := by omega
              have hnI3 : nI ≤ i + 8 := by
                rw [← HNI.out, List.length_append, List.length_drop, List.length_take]; omega
              by_cases hcn : cur.data.toList = []
              · have hc0 : cur = ⟨#[]⟩ := Crc.bytes_same hcn
                subst hc0
                have HE3 := Lib.hid (show T = (pageL N A z f (i + 8) rb.data.toList).map fun q => (out ++ (dl.take (z - i)).drop (A - i)) ++ q by
                  rw [HE2.out, HG2.out]
                  unfold joinP
                  simp only [ne_eq, not_true_eq_false, if_false]
                  cases pageL N A z f (i + 8) rb.data.toList with
                  | none => rfl
                  | some q => simp)
                by_cases h1 : k < 8
                · have y1 : (y : Int) < (i : Int) + 8 := by omega
                  have y2 : (N : Int) ≤ y := by have := HKK.out; omega
                  clear hy hyK hkk hkK2 HG
                  go_wp2
                  go_roundw
                  case rel => exact ⟨i + 8, f, rb, _, us, by go_num, by omega, by omega, rfl, hrs2, by rw [HNI.out]; exact hnI3, HE3, HO3, HB3⟩
                  case measure => simp [Go.RowKit.intOf]; omega
                · have y1 : (i : Int) + 8 ≤ y := by omega
                  clear hy hyK hkk hkK2 HG
                  go_wp2
                  go_roundw
                  case rel => exact ⟨i + 8, f, rb, _, us, by go_num, by omega, by omega, rfl, hrs2, by rw [HNI.out]; exact hnI3, HE3, HO3, HB3⟩
                  case measure => simp [Go.RowKit.intOf]; omega
              · have hne : cur.toList.isEmpty = false := by
                  cases h : cur.toList.isEmpty with
                  | false => rfl
                  | true =>
                    have h2 := List.isEmpty_iff.1 h
                    rw [ByteArray.toList_eq] at h2
                    exact absurd h2 hcn
                have HX := Lib.hid (show P = (10, []) by
                  rw [← HP.out, HE2.out, HG2.out]
                  unfold joinP
                  simp only [ne_eq, hcn, not_false_eq_true, if_true, Option.map_none])
                by_cases h1 : k < 8
                · have y1 : (y : Int) < (i : Int) + 8 := by omega
                  have y2 : (N : Int) ≤ y := by have := HKK.out; omega
                  clear hy hyK hkk hkK2 HG hcn
                  go_wp2
                  go_ret2
                  rw [HX.out]
                  exact ⟨PagR.err 10 _, HB3.out⟩
                · have y1 : (i : Int) + 8 ≤ y := by omega
                  clear hy hyK hkk hkK2 HG hcn
                  go_wp2
                  go_ret2
                  rw [HX.out]
                  exact ⟨PagR.err 10 _, HB3.out⟩
      · have HX := Lib.hid (show P = (0, out) by
          rw [← HP.out, HE.out, pageL, if_neg hcc]
          simp only [Option.map_some, List.append_nil])
        clear HE
        by_cases h1 : i < z
        · have k1 : (i : Int) < z := by omega
          have k2 : (z : Int) ≤ A := by omega
          clear hcc h1
          go_wp2
          go_ret2
          rw [HX.out]
          exact ⟨pagR_own HO.out HNO.out, HB.out⟩
        · have k1 : (z : Int) ≤ i := by omega
          clear hcc h1
          go_wp2
          go_ret2
          rw [HX.out]
          exact ⟨pagR_own HO.out HNO.out, HB.out⟩
  · rw [if_neg hlt] at hP
    have hlt2 : (N : Int) - A ≤ n := by omega
    clear hc hlt
    obtain ⟨T, hT⟩ : ∃ T, pageL N A N (N + 1) 0 r0 = T := ⟨_, rfl⟩
    rw [hT] at hP
    have HT := Lib.hid hT
    have HRD := Lib.hid hrd0
    have HP := Lib.hid hP
    clear hT hP hC hrb0 hrd0 hb hr0
    go_enter Try.func10, Try.ntmps10
    go_wp2_with fail
    refine HCo.out.mono ?_
    rintro e w1 ⟨rfl, b1⟩
    have HB1 := Lib.hid b1
    clear b1
    go_wp2
    go_loopw [9, 12, 13, 14, 15, 16, 17, 18, 19, 20] (fun v9 v12 v13 _ _ _ _ _ _ _ wr => ∃ (i f : Nat) (rest : ByteArray) (out : List Rw) (us : List (List Value)), v13 = .int .i64 (i : Int) ∧ i ≤ N + 7 ∧ N - i < f ∧ v9 = .string rest ∧ rest.size ≤ 1000000 ∧ out.length ≤ i ∧ Hid (T = (pageL N A N f i rest.data.toList).map fun q => out ++ q) ∧ Hid (OwnR wr w.heap.size v12 us out) ∧ Hid (Below w.heap.size w wr)) (fun _ _ v13 _ _ _ _ _ _ _ _ => N + 8 - (Go.RowKit.intOf v13).toNat)
    case atStart => exact ⟨0, N + 1, rb0, [], [], rfl, by omega, by omega, rfl, hrs0, Nat.le_refl _, (show _ = _ by rw [HRD.out, HT.out]; cases T <;> rfl), OwnG.nil _ _, HB1⟩
    case round =>
      obtain ⟨i, f, rest, out, us, rfl, hi7, hf, rfl, hrs, hol, HE, HO, HB⟩ := hrel
      obtain ⟨oO, cO, rfl, hSO, _⟩ := HO.out.sees frow
      obtain ⟨nO, hnO⟩ : ∃ nO, out.length = nO := ⟨_, rfl⟩
      rw [hnO] at HO ⊢
      have HNO := Lib.hid hnO
      have hzr := HB.out.size
      obtain ⟨f, rfl⟩ : ∃ g, f = g + 1 := ⟨f - 1, by omega⟩
      clear hSO
      by_cases hcc : i < N ∧ A < N
      · obtain ⟨hiz, hAz⟩ := hcc
        have k1 : (i : Int) < N := by omega
        have k2 : (A : Int) < N := by omega
        have HTk := Lib.hid (dtake_is rest wr (by omega))
        obtain ⟨l, hl⟩ : ∃ l, rest.data.toList = l := ⟨_, rfl⟩
        rw [hl] at HE
        by_cases h0 : (takeF l).1 = 0
        case neg =>
          obtain ⟨q, hq⟩ : ∃ q, (takeF l).1 = q := ⟨_, rfl⟩
          have h2 := take_none h0
          have hV : takeV rest = .tuple #[.string ⟨#[]⟩, .string ⟨#[]⟩, .int .i64 q] := by unfold takeV; rw [hl, hq, h2.1, h2.2]
          rw [hV] at HTk
          have HX := Lib.hid (show P = (10, []) by
            rw [← HP.out, HE.out, pageL, if_pos ⟨hiz, hAz⟩, if_pos h0]; rfl)
          rw [hq] at h0
          have k3 : ¬ (q : Int) = 0 := by omega
          clear hV h2 hq h0 hl HE
          go_wp2_with fail
          refine HTk.out.mono ?_
          rintro e w2 ⟨rfl, dn, rfl⟩
          have HB2 := Lib.hid (HB.out.trans ((drewN_low wr dn).mono hzr))
          go_wp2
          go_ret2
          rw [HX.out]
          exact ⟨PagR.err 10 _, HB2.out⟩
        case pos =>
        obtain ⟨tb, htb⟩ : ∃ tb : ByteArray, ⟨(takeF l).2.1.toArray⟩ = tb := ⟨_, rfl⟩
        obtain ⟨rb, hrb⟩ : ∃ rb : ByteArray, ⟨(takeF l).2.2.toArray⟩ = rb := ⟨_, rfl⟩
        have htd : (takeF l).2.1 = tb.data.toList := by rw [← htb, Crc.str_data]
        have hrd : (takeF l).2.2 = rb.data.toList := by rw [← hrb, Crc.str_data]
        have hV : takeV rest = .tuple #[.string tb, .string rb, .int .i64 0] := by unfold takeV; rw [hl, h0, htb, hrb]; rfl
        rw [hV] at HTk
        have hrs2 : rb.size ≤ 1000000 := by
          have := take_less h0
          rw [Lib.size_eq, ← hrd]; rw [← hl, ← Lib.size_eq] at this; rw [← hl]; omega
        have hts : tb.size ≤ 12000 := by rw [Lib.size_eq, ← htd]; exact (take_inv (take_three h0)).2
        by_cases h8 : i + 8 ≤ A
        · have HE2 := Lib.hid (show T = (pageL N A N f (i + 8) rb.data.toList).map fun q => out ++ q by
            rw [HE.out, pageL, if_pos ⟨hiz, hAz⟩, if_neg (fun e => e h0), if_pos h8, hrd])
          have k3 : (i : Int) + 8 ≤ A := by omega
          clear hV htb hrb htd hrd h0 hl HE
          go_wp2_with fail
          refine HTk.out.mono ?_
          rintro e w2 ⟨rfl, dn, rfl⟩
          have HB2 := Lib.hid (HB.out.trans ((drewN_low wr dn).mono hzr))
          have HO2 := Lib.hid (HO.out.below frow (drewN_low wr dn))
          go_wp2
          go_roundw
          case rel => exact ⟨i + 8, f, rb, out, us, by go_num, by omega, by omega, rfl, hrs2, by omega, HE2, HO2, HB2⟩
          case measure => simp [Go.RowKit.intOf]; omega
        · obtain ⟨K, hK⟩ : ∃ K, min 8 (N - i) = K := ⟨_, rfl⟩
          have HE2 := Lib.hid (show T = (joinP i A N (getN K tb.data.toList) (pageL N A N f (i + 8) rb.data.toList)).map fun q => out ++ q by
            rw [HE.out, page_step ⟨hiz, hAz⟩ h0 h8, htd, hrd, hK])
          have k3 : (A : Int) < (i : Int) + 8 := by omega
          have hK1 : 1 ≤ K := by omega
          have hK8 : K ≤ 8 := by omega
          have hKN : i + K ≤ N := by omega
          have HKK := Lib.hid hK
          clear hV htb hrb htd hrd h0 hl HE hK
          go_wp2_with fail
          refine HTk.out.mono ?_
          rintro e w2 ⟨rfl, dn, rfl⟩
          have HB2 := Lib.hid (HB.out.trans ((drewN_low wr dn).mono hzr))
          have HO2 := Lib.hid (HO.out.below frow (drewN_low wr dn))
          go_wp2
          go_loopw [12, 14, 17, 18, 19, 20] (fun v12 v14 v17 _ _ _ wr2 => ∃ (k : Nat) (cur : ByteArray) (dn : List Rw) (us : List (List Value)), v17 = .int .i64 ((i + k : Nat) : Int) ∧ k ≤ K ∧ v14 = .string cur ∧ cur.size ≤ 12000 ∧ dn.length = k ∧ Hid (getN K tb.data.toList = (getN (K - k) cur.data.toList).map fun q => (dn ++ q.1, q.2)) ∧ Hid (OwnR wr2 w.heap.size v12 us (out ++ (dn.take (N - i)).drop (A - i))) ∧ Hid (Below w.heap.size w wr2)) (fun _ _ v17 _ _ _ _ => N - (Go.RowKit.intOf v17).toNat)
          case atStart => exact ⟨0, tb, [], us, rfl, Nat.zero_le _, rfl, hts, rfl, (show _ = _ by rw [Nat.sub_zero]; cases getN K tb.data.toList <;> rfl), (show OwnR _ _ _ _ _ by rw [List.take_nil, List.drop_nil, List.append_nil]; exact HO2.out), HB2⟩
          case round =>
            clear HB2 HO2 HTk
            obtain ⟨k, cur, dl, us, rfl, hkK, rfl, hcs, hdl, HG, HO3, HB3⟩ := hrel
            obtain ⟨y, hy⟩ : ∃ y, i + k = y := ⟨_, rfl⟩
            rw [hy]
            obtain ⟨oI, cI, rfl, hSI, _⟩ := HO3.out.sees frow
            obtain ⟨nI, hnI⟩ : ∃ nI, (out ++ (dl.take (N - i)).drop (A - i)).length = nI := ⟨_, rfl⟩
            have hnI2 : nI ≤ 2100 := by
              rw [← hnI, List.length_append, List.length_drop, List.length_take]; omega
            rw [hnI] at HO3 ⊢
            have HNI := Lib.hid hnI
            have hz3 := HB3.out.size
            clear hSI hnI
            by_cases hkk : k < K
            · have y1 : (y : Int) < (i : Int) + 8 := by omega
              have y2 : (y : Int) < N := by omega
              have HGt := Lib.hid (fun (W : World) => dget_any cur W (by omega))
              cases hg : getR cur.data.toList with
              | none =>
                have HX := Lib.hid (show P = (10, []) by
                  rw [← HP.out, HE2.out, HG.out, show K - k = (K - k - 1) + 1 by omega, getN, hg]; rfl)
                have HG2 := Lib.hid (fun (W : World) => (show Calls Try.prog 24 #[.string cur] W fun e w' => e = .returned (.tuple #[.agg #[.slice none 0 0, .int .i64 0], .string ⟨#[]⟩, .bool false]) ∧ Below W.heap.size W w' from (HGt.out W).mono fun e w' ⟨h1, h2⟩ => ⟨by unfold DGot at h1; rw [hg] at h1; exact h1, h2⟩))
                clear HGt hg HG
                go_wp2_with fail
                refine (HG2.out _).mono ?_
                rintro e w5 ⟨rfl, b5⟩
                have HB5 := Lib.hid (HB3.out.trans (b5.mono hz3))
                have HB6 := Lib.hid (HB5.out.alloc HB5.out.size (Obj.cells #[Value.slice none 0 0, Value.int .i64 0] 40))
                clear b5 HG2
                go_wp2
                go_ret2
                rw [HX.out]
                exact ⟨PagR.err 10 _, HB6.out⟩
              | some p =>
                obtain ⟨hpl, hp8⟩ := getR_len hg
                obtain ⟨xs, v, r⟩ := p
                simp only [] at hpl hp8
                obtain ⟨nL, hnL⟩ : ∃ nL, xs.length = nL := ⟨_, rfl⟩
                have hn8 : nL ≤ 8 := by omega
                obtain ⟨u, hu⟩ : ∃ u : ByteArray, ⟨r.toArray⟩ = u := ⟨_, rfl⟩
                have hud : u.data.toList = r := by rw [← hu, Crc.str_data]
                have hus : u.size ≤ 12000 := by rw [← Lib.size_eq] at hpl; rw [Lib.size_eq, hud]; omega
                have HG2 := Lib.hid (fun (W : World) => (show Calls Try.prog 24 #[.string cur] W fun e w' => (∃ o c, e = .returned (.tuple #[.agg #[.slice o nL c, .int .i64 v], .string u, .bool true]) ∧ w'.ownsRow W.heap.size 79 2 (.slice o nL c) nL (flatL xs)) ∧ Below W.heap.size W w' from (HGt.out W).mono fun e w' ⟨h1, h2⟩ => ⟨by unfold DGot at h1; rw [hg] at h1; simp only [hnL, hu] at h1; exact h1, h2⟩))
                have HG3 := Lib.hid (show getN K tb.data.toList = (getN (K - (k + 1)) u.data.toList).map fun q => ((dl ++ [(xs, v)]) ++ q.1, q.2) by
                  rw [HG.out, show K - k = (K - (k + 1)) + 1 by omega, getN, hg, hud]
                  simp only []
                  cases getN (K - (k + 1)) r with
                  | none => rfl
                  | some q => simp)
                have HNL := Lib.hid hnL
                have HDL := Lib.hid hdl
                have HY := Lib.hid hy
                have hk1 : k + 1 ≤ K := by omega
                clear HGt hg HG hnL hu hud hpl
                by_cases hap : A ≤ y ∧ y < N
                · have y3 : (A : Int) ≤ y := by omega
                  have y4 : (y : Int) < N := by omega
                  have HSG := Lib.hid (show (out ++ (dl.take (N - i)).drop (A - i)) ++ [(xs, v)] = out ++ ((dl ++ [(xs, v)]).take (N - i)).drop (A - i) by
                    rw [seg_in dl (xs, v) (A - i) (N - i) (by omega) (by omega), List.append_assoc])
                  obtain ⟨nU, hnU⟩ : ∃ nU, us.length = nU := ⟨_, rfl⟩
                  have hnk : nU = nI := by rw [← hnU, HO3.out.len, HNI.out]
                  clear hap hdl hy
                  go_wp2_with fail
                  refine (HG2.out _).mono ?_
                  rintro e w5 ⟨⟨oL, cL, rfl, hOL⟩, b5⟩
                  have hB5 := HB3.out.trans (b5.mono hz3)
                  have hz5 := hB5.size
                  have hO5 := HO3.out.below frow b5
                  have hX1 := (Below.refl w5.heap.size w5).alloc (Nat.le_refl _) (Obj.cells #[Value.slice oL nL cL, Value.int .i64 v] 40)
                  have hX2 := hX1.alloc hX1.size (Obj.cells #[Value.slice oL nL cL, Value.int .i64 v] 40)
                  have HB7 := Lib.hid (hB5.trans (hX2.mono hz5))
                  have HO7 := Lib.hid (hO5.below frow hX2)
                  have HLb := Lib.hid (own_grown hOL hX2)
                  have hlim : us.length ≤ 2100 := by rw [hnU]; omega
                  have HO8 := Lib.hid (show ((w5.alloc (Obj.cells #[Value.slice oL nL cL, Value.int .i64 v] 40)).alloc (Obj.cells #[Value.slice oL nL cL, Value.int .i64 v] 40)).ownsRow w.heap.size 40 2 (.slice oI nI cI) us.length us.flatten from HO7.out.own)
                  clear hO5 hOL b5 hB5 hX1 hX2 HG2 hnk
                  go_wp2_with (at_builtin; go_must (refine wpList_append_own _ rfl _ _ 23 rfl w.heap.size 40 i0 (.agg #[.slice none 0 0, .int .i64 0]) 2 32 Try.underlying23 hi hz0 hz1 hz2 rfl (by decide) _ _ _ rfl HO8.out ⟨w5.heap.size + 1, 0, none⟩ 1 1 [.slice oL nL cL, .int .i64 v] rfl rfl (cells_k2 w5 _ _ _) (by intro v hv; simp at hv; rcases hv with rfl | rfl <;> rfl) (by unfold maxLen; omega) (by omega) (by simp; omega) ?_); intro v' w8 hown' hgrow8 hnil8)
                  have HB8 := Lib.hid (Below.grown HB7.out hgrow8 (by
                    rw [show ((w5.alloc (Obj.cells #[Value.slice oL nL cL, Value.int .i64 v] 40)).alloc (Obj.cells #[Value.slice oL nL cL, Value.int .i64 v] 40)).heap.size = w5.heap.size + 1 + 1 from (Array.size_push _).trans (by rw [show (w5.alloc (Obj.cells #[Value.slice oL nL cL, Value.int .i64 v] 40)).heap.size = w5.heap.size + 1 from Array.size_push _])]
                    omega) (fun j hj => (HO7.out.own.lt j hj).1))
                  have HO9 := Lib.hid (show OwnR w8 w.heap.size v' (us ++ [[.slice oL nL cL, .int .i64 v]]) (out ++ ((dl ++ [(xs, v)]).take (N - i)).drop (A - i)) from by
                    rw [← HSG.out]
                    exact OwnG.snoc frow (Nat.zero_le _) HO7.out ⟨oL, cL, by rw [HNL.out], labS_own HLb.out HNL.out, by rw [HNL.out]; unfold maxLen; omega⟩ hown' hgrow8)
                  clear hown' hgrow8 hnil8 HO7 HB7 HLb HO8
                  go_wp2
                  go_roundw
                  case rel => exact ⟨k + 1, u, dl ++ [(xs, v)], _, by rw [← HY.out]; go_num, hk1, rfl, hus, by rw [List.length_append, HDL.out]; rfl, HG3, HO9, HB8⟩
                  case measure => have := HY.out; simp [Go.RowKit.intOf]; omega
                · have HSG := Lib.hid (show (out ++ (dl.take (N - i)).drop (A - i)) = out ++ ((dl ++ [(xs, v)]).take (N - i)).drop (A - i) by
                    by_cases hA : y < A
                    · rw [seg_ahead dl (xs, v) (A - i) (N - i) (by omega)]
                    · rw [seg_out dl (xs, v) (A - i) (N - i) (by omega)])
                  by_cases hA : y < A
                  · have y3 : (y : Int) < A := by omega
                    clear hap hdl hy hA
                    go_wp2_with fail
                    refine (HG2.out _).mono ?_
                    rintro e w5 ⟨⟨oL, cL, rfl, hOL⟩, b5⟩
                    have hB5 := HB3.out.trans (b5.mono hz3)
                    have hX1 := (Below.refl w5.heap.size w5).alloc (Nat.le_refl _) (Obj.cells #[Value.slice oL nL cL, Value.int .i64 v] 40)
                    have HB7 := Lib.hid (hB5.trans (hX1.mono hB5.size))
                    have HO7 := Lib.hid ((HO3.out.below frow b5).below frow hX1)
                    rw [HSG.out] at HO7
                    clear hOL b5 hB5 hX1 HG2
                    go_wp2
                    go_roundw
                    case rel => exact ⟨k + 1, u, dl ++ [(xs, v)], _, by rw [← HY.out]; go_num, hk1, rfl, hus, by rw [List.length_append, HDL.out]; rfl, HG3, HO7, HB7⟩
                    case measure => have := HY.out; simp [Go.RowKit.intOf]; omega
                  · exact absurd y2 (by omega)
            · have hkK2 : K - k = 0 := by omega
              have HG2 := Lib.hid (show getN K tb.data.toList = some (dl, cur.data.toList) by
                rw [HG.out, hkK2]; simp [getN])
              have hyK : y = i + K := by omega
              have hnI3 : nI ≤ i + 8 := by
                rw [← HNI.out, List.length_append, List.length_drop, List.length_take]; omega
              by_cases hcn : cur.data.toList = []
              · have hc0 : cur = ⟨#[]⟩ := Crc.bytes_same hcn
                subst hc0
                have HE3 := Lib.hid (show T = (pageL N A N f (i + 8) rb.data.toList).map fun q => (out ++ (dl.take (N - i)).drop (A - i)) ++ q by
                  rw [HE2.out, HG2.out]
                  unfold joinP
                  simp only [ne_eq, not_true_eq_false, if_false]
                  cases pageL N A N f (i + 8) rb.data.toList with
                  | none => rfl
                  | some q => simp)
                by_cases h1 : k < 8
                · have y1 : (y : Int) < (i : Int) + 8 := by omega
                  have y2 : (N : Int) ≤ y := by have := HKK.out; omega
                  clear hy hyK hkk hkK2 HG
                  go_wp2
                  go_roundw
                  case rel => exact ⟨i + 8, f, rb, _, us, by go_num, by omega, by omega, rfl, hrs2, by rw [HNI.out]; exact hnI3, HE3, HO3, HB3⟩
                  case measure => simp [Go.RowKit.intOf]; omega
                · have y1 : (i : Int) + 8 ≤ y := by omega
                  clear hy hyK hkk hkK2 HG
                  go_wp2
                  go_roundw
                  case rel => exact ⟨i + 8, f, rb, _, us, by go_num, by omega, by omega, rfl, hrs2, by rw [HNI.out]; exact hnI3, HE3, HO3, HB3⟩
                  case measure => simp [Go.RowKit.intOf]; omega
              · have hne : cur.toList.isEmpty = false := by
                  cases h : cur.toList.isEmpty with
                  | false => rfl
                  | true =>
                    have h2 := List.isEmpty_iff.1 h
                    rw [ByteArray.toList_eq] at h2
                    exact absurd h2 hcn
                have HX := Lib.hid (show P = (10, []) by
                  rw [← HP.out, HE2.out, HG2.out]
                  unfold joinP
                  simp only [ne_eq, hcn, not_false_eq_true, if_true, Option.map_none])
                by_cases h1 : k < 8
                · have y1 : (y : Int) < (i : Int) + 8 := by omega
                  have y2 : (N : Int) ≤ y := by have := HKK.out; omega
                  clear hy hyK hkk hkK2 HG hcn
                  go_wp2
                  go_ret2
                  rw [HX.out]
                  exact ⟨PagR.err 10 _, HB3.out⟩
                · have y1 : (i : Int) + 8 ≤ y := by omega
                  clear hy hyK hkk hkK2 HG hcn
                  go_wp2
                  go_ret2
                  rw [HX.out]
                  exact ⟨PagR.err 10 _, HB3.out⟩
      · have HX := Lib.hid (show P = (0, out) by
          rw [← HP.out, HE.out, pageL, if_neg hcc]
          simp only [Option.map_some, List.append_nil])
        clear HE
        by_cases h1 : i < N
        · have k1 : (i : Int) < N := by omega
          have k2 : (N : Int) ≤ A := by omega
          clear hcc h1
          go_wp2
          go_ret2
          rw [HX.out]
          exact ⟨pagR_own HO.out HNO.out, HB.out⟩
        · have k1 : (N : Int) ≤ i := by omega
          clear hcc h1
          go_wp2
          go_ret2
          rw [HX.out]
          exact ⟨pagR_own HO.out HNO.out, HB.out⟩
end Go.Proofs.Ytldlfmeppcdbbaa.Run
