/- Groups: the walk of the statement on all names, and none. -/
import Derived.Test.YtbdnonphkobkoaaGreatGse2
namespace Go.Proofs.YtbdnonphkobkoaaGreat.Grp
open Go.RowKit Go.Lib Go.Sort Vec Fix

set_option maxHeartbeats 16000000 in
set_option maxRecDepth 100000 in
theorem alls_any (o : Option Addr) (n c : Nat) (xs : List Rw) (w : World) (hn : xs.length = n) (hS : RowsS w w.heap.size o xs) :
    Calls Tryz.prog 6 #[.slice o n c] w fun e w' => e = .returned (.bool true) ∧ Below w.heap.size w w' := by
  obtain ⟨i0, hi, hz0, hz1, hz2⟩ := info_parts infoStr
  have HAl := Lib.hid (fun W => alive_any W)
  have HLt := Lib.hid (lightR_any o n c xs w _ hn hS)
  cases hl : lightR xs with
  | false =>
    rw [hl] at HLt
    clear hl hS
    go_enter Tryz.func6, Tryz.ntmps6
    go_wp2_with fail
    refine HLt.out.mono ?_
    rintro e w1 ⟨rfl, b1⟩
    go_wp2_with fail
    refine (HAl.out _).mono ?_
    rintro e w2 ⟨rfl, b2⟩
    go_wp2
    go_ret
    exact ⟨rfl, b1.trans (b2.mono b1.size)⟩
  | true =>
  obtain ⟨h60, hsm⟩ := lightR_mk hl
  rw [hl] at HLt
  have har := vecT_right xs
  have hal : (vecT xs).length ≤ 60 := Nat.le_trans (vecT_len xs) h60
  have HTa := Lib.hid (fun W (hb : Below w.heap.size w W) => ltidy_any o n c xs W _ hn (by omega) hsm (hS.below frow hb))
  obtain ⟨a, ha⟩ : ∃ a, vecT xs = a := ⟨_, rfl⟩
  rw [ha] at har hal HTa
  obtain ⟨na, hna⟩ : ∃ na, a.length = na := ⟨_, rfl⟩
  have hna60 : na ≤ 60 := by rw [← hna]; exact hal
  have HNA := Lib.hid hna
  have HSm := Lib.hid (fun (x : Rw) (hx : x ∈ a) => (show x.1.length ≤ 1000 from by have := (small_right har x hx).1; omega))
  have HV := Lib.hid (vals_all (ns := namesR a) (fun x hx => by_all (in_names hx)) (right_fit har).2.2)
  obtain ⟨one, hone⟩ : ∃ l, valsOf (4, 0) (splitR 0 [] a) = l := ⟨_, rfl⟩
  obtain ⟨m1, hm1⟩ : ∃ m, one.length = m := ⟨_, rfl⟩
  have HO1 := Lib.hid (show one = if a = [] then [] else [([], (a.length : Int))] from by rw [← hone]; exact vals_one a)
  have HM1 := Lib.hid hm1
  have HD1 := Lib.hid (fun (W : World) o c (s : RowsS W 0 o a) => vals_gen ⟨#[99, 111, 117, 110, 116]⟩ 0 0 none o 0 0 na c [] a W (4, 0) (agg_count 0) (by decide) (fun g _ => num_plain (.inr (.inr (.inl rfl))) _) rfl hna har (by decide) (by omega) s (seesNil _) one hone m1 hm1)
  have HD2 := Lib.hid (fun (W : World) o c on nn cn (hnn : (namesR a).length = nn) (h : nn ≤ 60000) (s : RowsS W 0 o a) (hN : SeesN W on (namesR a)) => vals_gen ⟨#[109, 97, 120]⟩ 0 1 on o nn cn na c (namesR a) a W (3, 0) (agg_max 0) (by decide) (fun g _ => num_plain (.inr (.inl rfl)) _) hnn hna har (by unfold maxLen; omega) (by omega) s hN a HV.out na hna)
  have HD3 := Lib.hid (fun (W : World) => vals_gen ⟨#[115, 117, 109]⟩ 0 0 none none 0 0 0 0 [] [] W (0, 0) (agg_sum0 0) (by decide) (fun g hg => by rw [split_nil] at hg; cases hg) rfl rfl rfl (by decide) (by decide) (.inl rfl) (seesNil _) [] (vals_nil _ _ _) 0 rfl)
  have HSame := Lib.hid (fun (W : World) o1 o2 c1 c2 (s1 : RowsS W 0 o1 a) (s2 : RowsS W 0 o2 a) => (show Calls Tryz.prog 20 #[.slice o1 na c1, .slice o2 na c2] W fun e w' => e = .returned (.bool true) ∧ Below W.heap.size W w' from by
    subst hna
    have := sameRows_any o1 o2 c1 c2 a a W (by unfold maxLen; omega) (by unfold maxLen; omega) 0 s1 s2
    rw [sameR_refl] at this; exact this))
  clear hl hS har hal ha hna hsm hone hm1 HV
  go_enter Tryz.func6, Tryz.ntmps6
  go_wp2_with fail
  refine HLt.out.mono ?_
  rintro e w1 ⟨rfl, b1⟩
  go_wp2_with fail
  refine (HAl.out _).mono ?_
  rintro e w2 ⟨rfl, b2⟩
  have b12 := b1.trans (b2.mono b1.size)
  clear b1 b2
  go_wp2_with fail
  refine (HTa.out _ b12).mono ?_
  rintro e w3 ⟨⟨va, usa, rfl, hoa⟩, b3⟩
  obtain ⟨oA, cA, rfl, hsA, _⟩ := hoa.sees frow
  rw [HNA.out]
  have HB3 := Lib.hid (b12.trans (b3.mono b12.size))
  have HSA := Lib.hid hsA
  clear b12 b3 hoa hsA HLt HAl HTa
  go_wp2_with fail
  go_loopw [4, 5] (fun v4 v5 wr => ∃ (i : Nat) (ns : List ByteArray), v5 = .int .i64 i ∧ i ≤ na ∧ ns.length ≤ 1000 * i ∧ Hid (ns = namesR (a.take i)) ∧ wr.ownsRow w3.heap.size 9 1 v4 ns.length (ns.map .string) ∧ Hid (Below w3.heap.size w3 wr)) (fun _ v5 _ => na - (intOf v5).toNat)
  case atStart => exact ⟨0, [], rfl, Nat.zero_le _, Nat.zero_le _, rfl, World.ownsRow_nil _ _ _ _, Below.refl _ _⟩
  case round =>
    obtain ⟨i, ns, rfl, hin, hnl, HY, hown, HB⟩ := hrel
    by_cases hkn : i < na
    · have j1 : (i : Int) < na := by omega
      obtain ⟨x', hx'⟩ := get_ltG HNA.out hkn
      obtain ⟨b1, off1, rfl, hR1⟩ := (HSA.out.below frow HB.out).at hx'
      have hm0 := HSm.out x' (List.mem_of_getElem? hx')
      obtain ⟨m, hm⟩ : ∃ m, x'.1.length = m := ⟨_, rfl⟩
      rw [hm] at hm0
      have HX := Lib.hid hx'
      have HM := Lib.hid hm
      have HO := Lib.hid hown
      clear hR1 hm hx' hown
      go_wp2_with fail
      go_loopw [4, 6] (fun v4 v6 wr => ∃ (k : Nat) (ms : List ByteArray), v6 = .int .i64 k ∧ k ≤ m ∧ ms.length ≤ 1000 * i + k ∧ Hid (ms = namesR (a.take i) ++ (x'.1.take k).map (·.1)) ∧ wr.ownsRow w3.heap.size 9 1 v4 ms.length (ms.map .string) ∧ Hid (Below w3.heap.size w3 wr)) (fun _ v6 _ => m - (intOf v6).toNat)
      case atStart => exact ⟨0, ns, rfl, Nat.zero_le _, hnl, Lib.hid (show ns = namesR (a.take i) ++ (x'.1.take 0).map (·.1) from by rw [HY.out]; simp), HO.out, HB⟩
      case round =>
        clear HY HO HB
        obtain ⟨k, ms, rfl, hk, hml, HY, hown, HB⟩ := hrel
        have hzw := HB.out.size
        obtain ⟨b2, off2, e2, hR2⟩ := (HSA.out.below frow HB.out).at HX.out
        cases e2
        obtain ⟨o1, c1, c0, _, hL, _⟩ := row_at hR2 HX.out
        rw [HM.out] at c0
        by_cases hkm : k < m
        · have j2 : (k : Int) < m := by omega
          obtain ⟨y', hy'⟩ := get_ltG HM.out hkm
          obtain ⟨bl, ol, rfl, hSl⟩ := hL.sees.at hy'
          have l0 := hSl.at0 k y' hy'
          have H2 := Lib.hid (show ms ++ [y'.1] = namesR (a.take i) ++ (x'.1.take (k + 1)).map (·.1) from by rw [HY.out, take_atG hy']; simp)
          have HO := Lib.hid hown
          clear hR2 hL hSl hy' hown HY
          go_wp2_with (at_builtin; go_must (refine wpList_append_own _ rfl _ _ 23 rfl w3.heap.size 9 i0 (.string ⟨#[]⟩) 1 16 Tryz.underlying23 hi hz0 hz1 hz2 rfl (by decide) _ _ _ rfl (HO.out.alloc _) ⟨wr.heap.size, 0, none⟩ 1 1 [.string y'.1] rfl rfl (cells_1 _ _ _) (one_1 _) (by unfold maxLen; omega) (by omega) (by simp; omega) ?_); intro v' w4 hown' hgrow hnil)
          have hB4 : Below w3.heap.size w3 w4 := Below.grown (HB.out.alloc (by omega) _) hgrow (by simp; omega) (fun j hj => by have := (HO.out.lt _ hj).1; omega)
          have hO4 : w4.ownsRow w3.heap.size 9 1 v' (ms ++ [y'.1]).length ((ms ++ [y'.1]).map .string) := by
            rw [List.length_append, List.map_append]; exact hown'
          have HB4 := Lib.hid hB4
          clear hown' hgrow hnil hB4
          go_roundw
          case rel => exact ⟨k + 1, ms ++ [y'.1], by go_num, by omega, by simp; omega, H2, hO4, HB4⟩
          case measure => simp [intOf]; omega
        · have j2 : ¬ (k : Int) < m := by omega
          have H2 := Lib.hid (show ms = namesR (a.take (i + 1)) from by
            rw [HY.out, names_snoc HX.out, List.take_of_length_le (l := x'.1) (by rw [HM.out]; omega)])
          have HO := Lib.hid hown
          clear hR2 hL hown HY
          go_wp2
          go_roundw
          case rel => exact ⟨i + 1, ms, by go_num, by omega, by omega, H2, HO.out, HB⟩
          case measure => simp [intOf]; omega
    have j1 : ¬ (i : Int) < na := by omega
    have hns : ns = namesR a := by rw [HY.out, List.take_of_length_le (by rw [HNA.out]; omega)]
    obtain ⟨oN, cN, rfl, hN⟩ := own_names hown
    have HN := Lib.hid hN
    obtain ⟨nn, hnn⟩ : ∃ nn, ns.length = nn := ⟨_, rfl⟩
    have hnn6 : nn ≤ 60000 := by omega
    rw [hnn]
    have HNN := Lib.hid (show (namesR a).length = nn from by rw [← hns]; exact hnn)
    have HN2 := Lib.hid (show SeesN wr oN (namesR a) from by rw [← hns]; exact HN.out)
    have HSA1 := Lib.hid (HSA.out.below frow HB.out)
    clear hown hN hns HN hnl HY hnn
    go_wp2_with fail
    refine (HD1.out _ oA cA HSA1.out).mono ?_
    rintro e w4 ⟨⟨oX, cX, rfl, hsX⟩, b4⟩
    have HSA2 := Lib.hid (HSA1.out.below frow b4)
    have HN4 := Lib.hid (HN2.out.below b4)
    have HX4 := Lib.hid hsX
    have HB4 := Lib.hid (HB.out.trans (b4.mono HB.out.size))
    clear hsX b4 HSA1 HN2 HB HD1
    go_wp2_with fail
    refine (HD2.out _ oA cA oN nn cN HNN.out hnn6 HSA2.out HN4.out).mono ?_
    rintro e w5 ⟨⟨oM, cM, rfl, hsM⟩, b5⟩
    have HSA3 := Lib.hid (HSA2.out.below frow b5)
    have HX5 := Lib.hid (HX4.out.below frow b5)
    have HM5 := Lib.hid hsM
    have HB5 := Lib.hid (HB4.out.trans (b5.mono HB4.out.size))
    clear hsM b5 HSA2 HN4 HB4 HX4 HD2
    go_wp2_with fail
    refine (HD3.out _).mono ?_
    rintro e w6 ⟨⟨oZ, cZ, rfl, hsZ⟩, b6⟩
    have HX6 := Lib.hid (HX5.out.below frow b6)
    have HB6 := Lib.hid (HB3.out.trans ((HB5.out.trans (b6.mono HB5.out.size)).mono HB3.out.size))
    have HS6 := Lib.hid (HSame.out w6 oM oA cM cA (HM5.out.below frow b6) (HSA3.out.below frow b6))
    clear hsZ b6 HSA3 HB5 HX5 HM5 HD3 HSame
    obtain ⟨mv, hmv⟩ : ∃ mv : Int, (if (1 : Int) < na then (1 : Int) else na) = mv := ⟨_, rfl⟩
    have mn : ∀ (W : World) (ts : Array TypeId) (t : TypeId), (Builtin.min_ ts t #[.int .i64 (na : Int), .int .i64 1]).run Tryz.prog W = .ok (.int .i64 mv) W := fun W ts t => by rw [run_min_int2, hmv]
    by_cases hz : na = 0
    · have e1 : a = [] := List.eq_nil_of_length_eq_zero (by rw [HNA.out]; exact hz)
      have e2 : m1 = 0 := by rw [← HM1.out, HO1.out, if_pos e1]; rfl
      have t1 : ((m1 : Int) == mv) = true := by rw [beq_iff_eq, ← hmv, if_neg (by omega)]; omega
      have t2 : ((m1 : Int) == 0) = true := by rw [beq_iff_eq]; omega
      clear hmv e1 t1 t2
      subst hz
      subst e2
      have t1 : min (0 : Int) 1 = 0 := by decide
      go_wp2_with fail
      refine HS6.out.mono ?_
      rintro e w7 ⟨rfl, b7⟩
      go_wp2
      go_ret
      exact ⟨rfl, HB6.out.trans (b7.mono HB6.out.size)⟩
    · have e1 : a ≠ [] := fun h => hz (by rw [← HNA.out, h]; rfl)
      have e3 : one = [([], (na : Int))] := by rw [HO1.out, if_neg e1, HNA.out]
      have e2 : m1 = 1 := by rw [← HM1.out, e3]; rfl
      have t1 : ((m1 : Int) == mv) = true := by rw [beq_iff_eq, ← hmv]; split <;> omega
      have t2 : ((m1 : Int) == 0) = false := by rw [beq_eq_false_iff_ne]; omega
      have t3 : (0 : Int) < m1 := by omega
      have HX7 := HX6.out
      rw [e3] at HX7
      obtain ⟨b1, off1, rfl, hR1⟩ := HX7.at (j := 0) (x := ([], (na : Int))) rfl
      obtain ⟨o1, c1, q0, q1, _, _⟩ := row_at (j := 0) (x := ([], (na : Int))) hR1 rfl
      simp only [Nat.zero_mul, Nat.add_zero, List.length_nil] at q0 q1
      clear hmv e1 e2 e3 HX7 hR1
      go_wp2_with fail
      refine HS6.out.mono ?_
      rintro e w7 ⟨rfl, b7⟩
      go_wp2
      go_ret
      exact ⟨rfl, HB6.out.trans (b7.mono HB6.out.size)⟩
end Go.Proofs.YtbdnonphkobkoaaGreat.Grp
