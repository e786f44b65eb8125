/- Groups: the walk of the statement on counts, means and sums. -/
import Derived.Test.YtjgcnfiijcpgdaaGreatGsc
import Derived.Test.YtjgcnfiijcpgdaaGreatGsb
namespace Go.Proofs.YtjgcnfiijcpgdaaGreat.Grp
open Go.RowKit Go.Lib Go.Sort Vec Fix

theorem vals_gen (name : ByteArray) (n mode : Int) (on o : Option Addr) (nn cn nx c : Nat) (ns : List ByteArray) (xs : List Rw) (w : World) (a : Nat × Int) (ha : aggF name n = some a) (h6 : a.1 ≠ 6) (h0 : ∀ g ∈ splitR mode ns xs, (numF a (nums g.2)).2 = 0) (hnn : ns.length = nn) (hn : xs.length = nx) (hr : rightR xs = true) (hmn : nn ≤ maxLen) (hm : nx ≤ 1000) (hS : RowsS w 0 o xs) (hN : SeesN w on ns) (l : List Rw) (hl : valsOf a (splitR mode ns xs) = l) (m : Nat) (hlm : l.length = m) :
    Calls Tryz.prog 31 #[.string name, .int .i64 n, .int .i64 mode, .slice on nn cn, .slice o nx c] w fun e w' => (∃ o' c', e = .returned (.tuple #[.slice o' m c', .int .i64 0]) ∧ RowsS w' 0 o' l) ∧ Below w.heap.size w w' := by
  subst hl hlm
  refine (do_ok name n mode on o nn cn nx c ns xs w a ha (fun g hg => reck_none (h0 g hg)) hnn hn hr (small_right hr) hmn hm 0 (Nat.zero_le _) hS hN).mono ?_
  rintro e w' ⟨⟨v, us, s, rfl, ho, hp, hs⟩, hb⟩
  rw [rows_vals h6 h0] at hp
  have hv := vals_rise a mode ns xs
  obtain rfl : valsOf a (splitR mode ns xs) = s := sorted_sameR hp.symm (rises_sorted hv) hs hv
  obtain ⟨o', c', rfl, hs, _⟩ := ho.sees (frow (B := 0))
  exact ⟨⟨o', c', rfl, hs⟩, hb⟩

set_option maxHeartbeats 32000000 in
set_option maxRecDepth 100000 in
theorem counts_any (mode : Int) (on o : Option Addr) (nn cn n c : Nat) (ns : List ByteArray) (xs : List Rw) (w : World) (hn : xs.length = n) (hnn : ns.length = nn) (hS : RowsS w w.heap.size o xs) (hN : SeesN w on ns) :
    Calls Tryz.prog 4 #[.int .i64 mode, .slice on nn cn, .slice o n c] w fun e w' => e = .returned (.bool true) ∧ Below w.heap.size w w' := by
  have HAl := Lib.hid (fun W => alive_any W)
  have HLt := Lib.hid (lightR_any o n c xs w _ hn hS)
  cases hl : lightR xs with
  | false =>
    rw [hl] at HLt
    clear hl hS hN
    go_enter Tryz.func4, Tryz.ntmps4
    go_wp2_with fail
    refine HLt.out.mono ?_
    rintro e w1 ⟨rfl, b1⟩
    go_wp2_with fail
    refine (HAl.out _).mono ?_
    rintro e w2 ⟨rfl, b2⟩
    go_wp2
    go_ret
    exact ⟨rfl, b1.trans (b2.mono b1.size)⟩
  | true =>
  obtain ⟨h60, hsm⟩ := lightR_mk hl
  rw [hl] at HLt
  by_cases g1 : 10 < nn
  · have i1 : (10 : Int) < nn := by omega
    clear hl hS hN
    go_enter Tryz.func4, Tryz.ntmps4
    go_wp2_with fail
    refine HLt.out.mono ?_
    rintro e w1 ⟨rfl, b1⟩
    go_wp2_with fail
    refine (HAl.out _).mono ?_
    rintro e w2 ⟨rfl, b2⟩
    go_wp2
    go_ret
    exact ⟨rfl, b1.trans (b2.mono b1.size)⟩
  have i1 : ¬ (10 : Int) < nn := by omega
  have har := vecT_right xs
  have hal : (vecT xs).length ≤ 60 := Nat.le_trans (vecT_len xs) h60
  have HTa := Lib.hid (fun W (hb : Below w.heap.size w W) => ltidy_any o n c xs W _ hn (by omega) hsm (hS.below frow hb))
  obtain ⟨a, ha⟩ : ∃ a, vecT xs = a := ⟨_, rfl⟩
  rw [ha] at har hal HTa
  obtain ⟨na, hna⟩ : ∃ na, a.length = na := ⟨_, rfl⟩
  have hna60 : na ≤ 60 := by rw [← hna]; exact hal
  have HNA := Lib.hid hna
  obtain ⟨ng, hng⟩ : ∃ ng, (splitR mode ns a).length = ng := ⟨_, rfl⟩
  have hng60 : ng ≤ 60 := by rw [← hng]; exact Nat.le_trans (split_len mode ns a) hal
  obtain ⟨x, hx⟩ : ∃ x, valsOf (4, 0) (splitR mode ns a) = x := ⟨_, rfl⟩
  have hxn : x.length = ng := by rw [← hx, vals_len]; exact hng
  have HXN := Lib.hid hxn
  obtain ⟨y, hy⟩ : ∃ y, valsOf (2, 0) (splitR mode ns a) = y := ⟨_, rfl⟩
  have hyn : y.length = ng := by rw [← hy, vals_len]; exact hng
  have HYN := Lib.hid hyn
  obtain ⟨z, hz⟩ : ∃ z, valsOf (3, 0) (splitR mode ns a) = z := ⟨_, rfl⟩
  have hzn : z.length = ng := by rw [← hz, vals_len]; exact hng
  have HZN := Lib.hid hzn
  obtain ⟨u, hu⟩ : ∃ u, valsOf (1, 0) (splitR mode ns a) = u := ⟨_, rfl⟩
  have hun : u.length = ng := by rw [← hu, vals_len]; exact hng
  have HUN := Lib.hid hun
  obtain ⟨v, hv⟩ : ∃ v, valsOf (0, 0) (splitR mode ns a) = v := ⟨_, rfl⟩
  have hvn : v.length = ng := by rw [← hv, vals_len]; exact hng
  have HVN := Lib.hid hvn
  have HAt := Lib.hid (fun (hm : ∀ r ∈ a, mild r.2) (k : Nat) (r1 r2 r3 r4 r5 : Rw) (e1 : x[k]? = some r1) (e2 : y[k]? = some r2) (e3 : z[k]? = some r3) (e4 : u[k]? = some r4) (e5 : v[k]? = some r5) => (show CntAt r1.2 r2.2 r3.2 r4.2 r5.2 from by
    rw [← hx] at e1; rw [← hy] at e2; rw [← hz] at e3; rw [← hu] at e4; rw [← hv] at e5
    exact counts_at hal hm e1 e2 e3 e4 e5))
  have HEX := Lib.hid (show upK x ng = (na : Int) from by rw [upK_all hxn, ← hx, cnt_sum, hna])
  have HEV := Lib.hid (fun (hm : ∀ r ∈ a, mild r.2) => (show upK v ng = upK a na from by rw [upK_all hvn, ← hv, sum_sum mode ns hal hm, upK_all hna]))
  have HGo := Lib.hid (fun (name : ByteArray) (b : Nat × Int) (hb : aggF name 0 = some b) (h6 : b.1 ≠ 6) (h0 : ∀ g ∈ splitR mode ns a, (numF b (nums g.2)).2 = 0) (r : List Rw) (hr : valsOf b (splitR mode ns a) = r) (hrn : r.length = ng) (W : World) o c (hbw : Below w.heap.size w W) (s : RowsS W 0 o a) =>
    vals_gen name 0 mode on o nn cn na c ns a W b hb h6 h0 hnn hna har (by unfold maxLen; omega) (by omega) s (hN.below hbw) r hr ng hrn)
  have HDx := Lib.hid (HGo.out _ _ (agg_count 0) (by decide) (fun g _ => num_plain (.inr (.inr (.inl rfl))) _) x hx hxn)
  have HDy := Lib.hid (HGo.out _ _ (agg_min 0) (by decide) (fun g _ => num_plain (.inl rfl) _) y hy hyn)
  have HDz := Lib.hid (HGo.out _ _ (agg_max 0) (by decide) (fun g _ => num_plain (.inr (.inl rfl)) _) z hz hzn)
  have HDu := Lib.hid (fun (hm : ∀ r ∈ a, mild r.2) => HGo.out _ _ (agg_avg 0) (by decide) (fun g hg => by rw [num_avg (nums_ne (split_ne mode ns a g hg)) (by rw [nums_len]; exact Nat.le_trans (group_len hg) hal) (nums_mild fun r hr => hm r (split_mem hg hr))]) u hu hun)
  have HDv := Lib.hid (fun (hm : ∀ r ∈ a, mild r.2) => HGo.out _ _ (agg_sum0 0) (by decide) (fun g hg => by rw [num_sum (by rw [nums_len]; exact Nat.le_trans (group_len hg) hal) (nums_mild fun r hr => hm r (split_mem hg hr))]) v hv hvn)
  have HSt := Lib.hid (fun (r : List Rw) (k : Nat) (t : Rw) (h : r[k]? = some t) => upK_step h)
  have HLa := Lib.hid (fun (hm : ∀ r ∈ a, mild r.2) (k : Nat) => (show -60000000000 ≤ upK a k ∧ upK a k ≤ 60000000000 from by
    obtain ⟨m, h1, h2, h3⟩ := upK_lim 1000000000 (l := a) (fun r hr => hm r hr) k
    omega))
  have HLx := Lib.hid (fun (hm : ∀ r ∈ a, mild r.2) (k : Nat) (hk : k ≤ ng) => (show -60000000000000 ≤ upK x k ∧ upK x k ≤ 60000000000000 ∧ -60000000000000 ≤ upK v k ∧ upK v k ≤ 60000000000000 from by
    have e1 : ∀ r ∈ x, -60000000000 ≤ r.2 ∧ r.2 ≤ 60000000000 := fun r hr => by
      obtain ⟨j, hj, e⟩ := List.getElem_of_mem hr
      have q := HAt.out hm j r _ _ _ _ (by rw [List.getElem?_eq_getElem hj, e]) (List.getElem?_eq_getElem (by omega)) (List.getElem?_eq_getElem (by omega)) (List.getElem?_eq_getElem (by omega)) (List.getElem?_eq_getElem (by omega))
      have := q.c1; have := q.c2; omega
    have e2 : ∀ r ∈ v, -60000000000 ≤ r.2 ∧ r.2 ≤ 60000000000 := fun r hr => by
      obtain ⟨j, hj, e⟩ := List.getElem_of_mem hr
      have q := HAt.out hm j _ _ _ _ r (List.getElem?_eq_getElem (by omega)) (List.getElem?_eq_getElem (by omega)) (List.getElem?_eq_getElem (by omega)) (List.getElem?_eq_getElem (by omega)) (by rw [List.getElem?_eq_getElem hj, e])
      exact ⟨q.s1, q.s2⟩
    obtain ⟨m, h1, h2, h3⟩ := upK_lim 60000000000 e1 k
    obtain ⟨m', h1', h2', h3'⟩ := upK_lim 60000000000 e2 k
    omega))
  clear hl hS hN har hal ha hna hsm HGo hx hy hz hu hv hxn hyn hzn hun hvn hng hnn
  go_enter Tryz.func4, Tryz.ntmps4
  go_wp2_with fail
  refine HLt.out.mono ?_
  rintro e w1 ⟨rfl, b1⟩
  go_wp2_with fail
  refine (HAl.out _).mono ?_
  rintro e w2 ⟨rfl, b2⟩
  have b12 := b1.trans (b2.mono b1.size)
  clear b1 b2
  go_wp2_with fail
  refine (HTa.out _ b12).mono ?_
  rintro e w3 ⟨⟨va, usa, rfl, hoa⟩, b3⟩
  obtain ⟨oA, cA, rfl, hsA, _⟩ := hoa.sees frow
  rw [HNA.out]
  have HB3 := Lib.hid (b12.trans (b3.mono b12.size))
  have HSA := Lib.hid hsA
  clear b12 b3 hoa hsA HLt HAl HTa
  go_wp2_with fail
  go_loop [8] (fun v8 => ∃ k : Nat, v8 = .int .i64 k ∧ k ≤ na ∧ Hid (∀ j, j < k → ∀ r, a[j]? = some r → mild r.2)) (fun v8 => na - (intOf v8).toNat)
  case atStart => exact ⟨0, rfl, Nat.zero_le _, Lib.hid fun j hj => absurd hj (by omega)⟩
  case round =>
    obtain ⟨k, rfl, hk, HM⟩ := hrel
    by_cases hkn : k < na
    · have j1 : (k : Int) < na := by omega
      obtain ⟨x', hx'⟩ := get_ltG HNA.out hkn
      obtain ⟨b1, off1, rfl, hR1⟩ := HSA.out.at hx'
      obtain ⟨o1, e1, _, c1, _, _⟩ := row_at hR1 hx'
      have HX' := Lib.hid hx'
      clear hR1 hx'
      by_cases q1 : 1000000000 < x'.2
      · go_wp2
        go_ret
        exact ⟨rfl, HB3.out⟩
      by_cases q2 : x'.2 < -1000000000
      · go_wp2
        go_ret
        exact ⟨rfl, HB3.out⟩
      have HM2 := Lib.hid (show ∀ j, j < k + 1 → ∀ r, a[j]? = some r → mild r.2 from fun j hj r hr => by
        by_cases h : j = k
        · subst h
          have e := HX'.out
          rw [hr] at e; cases e
          exact ⟨by omega, by omega⟩
        · exact HM.out j (by omega) r hr)
      clear HM
      go_wp2
      go_round
      case rel => exact ⟨k + 1, by go_num, by omega, HM2⟩
      case measure => simp [intOf]; omega
    have j1 : ¬ (k : Int) < na := by omega
    have HMi := Lib.hid (show ∀ r ∈ a, mild r.2 from fun r hr => by
      obtain ⟨j, hj, e⟩ := List.getElem_of_mem hr
      exact HM.out j (by have := HNA.out; omega) r (by rw [List.getElem?_eq_getElem hj, e]))
    clear HM
    go_wp2_with fail
    refine (HDx.out w3 oA cA HB3.out HSA.out).mono ?_
    rintro e w4 ⟨⟨oX, cX, rfl, hsX⟩, bn⟩
    have HSA4 := Lib.hid (HSA.out.below frow bn)
    have HX4 := Lib.hid hsX
    have HB4 := Lib.hid (HB3.out.trans (bn.mono HB3.out.size))
    clear hsX bn HSA HB3 HDx 
    go_wp2_with fail
    refine (HDy.out w4 oA cA HB4.out HSA4.out).mono ?_
    rintro e w5 ⟨⟨oY, cY, rfl, hsY⟩, bn⟩
    have HSA5 := Lib.hid (HSA4.out.below frow bn)
    have HX5 := Lib.hid (HX4.out.below frow bn)
    have HY5 := Lib.hid hsY
    have HB5 := Lib.hid (HB4.out.trans (bn.mono HB4.out.size))
    clear hsY bn HSA4 HB4 HDy HX4
    go_wp2_with fail
    refine (HDz.out w5 oA cA HB5.out HSA5.out).mono ?_
    rintro e w6 ⟨⟨oZ, cZ, rfl, hsZ⟩, bn⟩
    have HSA6 := Lib.hid (HSA5.out.below frow bn)
    have HX6 := Lib.hid (HX5.out.below frow bn)
    have HY6 := Lib.hid (HY5.out.below frow bn)
    have HZ6 := Lib.hid hsZ
    have HB6 := Lib.hid (HB5.out.trans (bn.mono HB5.out.size))
    clear hsZ bn HSA5 HB5 HDz HX5 HY5
    go_wp2_with fail
    refine (HDu.out HMi.out w6 oA cA HB6.out HSA6.out).mono ?_
    rintro e w7 ⟨⟨oU, cU, rfl, hsU⟩, bn⟩
    have HSA7 := Lib.hid (HSA6.out.below frow bn)
    have HX7 := Lib.hid (HX6.out.below frow bn)
    have HY7 := Lib.hid (HY6.out.below frow bn)
    have HZ7 := Lib.hid (HZ6.out.below frow bn)
    have HU7 := Lib.hid hsU
    have HB7 := Lib.hid (HB6.out.trans (bn.mono HB6.out.size))
    clear hsU bn HSA6 HB6 HDu HX6 HY6 HZ6
    go_wp2_with fail
    refine (HDv.out HMi.out w7 oA cA HB7.out HSA7.out).mono ?_
    rintro e w8 ⟨⟨oV, cV, rfl, hsV⟩, bn⟩
    have HSA8 := Lib.hid (HSA7.out.below frow bn)
    have HX8 := Lib.hid (HX7.out.below frow bn)
    have HY8 := Lib.hid (HY7.out.below frow bn)
    have HZ8 := Lib.hid (HZ7.out.below frow bn)
    have HU8 := Lib.hid (HU7.out.below frow bn)
    have HV8 := Lib.hid hsV
    have HB8 := Lib.hid (HB7.out.trans (bn.mono HB7.out.size))
    clear hsV bn HSA7 HB7 HDv HX7 HY7 HZ7 HU7
    go_wp2_with fail
    go_loopw [19, 20, 22] (fun v19 v20 v22 wi => ∃ k : Nat, v22 = .int .i64 k ∧ k ≤ ng ∧ v19 = .int .i64 (upK x k) ∧ v20 = .int .i64 (upK v k) ∧ Hid (∃ q, wi = w8.drewN q)) (fun _ _ v22 _ => ng - (intOf v22).toNat)
    case atStart => exact ⟨0, rfl, Nat.zero_le _, rfl, rfl, Lib.hid ⟨0, rfl⟩⟩
    case round =>
      clear j1 hk hkn
      obtain ⟨k, rfl, hk, rfl, rfl, HQ⟩ := hrel
      by_cases hkn : k < ng
      · have j1 : (k : Int) < ng := by omega
        obtain ⟨m1, m2, m3, m4⟩ := HLx.out HMi.out k hk
        obtain ⟨x', hx'⟩ := get_ltG HXN.out hkn
        obtain ⟨pbx, pfx, rfl, hRx⟩ := (HX8.out.below frow (quietB HQ.out)).at hx'
        obtain ⟨_, _, _, cx1, _, _⟩ := row_at hRx hx'
        obtain ⟨y', hy'⟩ := get_ltG HYN.out hkn
        obtain ⟨pby, pfy, rfl, hRy⟩ := (HY8.out.below frow (quietB HQ.out)).at hy'
        obtain ⟨_, _, _, cy1, _, _⟩ := row_at hRy hy'
        obtain ⟨z', hz'⟩ := get_ltG HZN.out hkn
        obtain ⟨pbz, pfz, rfl, hRz⟩ := (HZ8.out.below frow (quietB HQ.out)).at hz'
        obtain ⟨_, _, _, cz1, _, _⟩ := row_at hRz hz'
        obtain ⟨u', hu'⟩ := get_ltG HUN.out hkn
        obtain ⟨pbu, pfu, rfl, hRu⟩ := (HU8.out.below frow (quietB HQ.out)).at hu'
        obtain ⟨_, _, _, cu1, _, _⟩ := row_at hRu hu'
        obtain ⟨v', hv'⟩ := get_ltG HVN.out hkn
        obtain ⟨pbv, pfv, rfl, hRv⟩ := (HV8.out.below frow (quietB HQ.out)).at hv'
        obtain ⟨_, _, _, cv1, _, _⟩ := row_at hRv hv'
        obtain ⟨q1, q2, l1, l2, g1, g2, s1, s2, e⟩ := HAt.out HMi.out k x' y' z' u' v' hx' hy' hz' hu' hv'
        have HSx := Lib.hid (HSt.out x k x' hx')
        have HSv := Lib.hid (HSt.out v k v' hv')
        clear hRx hRy hRz hRu hRv hx' hy' hz' hu' hv'
        generalize x'.2 = cv at *
        generalize y'.2 = lv at *
        generalize z'.2 = hv at *
        generalize u'.2 = mv at *
        generalize v'.2 = sv at *
        generalize upK x k = rv at *
        generalize upK v k = tv at *
        obtain ⟨p1, hp1⟩ : ∃ p1, mv + 1 = p1 := ⟨_, rfl⟩
        obtain ⟨p2, hp2⟩ : ∃ p2, mv - 1 = p2 := ⟨_, rfl⟩
        have k1 : IntKind.i64.wrap (mv + 1) = p1 := by rw [IntKind.wrap_i64]; omega
        have k2 : IntKind.i64.wrap (mv - 1) = p2 := by rw [IntKind.wrap_i64]; omega
        have k3 : IntKind.i64.wrap (sv.tdiv cv) = mv := by rw [IntKind.wrap_i64, ← e]; omega
        have t0 : ¬ cv = 0 := by omega
        have t1 : decide (p1 < lv) = false := decide_eq_false (by omega)
        have t2 : decide (hv < p2) = false := decide_eq_false (by omega)
        have t3 : decide (hv < lv) = false := decide_eq_false (by omega)
        have t4 : decide (cv < 1) = false := decide_eq_false (by omega)
        clear e hp1 hp2 l1 l2 g1 g2
        go_wp2_with fail
        go_quiet (fail)
        have HQ4 := Lib.hid (quietQ HQ.out nq)
        go_wp2
        go_roundw
        case rel => exact ⟨k + 1, by go_num, by omega, by rw [HSx.out], by rw [HSv.out], HQ4⟩
        case measure => simp [intOf]; omega
      have j1 : ¬ (k : Int) < ng := by omega
      have hkg : k = ng := by omega
      rw [hkg, HEX.out, HEV.out HMi.out]
      obtain ⟨T, hT⟩ : ∃ T, upK a na = T := ⟨_, rfl⟩
      rw [hT]
      have HT := Lib.hid hT
      clear hT hkg
      go_wp2_with fail
      go_loop [21, 23] (fun v21 v23 => ∃ k : Nat, v23 = .int .i64 k ∧ k ≤ na ∧ v21 = .int .i64 (upK a k)) (fun _ v23 => na - (intOf v23).toNat)
      case atStart => exact ⟨0, rfl, Nat.zero_le _, rfl⟩
      case round =>
        clear j1 hk hkn
        obtain ⟨k, rfl, hk, rfl⟩ := hrel
        by_cases hkn : k < na
        · have j1 : (k : Int) < na := by omega
          obtain ⟨m1, m2⟩ := HLa.out HMi.out k
          obtain ⟨x', hx'⟩ := get_ltG HNA.out hkn
          obtain ⟨b1, off1, rfl, hR1⟩ := (HSA8.out.below frow (quietB HQ.out)).at hx'
          obtain ⟨_, _, _, c1, _, _⟩ := row_at hR1 hx'
          obtain ⟨p1, p2⟩ := HMi.out x' (List.mem_of_getElem? hx')
          have HSx := Lib.hid (HSt.out a k x' hx')
          clear hR1 hx'
          generalize x'.2 = cv at *
          generalize upK a k = rv at *
          go_wp2
          go_round
          case rel => exact ⟨k + 1, by go_num, by omega, by rw [HSx.out]⟩
          case measure => simp [intOf]; omega
        have j1 : ¬ (k : Int) < na := by omega
        have hkg : k = na := by omega
        rw [hkg, HT.out]
        go_wp2
        go_ret
        exact ⟨rfl, HB8.out.trans ((quietB HQ.out).mono HB8.out.size)⟩
end Go.Proofs.YtjgcnfiijcpgdaaGreat.Grp
