/- The walk of the statement on how many rows come. -/
import Derived.Test.YtiedhlcgdfdjhaaVpz
import Derived.Test.YtiedhlcgdfdjhaaRc
namespace Go.Proofs.Ytiedhlcgdfdjhaa.Vec
open Go.RowKit

theorem rcomp_any (op : ByteArray) (w : World) : Calls Try.prog 22 #[.string op] w fun e w' => e = .returned (.bool (Fix.comparesF op)) ∧ w = w' := by
  by_cases h : op ∈ Fix.signs
  · unfold Fix.signs at h
    simp only [List.mem_cons, List.not_mem_nil, or_false] at h
    rcases h with rfl | rfl | rfl | rfl | rfl | rfl | rfl | rfl | rfl | rfl | rfl
    · have := Fix.rcomp_add w; rwa [← Fix.comparesF_add] at this
    · have := Fix.rcomp_sub w; rwa [← Fix.comparesF_sub] at this
    · have := Fix.rcomp_mul w; rwa [← Fix.comparesF_mul] at this
    · have := Fix.rcomp_div w; rwa [← Fix.comparesF_div] at this
    · have := Fix.rcomp_mod w; rwa [← Fix.comparesF_mod] at this
    · have := Fix.rcomp_eq w; rwa [← Fix.comparesF_eq] at this
    · have := Fix.rcomp_ne w; rwa [← Fix.comparesF_ne] at this
    · have := Fix.rcomp_lt w; rwa [← Fix.comparesF_lt] at this
    · have := Fix.rcomp_le w; rwa [← Fix.comparesF_le] at this
    · have := Fix.rcomp_gt w; rwa [← Fix.comparesF_gt] at this
    · have := Fix.rcomp_ge w; rwa [← Fix.comparesF_ge] at this
  · have := Fix.rcomp_none op w (Fix.NoSign.of h)
    rwa [← Fix.comparesF_none h] at this
theorem ans_own {w w' : World} {r : List Rw × Int} {e : Ending} (h : AnsR w r e w') : (∃ v us d, e = .returned (.tuple #[v, .int .i64 d]) ∧ OwnR w' w.heap.size v us r.1) ∧ Below w.heap.size w w' := by
  obtain ⟨⟨v, he, us, ho⟩, hb⟩ := h
  exact ⟨⟨v, us, r.2, he, ho⟩, hb⟩
theorem sub_step {x y : Rw} {l m : List Rw} (h : (y :: l).Sublist (x :: m)) : (x = y → l.Sublist m) ∧ (x ≠ y → (y :: l).Sublist m) := by
  constructor
  · rintro rfl; exact List.cons_sublist_cons.1 h
  · intro hne
    cases h with
    | cons _ h => exact h
    | cons_cons _ h => exact absurd rfl hne

set_option maxHeartbeats 16000000 in
set_option maxRecDepth 100000 in
theorem sizes_any (op : ByteArray) (o o2 on : Option Addr) (n c n2 c2 nn cn : Nat) (v mode : Int) (xs ys : List Rw) (ns : List ByteArray) (w : World) (hop : op.size ≤ maxLen) (hn : xs.length = n) (hn2 : ys.length = n2) (hnn : ns.length = nn) (hmn : nn ≤ maxLen) (hS : RowsS w w.heap.size o xs) (hS2 : RowsS w w.heap.size o2 ys) (hN : SeesN w on ns) :
    Calls Try.prog 8 #[.string op, .slice o n c, .slice o2 n2 c2, .int .i64 v, .int .i64 mode, .slice on nn cn] w fun e w' => e = .returned (.bool true) ∧ Below w.heap.size w w' := by
  have HAl := Lib.hid (fun W => alive_any W)
  have HLt := Lib.hid (lightR_any o n c xs w _ hn hS)
  have HLu := Lib.hid (fun W (hb : Below w.heap.size w W) => lightR_any o2 n2 c2 ys W _ hn2 (hS2.below frow hb))
  unfold maxLen at hmn
  have hop2 := hop
  unfold maxLen at hop2
  cases hl : lightR xs with
  | false =>
    rw [hl] at HLt
    clear hl hS hS2 hN
    go_enter Try.func8, Try.ntmps8
    go_wp2_with fail
    refine HLt.out.mono ?_
    rintro e w1 ⟨rfl, b1⟩
    go_wp2_with fail
    refine (HAl.out _).mono ?_
    rintro e w2 ⟨rfl, b2⟩
    go_wp2
    go_ret
    exact ⟨rfl, b1.trans (b2.mono b1.size)⟩
  | true =>
  obtain ⟨h60, hsm⟩ := lightR_mk hl
  rw [hl] at HLt
  cases hl2 : lightR ys with
  | false =>
    rw [hl2] at HLu
    clear hl hl2 hS hS2 hN
    go_enter Try.func8, Try.ntmps8
    go_wp2_with fail
    refine HLt.out.mono ?_
    rintro e w1 ⟨rfl, b1⟩
    go_wp2_with fail
    refine (HLu.out _ b1).mono ?_
    rintro e wu ⟨rfl, bu⟩
    replace b1 := b1.trans (bu.mono b1.size)
    clear bu
    go_wp2_with fail
    refine (HAl.out _).mono ?_
    rintro e w2 ⟨rfl, b2⟩
    go_wp2
    go_ret
    exact ⟨rfl, b1.trans (b2.mono b1.size)⟩
  | true =>
  obtain ⟨h602, hsm2⟩ := lightR_mk hl2
  rw [hl2] at HLu
  obtain ⟨ol, hol⟩ : ∃ ol, op.size = ol := ⟨_, rfl⟩
  by_cases hop5 : 5 < op.size
  · have i1 : (5 : Int) < op.size := by omega
    clear hl hl2 hS hS2 hN
    go_enter Try.func8, Try.ntmps8
    go_wp2_with fail
    refine HLt.out.mono ?_
    rintro e w1 ⟨rfl, b1⟩
    go_wp2_with fail
    refine (HLu.out _ b1).mono ?_
    rintro e wu ⟨rfl, bu⟩
    replace b1 := b1.trans (bu.mono b1.size)
    clear bu
    go_wp2_with fail
    refine (HAl.out _).mono ?_
    rintro e w2 ⟨rfl, b2⟩
    go_wp2
    go_ret
    exact ⟨rfl, b1.trans (b2.mono b1.size)⟩
  have i0 : ¬ (5 : Int) < op.size := by omega
  by_cases hnn10 : 10 < nn
  · have i1 : (10 : Int) < nn := by omega
    clear hl hl2 hS hS2 hN
    go_enter Try.func8, Try.ntmps8
    go_wp2_with fail
    refine HLt.out.mono ?_
    rintro e w1 ⟨rfl, b1⟩
    go_wp2_with fail
    refine (HLu.out _ b1).mono ?_
    rintro e wu ⟨rfl, bu⟩
    replace b1 := b1.trans (bu.mono b1.size)
    clear bu
    go_wp2_with fail
    refine (HAl.out _).mono ?_
    rintro e w2 ⟨rfl, b2⟩
    go_wp2
    go_ret
    exact ⟨rfl, b1.trans (b2.mono b1.size)⟩
  have i1 : ¬ (10 : Int) < nn := by omega
  have har := vecT_right xs
  have hbr := vecT_right ys
  have hal : (vecT xs).length ≤ 60 := Nat.le_trans (vecT_len xs) h60
  have hbl : (vecT ys).length ≤ 60 := Nat.le_trans (vecT_len ys) h602
  have HTa := Lib.hid (fun W (hb : Below w.heap.size w W) => ltidy_any o n c xs W _ hn (by omega) hsm (hS.below frow hb))
  have HTb := Lib.hid (fun W (hb : Below w.heap.size w W) => ltidy_any o2 n2 c2 ys W _ hn2 (by omega) hsm2 (hS2.below frow hb))
  obtain ⟨a, ha⟩ : ∃ a, vecT xs = a := ⟨_, rfl⟩
  obtain ⟨b, hb'⟩ : ∃ b, vecT ys = b := ⟨_, rfl⟩
  rw [ha] at har hal HTa
  rw [hb'] at hbr hbl HTb
  obtain ⟨na, hna⟩ : ∃ na, a.length = na := ⟨_, rfl⟩
  obtain ⟨nb, hnb⟩ : ∃ nb, b.length = nb := ⟨_, rfl⟩
  have hna60 : na ≤ 60 := by rw [← hna]; exact hal
  have hnb60 : nb ≤ 60 := by rw [← hnb]; exact hbl
  have SP := sizes_plain op v mode ns har hbr
  have HM1 := Lib.hid (fun (W : World) ol cl om cm (hb : Below w.heap.size w W) (s : RowsS W 0 ol a) (s2 : RowsS W 0 om b) => (show Calls Try.prog 13 #[.string op, .slice ol na cl, .slice om nb cm, .int .i64 mode, .slice on nn cn] W (AnsR W (matchR op a b mode ns)) from
    match_any op ol om on na cl nb cm nn cn mode ns a b W hop hna hnb hnn (by unfold maxLen; omega) (by unfold maxLen; omega) (by unfold maxLen; omega) 0 (Nat.zero_le _) s s2 (hN.below hb)))
  have HX1 := Lib.hid (fun (W : World) o c (s : RowsS W 0 o a) => scale_any op o na c v false a W hop hna (by unfold maxLen; omega) 0 (Nat.zero_le _) s)
  obtain ⟨rm, hrm⟩ : ∃ rm, matchR op a b mode ns = rm := ⟨_, rfl⟩
  obtain ⟨rs, hrs⟩ : ∃ rs, scaleR op a v false = rs := ⟨_, rfl⟩
  rw [hrm] at SP HM1
  rw [hrs] at SP HX1
  obtain ⟨x, hx⟩ : ∃ x, rm.1 = x := ⟨_, rfl⟩
  obtain ⟨y, hy⟩ : ∃ y, rs.1 = y := ⟨_, rfl⟩
  rw [hx, hy] at SP
  obtain ⟨nx, hnx⟩ : ∃ nx, x.length = nx := ⟨_, rfl⟩
  obtain ⟨ny, hny⟩ : ∃ ny, y.length = ny := ⟨_, rfl⟩
  have l1 : nx ≤ na := by rw [← hnx, ← hna]; exact SP.xa
  have l2 : nx ≤ nb := by rw [← hnx, ← hnb]; exact SP.xb
  have l3 : ny ≤ na := by rw [← hny, ← hna]; exact SP.ya
  have HSX := Lib.hid SP.xs
  have HSY := Lib.hid SP.ys
  have HR := Lib.hid (fun (W : World) o1 c1 (l : List Rw) (nl : Nat) (hl : l.length = nl) (hl60 : nl ≤ 60) (hr : rightR l = true) (s1 : RowsS W 0 o1 l) => (show Calls Try.prog 20 #[.slice o1 nl c1] W fun e w' => e = .returned (.bool true) ∧ Below W.heap.size W w' from by
    have := right_row o1 nl c1 l W 0 hl (by unfold maxLen; omega) s1
    rw [hr] at this; exact this))
  have HRX := Lib.hid SP.xr
  have HRY := Lib.hid SP.yr
  have HNA := Lib.hid hna
  have HNB := Lib.hid hnb
  have HNX := Lib.hid hnx
  have HNY := Lib.hid hny
  have HCp := Lib.hid (fun W => rcomp_any op W)
  obtain ⟨cp, hcp⟩ : ∃ cp, Fix.comparesF op = cp := ⟨_, rfl⟩
  rw [hcp] at HCp HSX HSY
  have q1 : ¬ (min (na : Int) nb) < nx := by omega
  have q2 : ¬ (na : Int) < ny := by omega
  have q3 : ¬ (na : Int) < nx := by omega
  have q4 : ¬ (nb : Int) < nx := by omega
  have HOp := Lib.hid hop
  have HNN := Lib.hid hnn
  obtain ⟨mv, hmv, hmv2⟩ : ∃ mv : Int, (if (nb : Int) < na then (nb : Int) else na) = mv ∧ ¬ mv < nx := by
    refine ⟨_, rfl, ?_⟩; split <;> omega
  have mn : ∀ (W : World) (ts : Array TypeId) (t : TypeId), (Builtin.min_ ts t #[.int .i64 (na : Int), .int .i64 (nb : Int)]).run Try.prog W = .ok (.int .i64 mv) W := fun W ts t => by rw [run_min_int2, hmv]
  clear hl hl2 hS hS2 hN har hbr hal hbl ha hb' hna hnb hsm hsm2 SP hrm hrs hnx hny hcp hol hop hnn q1 hmv
  go_enter Try.func8, Try.ntmps8
  go_wp2_with fail
  refine HLt.out.mono ?_
  rintro e w1 ⟨rfl, b1⟩
  go_wp2_with fail
  refine (HLu.out _ b1).mono ?_
  rintro e wu ⟨rfl, bu⟩
  replace b1 := b1.trans (bu.mono b1.size)
  clear bu
  go_wp2_with fail
  refine (HAl.out _).mono ?_
  rintro e w2 ⟨rfl, b2⟩
  have b12 := b1.trans (b2.mono b1.size)
  clear b1 b2
  go_wp2_with fail
  refine (HTa.out _ b12).mono ?_
  rintro e w3 ⟨⟨va, usa, rfl, hoa⟩, b3⟩
  obtain ⟨oA, cA, rfl, hsA, _⟩ := hoa.sees frow
  rw [HNA.out]
  have b13 := b12.trans (b3.mono b12.size)
  clear b12 b3 hoa
  go_wp2_with fail
  refine (HTb.out _ b13).mono ?_
  rintro e w4 ⟨⟨vb, usb, rfl, hob⟩, b4⟩
  obtain ⟨oB, cB, rfl, hsB, _⟩ := hob.sees frow
  rw [HNB.out]
  have HB4 := Lib.hid (b13.trans (b4.mono b13.size))
  have HSA := Lib.hid (hsA.below frow b4)
  have HSB := Lib.hid hsB
  clear b13 b4 hob hsA hsB HLt HLu HAl HTa HTb
  go_wp2_with fail
  refine (HM1.out w4 oA cA oB cB HB4.out HSA.out HSB.out).mono ?_
  intro e w6 hans
  obtain ⟨⟨vx, usx, dx, rfl, hox⟩, b6⟩ := ans_own hans
  rw [hx] at hox
  obtain ⟨oX, cX, rfl, hsX, _⟩ := hox.sees frow
  rw [HNX.out]
  have HSA6 := Lib.hid (HSA.out.below frow b6)
  have HRw := Lib.hid hsX
  have HB6 := Lib.hid (HB4.out.trans (b6.mono HB4.out.size))
  clear hans hox hsX b6 HSA HSB HB4 HM1
  go_wp2_with fail
  refine (HX1.out w6 oA cA HSA6.out).mono ?_
  intro e w7 hans
  obtain ⟨⟨vy, usy, dy, rfl, hoy⟩, b7⟩ := ans_own hans
  rw [hy] at hoy
  obtain ⟨oY, cY, rfl, hsY, _⟩ := hoy.sees frow
  rw [HNY.out]
  have HSA7 := Lib.hid (HSA6.out.below frow b7)
  have HX7 := Lib.hid (HRw.out.below frow b7)
  have HY7 := Lib.hid hsY
  have HB7 := Lib.hid (HB6.out.trans (b7.mono HB6.out.size))
  clear hans hoy hsY b7 HSA6 HB6 HX1 HRw hx hy
  go_wp2_with fail
  refine (HR.out w7 oX cX x nx HNX.out (by omega) HRX.out HX7.out).mono ?_
  rintro e w8 ⟨rfl, b8⟩
  have HSA8 := Lib.hid (HSA7.out.below frow b8)
  have HX8 := Lib.hid (HX7.out.below frow b8)
  have HY8 := Lib.hid (HY7.out.below frow b8)
  have HB8 := Lib.hid (HB7.out.trans (b8.mono HB7.out.size))
  clear b8 HSA7 HX7 HY7 HB7
  go_wp2_with fail
  refine (HR.out w8 oY cY y ny HNY.out (by omega) HRY.out HY8.out).mono ?_
  rintro e w9 ⟨rfl, b9⟩
  have HSA9 := Lib.hid (HSA8.out.below frow b9)
  have HX9 := Lib.hid (HX8.out.below frow b9)
  have HY9 := Lib.hid (HY8.out.below frow b9)
  have HB9 := Lib.hid (HB8.out.trans (b9.mono HB8.out.size))
  clear b9 HSA8 HX8 HY8 HB8 HR mn
  cases cp with
  | false =>
    go_wp2_with (go_at_call 22; refine (HCp.out _).mono ?_; rintro e w10 ⟨rfl, rfl⟩)
    go_ret
    exact ⟨rfl, HB9.out⟩
  | true =>
    obtain ⟨wB, hwB⟩ : ∃ wB, w9.alloc (Obj.cells #[.slice oX nx cX, .slice oY ny cY] 22) = wB := ⟨_, rfl⟩
    have hbB : Below w9.heap.size w9 wB := by rw [← hwB]; exact (Below.refl _ _).alloc (Nat.le_refl _) _
    have HSAB := Lib.hid (HSA9.out.below frow hbB)
    have HWB := Lib.hid hwB
    have HBB := Lib.hid (HB9.out.trans (hbB.mono HB9.out.size))
    have HTWO := Lib.hid (show ∀ j, j < 2 → ∃ (oS : Option Addr) (cS nS : Nat) (s : List Rw), wB.cell? ⟨w9.heap.size, j, none⟩ = some (.slice oS nS cS) ∧ s.length = nS ∧ nS ≤ 60 ∧ RowsS wB 0 oS s ∧ s.Sublist a from fun j hj => by
      have hc := box2 w9 (.slice oX nx cX) (.slice oY ny cY) 22 wB (by rw [hwB]; exact Below.refl _ _)
      match j, hj with
      | 0, _ => exact ⟨oX, cX, nx, x, hc.1, HNX.out, by omega, HX9.out.below frow hbB, HSX.out rfl⟩
      | 1, _ => exact ⟨oY, cY, ny, y, hc.2, HNY.out, by omega, HY9.out.below frow hbB, HSY.out rfl⟩)
    clear HSX HSY hwB hbB HSA9 HX9 HY9 HB9
    go_wp2_with (go_at_call 22; refine (HCp.out _).mono ?_; rintro e w10 ⟨rfl, rfl⟩)
    rw [HWB.out]
    clear hmv2 q2 q3 q4 HCp
    go_loopw [20, 21, 22, 98] (fun v20 v21 v22 v98 wi => ∃ j : Nat, v98 = .int .i64 j ∧ j ≤ 2 ∧ Hid (∃ q, wi = wB.drewN q)) (fun _ _ _ v98 _ => 2 - (intOf v98).toNat)
    case atStart => exact ⟨0, rfl, Nat.zero_le _, Lib.hid ⟨0, rfl⟩⟩
    case round =>
      obtain ⟨j, rfl, hj, HQ⟩ := hrel
      by_cases hj2 : j < 2
      · have j1 : (j : Int) < 2 := by omega
        obtain ⟨oS, cS, nS, s, hcS, hnS, hS60, hSS, hSub⟩ := HTWO.out j hj2
        have cS0 : wr.cell? ⟨w9.heap.size, j, none⟩ = some (.slice oS nS cS) := by obtain ⟨q, rfl⟩ := HQ.out; exact hcS
        have HNS := Lib.hid hnS
        have HSS := Lib.hid hSS
        have HSub := Lib.hid hSub
        clear hcS hnS hSS hSub
        go_wp2
        go_loopw [21, 22] (fun v21 v22 wi => ∃ i k : Nat, v22 = .int .i64 i ∧ v21 = .int .i64 k ∧ i ≤ nS ∧ k ≤ na ∧ Hid ((s.drop i).Sublist (a.drop k)) ∧ Hid (∃ q, wi = wB.drewN q)) (fun _ v22 _ => nS - (intOf v22).toNat)
        case atStart => exact ⟨0, 0, rfl, rfl, Nat.zero_le _, Nat.zero_le _, Lib.hid (by rw [List.drop_zero, List.drop_zero]; exact HSub.out), HQ⟩
        case round =>
          clear HQ
          obtain ⟨i, k, rfl, rfl, hi', hk', HSb, HQ2⟩ := hrel
          by_cases hin : i < nS
          · have j2 : (i : Int) < nS := by omega
            obtain ⟨y', hy'⟩ := get_ltG HNS.out hin
            have HYD := Lib.hid (drop_atG hy')
            have HYI := Lib.hid hy'
            clear hy'
            go_wp2_with fail
            go_loopw [21] (fun v21 wi => ∃ k : Nat, v21 = .int .i64 k ∧ k ≤ na ∧ Hid ((s.drop i).Sublist (a.drop k)) ∧ Hid (∃ q, wi = wB.drewN q)) (fun v21 _ => na - (intOf v21).toNat)
            case atStart => exact ⟨k, rfl, hk', HSb, HQ2⟩
            case round =>
              clear HQ2 HSb hk'
              obtain ⟨k2, rfl, hk2, HSb2, HQ3⟩ := hrel
              by_cases hkn : k2 < na
              · have j3 : (k2 : Int) < na := by omega
                have j4 : ((k2 : Int) == na) = false := by rw [beq_eq_false_iff_ne]; omega
                obtain ⟨x', hx'⟩ := get_ltG HNA.out hkn
                obtain ⟨b1, off1, rfl, hR1⟩ := (HSAB.out.below frow (quietB HQ3.out)).at hx'
                obtain ⟨b2, off2, rfl, hR2⟩ := (HSS.out.below frow (quietB HQ3.out)).at HYI.out
                obtain ⟨o1, e1, c0, c1, hL1, l1'⟩ := row_at hR1 hx'
                obtain ⟨o2', e2, d0, d1, hL2, l2'⟩ := row_at hR2 HYI.out
                have hsb := HSb2.out
                rw [HYD.out, drop_atG hx'] at hsb
                have HST := Lib.hid (sub_step hsb)
                have HCL := Lib.hid (fun r => sameLabels_quiet o1 o2' e1 e2 x'.1 y'.1 (wr.drewN r) l1' l2' (hL1.sees.below (quietB ⟨r, rfl⟩)) (hL2.sees.below (quietB ⟨r, rfl⟩)))
                have HEq := Lib.hid (show x' = y' ↔ (x'.2 = y'.2 ∧ Go.Proofs.Ytiedhlcgdfdjhaa.sameL x'.1 y'.1 = true) from by
                  rw [sameL_iff]; exact ⟨fun e => by subst e; exact ⟨rfl, rfl⟩, fun ⟨h1, h2⟩ => Prod.ext h2 h1⟩)
                generalize x'.1.length = m1 at c0 HCL
                generalize y'.1.length = m2 at d0 HCL
                clear hR1 hR2 hL1 hL2 l1' l2' hx' hsb
                by_cases hv : x'.2 = y'.2
                · have t1 : (x'.2 != y'.2) = false := by rw [bne_eq_false_iff_eq]; exact hv
                  cases hsl : Go.Proofs.Ytiedhlcgdfdjhaa.sameL x'.1 y'.1 with
                  | true =>
                    rw [hsl] at HCL
                    have H2 := Lib.hid (HST.out.1 (HEq.out.2 ⟨hv, hsl⟩))
                    clear hv hsl
                    go_wp2_with fail
                    go_quiet (first | (go_at_call 15; exact Calls.quiet_of (HCL.out _)))
                    have HQ4 := Lib.hid (quietQ HQ3.out nq)
                    go_wp2
                    go_roundw
                    case rel => exact ⟨i + 1, k2 + 1, by go_num, by go_num, by omega, by omega, H2, HQ4⟩
                    case measure => simp [intOf]; omega
                  | false =>
                    rw [hsl] at HCL
                    have H2 := Lib.hid (show (s.drop i).Sublist (a.drop (k2 + 1)) by
                      rw [HYD.out]; exact HST.out.2 fun e => by have := (HEq.out.1 e).2; rw [hsl] at this; cases this)
                    clear hv hsl
                    go_wp2_with fail
                    go_quiet (first | (go_at_call 15; exact Calls.quiet_of (HCL.out _)))
                    have HQ4 := Lib.hid (quietQ HQ3.out nq)
                    go_wp2
                    go_roundw
                    case rel => exact ⟨k2 + 1, by go_num, by omega, H2, HQ4⟩
                    case measure => simp [intOf]; omega
                · have t1 : (x'.2 != y'.2) = true := by rw [bne_iff_ne]; exact hv
                  have H2 := Lib.hid (show (s.drop i).Sublist (a.drop (k2 + 1)) by
                    rw [HYD.out]; exact HST.out.2 fun e => hv (HEq.out.1 e).1)
                  clear hv
                  go_wp2_with fail
                  go_quiet (fail)
                  have HQ4 := Lib.hid (quietQ HQ3.out nq)
                  go_wp2
                  go_roundw
                  case rel => exact ⟨k2 + 1, by go_num, by omega, H2, HQ4⟩
                  case measure => simp [intOf]; omega
              · exact absurd HSb2.out (by
                  rw [HYD.out, List.drop_eq_nil_of_le (show a.length ≤ k2 by rw [HNA.out]; omega)]
                  intro h; cases h)
          · have j2 : ¬ (i : Int) < nS := by omega
            go_wp2
            go_roundw
            case rel => exact ⟨j + 1, by go_num, by omega, HQ2⟩
            case measure => simp [intOf]; omega
      · have j1 : ¬ (j : Int) < 2 := by omega
        go_wp2
        go_ret
        exact ⟨rfl, HBB.out.trans ((quietB HQ.out).mono HBB.out.size)⟩
end Go.Proofs.Ytiedhlcgdfdjhaa.Vec
