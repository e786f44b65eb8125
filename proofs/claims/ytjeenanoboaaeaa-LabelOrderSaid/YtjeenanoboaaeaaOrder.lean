/- The walk of the statement on the order of labels. -/
import Derived.Test.YtjeenanoboaaeaaTexts
import Derived.Deep.RegionLaw
namespace Go.Proofs.Ytjeenanoboaaeaa
open Go.RowKit

/-- An append onto a row of the call's own, in a region that draws its order. -/
theorem own_step {P : Program} {ops : Array Oper} {o : Oper} {a : Act} {w : World} {K : Act → World → Prop} {Q : Exit → Act → World → Prop} {E : Prop} (hg : o.guard = none) (s x : Operand) (t : TypeId)
    (ho : o.op = .call { callee := .builtin .append, args := #[s, x], argTypes := #[t, t] })
    (base : Nat) (e : TypeId) (i : TypeInfo) (z : Value) (size bytes : Nat) (ht : P.underlying t = some (.slice e)) (hi : P.info? e = some i) (hz : i.zero = some z)
    (hsize : i.size = size) (hby : i.bytes = bytes) (hzs : z.cells.size = size) (hsz : 0 < size)
    (v : Value) (n : Nat) (xs : List Value) (hs : a.eval s = v) (hown : w.ownsRow base e size v n xs)
    (ad : Addr) (m c : Nat) (news : List Value) (hx : a.eval x = .slice (some ad) m c) (hl : news.length = m * size) (hnews : ∀ j u, news[j]? = some u → w.cell? (ad.add j) = some u) (h1 : ∀ u ∈ news, u.oneCell' = true)
    (h63 : n + m ≤ maxLen) (hbytes : (n + m) * bytes ≤ 140737488355328) (hbase : base ≤ w.heap.size)
    (h : ∀ v' w', w'.ownsRow base e size v' (n + m) (xs ++ news) → w.grownBy w' v.ownBlock → K (a.put o.dst v') w') :
    if Region.wanted o (yielded ops a.tmps) = true then Oper.wp P o a w K Q else E := by
  rw [if_pos (by simp [Region.wanted, hg])]
  exact wp_append_own w s x t ho base e i z size bytes ht hi hz hsize hby hzs hsz v n xs hs hown ad m c news hx hl hnews h1 h63 hbytes hbase fun v' w' h2 h3 _ => h v' w' h2 h3
/-- The cells of labels that are read, as a source. -/
theorem sees_src {w : World} {b off : Nat} {xs : List Lab} (h : Sees w b off xs) (k m : Nat) (hk : k + m ≤ xs.length) : ∀ j u, (flatL ((xs.drop k).take m))[j]? = some u → w.cell? ((⟨b, off + k * 2, none⟩ : Addr).add j) = some u := by
  intro j u hj
  have hl : ((xs.drop k).take m).length = m := by rw [List.length_take, List.length_drop]; omega
  have hjl : j < m * 2 := by have := (List.getElem?_eq_some_iff.1 hj).1; rw [flatL_len, hl] at this; exact this
  have ha : (⟨b, off + k * 2, none⟩ : Addr).add j = ⟨b, off + k * 2 + j, none⟩ := by
    unfold Addr.add; split
    · next h => subst h; rfl
    · rfl
  rw [ha]
  obtain ⟨x, hx⟩ : ∃ x, xs[k + j / 2]? = some x := ⟨_, List.getElem?_eq_getElem (by omega)⟩
  have hx2 : ((xs.drop k).take m)[j / 2]? = some x := by rw [List.getElem?_take_of_lt (by omega), List.getElem?_drop]; exact hx
  have hf := flatL_at _ _ _ hx2
  rcases Nat.mod_two_eq_zero_or_one j with hm | hm
  · rw [show j = j / 2 * 2 by omega, hf.1] at hj
    have := h.at0 _ _ hx
    rw [show off + (k + j / 2) * 2 = off + k * 2 + j by omega] at this
    rw [this]; exact hj
  · rw [show j = j / 2 * 2 + 1 by omega, hf.2] at hj
    have := h.at1 _ _ hx
    rw [show off + (k + j / 2) * 2 + 1 = off + k * 2 + j by omega] at this
    rw [this]; exact hj
theorem rot_perm (xs : List Lab) (k : Nat) : (xs.drop k ++ xs.take k).Perm xs := (List.perm_append_comm).trans (by rw [List.take_append_drop])

set_option maxHeartbeats 16000000 in
set_option maxRecDepth 100000 in
theorem order_any (oa ob oc : Option Addr) (ca cb cc : Nat) (ax bx cx : List Lab) (turn : Int) (w : World) (ha : ax.length ≤ maxLen) (hb : bx.length ≤ maxLen) (hc : cx.length ≤ maxLen) (hcap : ax.length ≤ ca) (hSa : SeesO w oa ax) (hSb : SeesO w ob bx) (hSc : SeesO w oc cx) :
    Calls Try.prog 3 #[.slice oa ax.length ca, .slice ob bx.length cb, .slice oc cx.length cc, .int .i64 turn] w fun e w' => e = .returned (.bool true) ∧ Below w.heap.size w w' := by
  obtain ⟨i0, hi, hz0, hz1, hz2⟩ := info_parts info38
  have HAL := Lib.hid (fun W => alive_any W)
  have HLA := Lib.hid (fun W (h : Below w.heap.size w W) => light_any oa ca ax W ha (hSa.below h))
  have HLB := Lib.hid (fun W (h : Below w.heap.size w W) => light_any ob cb bx W hb (hSb.below h))
  have HLC := Lib.hid (fun W (h : Below w.heap.size w W) => light_any oc cc cx W hc (hSc.below h))
  obtain ⟨na, hna⟩ : ∃ n, ax.length = n := ⟨_, rfl⟩
  obtain ⟨nb, hnb⟩ : ∃ n, bx.length = n := ⟨_, rfl⟩
  obtain ⟨nc, hnc⟩ : ∃ n, cx.length = n := ⟨_, rfl⟩
  have HNA := Lib.hid hna
  have HNB := Lib.hid hnb
  have HNC := Lib.hid hnc
  rw [hna] at HLA hcap ⊢
  rw [hnb] at HLB ⊢
  rw [hnc] at HLC ⊢
  clear hna hnb hnc ha hb hc
  have HS0 := Lib.hid (And.intro hSa (And.intro hSb hSc))
  have HCAP := Lib.hid hcap
  clear hSa hSb hSc hcap
  cases hla : lightB ax with
  | false =>
    rw [hla] at HLA
    clear hla
    go_enter Try.func3, Try.ntmps3
    go_wp2_with fail
    refine (HLA.out _ (Below.refl _ _)).mono ?_
    rintro e w1 ⟨rfl, b1⟩
    have HB1 := Lib.hid (b1)
    clear b1
    go_wp2_with fail
    refine (HAL.out _).mono ?_
    rintro e w2 ⟨rfl, b2⟩
    go_wp2
    go_ret
    exact ⟨rfl, HB1.out.trans (b2.mono HB1.out.size)⟩
  | true =>
    rw [hla] at HLA
    obtain ⟨hal, has⟩ := light_sizes hla
    have HAS := Lib.hid has
    have a20 : na ≤ 20 := by rw [← HNA.out]; exact hal
    clear hla hal has
    cases hlb : lightB bx with
    | false =>
      rw [hlb] at HLB
      clear hlb
      go_enter Try.func3, Try.ntmps3
      go_wp2_with fail
      refine (HLA.out _ (Below.refl _ _)).mono ?_
      rintro e w1 ⟨rfl, b1⟩
      have HB1 := Lib.hid (b1)
      clear b1
      go_wp2_with fail
      refine (HLB.out _ HB1.out).mono ?_
      rintro e w2 ⟨rfl, b2⟩
      have HB2 := Lib.hid (HB1.out.trans (b2.mono HB1.out.size))
      clear b2
      go_wp2_with fail
      refine (HAL.out _).mono ?_
      rintro e w3 ⟨rfl, b3⟩
      go_wp2
      go_ret
      exact ⟨rfl, HB2.out.trans (b3.mono HB2.out.size)⟩
    | true =>
      rw [hlb] at HLB
      obtain ⟨hbl, _⟩ := light_sizes hlb
      have b20 : nb ≤ 20 := by rw [← HNB.out]; exact hbl
      clear hlb hbl
      cases hlc : lightB cx with
      | false =>
        rw [hlc] at HLC
        clear hlc
        go_enter Try.func3, Try.ntmps3
        go_wp2_with fail
        refine (HLA.out _ (Below.refl _ _)).mono ?_
        rintro e w1 ⟨rfl, b1⟩
        have HB1 := Lib.hid (b1)
        clear b1
        go_wp2_with fail
        refine (HLB.out _ HB1.out).mono ?_
        rintro e w2 ⟨rfl, b2⟩
        have HB2 := Lib.hid (HB1.out.trans (b2.mono HB1.out.size))
        clear b2
        go_wp2_with fail
        refine (HLC.out _ HB2.out).mono ?_
        rintro e w3 ⟨rfl, b3⟩
        have HB3 := Lib.hid (HB2.out.trans (b3.mono HB2.out.size))
        clear b3
        go_wp2_with fail
        refine (HAL.out _).mono ?_
        rintro e w4 ⟨rfl, b4⟩
        go_wp2
        go_ret
        exact ⟨rfl, HB3.out.trans (b4.mono HB3.out.size)⟩
      | true =>
        rw [hlc] at HLC
        obtain ⟨hcl, _⟩ := light_sizes hlc
        have c20 : nc ≤ 20 := by rw [← HNC.out]; exact hcl
        clear hlc hcl
        by_cases h0 : na = 0
        · have t0 : ((na : Int) == 0) = true := by rw [beq_iff_eq]; omega
          clear h0
          go_enter Try.func3, Try.ntmps3
          go_wp2_with fail
          refine (HLA.out _ (Below.refl _ _)).mono ?_
          rintro e w1 ⟨rfl, b1⟩
          have HB1 := Lib.hid (b1)
          clear b1
          go_wp2_with fail
          refine (HLB.out _ HB1.out).mono ?_
          rintro e w2 ⟨rfl, b2⟩
          have HB2 := Lib.hid (HB1.out.trans (b2.mono HB1.out.size))
          clear b2
          go_wp2_with fail
          refine (HLC.out _ HB2.out).mono ?_
          rintro e w3 ⟨rfl, b3⟩
          have HB3 := Lib.hid (HB2.out.trans (b3.mono HB2.out.size))
          clear b3
          go_wp2_with fail
          refine (HAL.out _).mono ?_
          rintro e w4 ⟨rfl, b4⟩
          go_wp2
          go_ret
          exact ⟨rfl, HB3.out.trans (b4.mono HB3.out.size)⟩
        · have t0 : ((na : Int) == 0) = false := by rw [beq_eq_false_iff_ne]; omega
          have p0 : (0 : Int) < na := by omega
          go_enter Try.func3, Try.ntmps3
          go_wp2_with fail
          refine (HLA.out _ (Below.refl _ _)).mono ?_
          rintro e w1 ⟨rfl, b1⟩
          have HB1 := Lib.hid (b1)
          clear b1
          go_wp2_with fail
          refine (HLB.out _ HB1.out).mono ?_
          rintro e w2 ⟨rfl, b2⟩
          have HB2 := Lib.hid (HB1.out.trans (b2.mono HB1.out.size))
          clear b2
          go_wp2_with fail
          refine (HLC.out _ HB2.out).mono ?_
          rintro e w3 ⟨rfl, b3⟩
          have HB3 := Lib.hid (HB2.out.trans (b3.mono HB2.out.size))
          clear b3
          go_wp2_with fail
          refine (HAL.out _).mono ?_
          rintro e w4 ⟨rfl, b4⟩
          have HB5 := Lib.hid (HB3.out.trans (b4.mono HB3.out.size))
          clear b4 HB3 HB2 HB1
          obtain ⟨k, hkn, hk⟩ : ∃ k : Nat, k < na ∧ (wrap64 (turn.tmod na + na)).tmod na = k := by
            have h1 := Int.emod_nonneg turn (show (na : Int) ≠ 0 by omega)
            have h2 : -(na : Int) < turn.tmod na ∧ turn.tmod na < na := by
              have e := Int.tmod_lt_of_pos turn p0
              have e2 : -(na : Int) < turn.tmod na := by
                rcases Int.le_total 0 turn with h | h
                · have := Int.tmod_nonneg (na : Int) h; omega
                · have e3 : turn.tmod na = -((-turn).tmod na) := by rw [Int.neg_tmod]; omega
                  have := Int.tmod_lt_of_pos (-turn) p0
                  omega
              exact ⟨e2, e⟩
            have h3 : wrap64 (turn.tmod na + na) = turn.tmod na + na := by unfold wrap64; omega
            rw [h3]
            have h4 := Int.tmod_nonneg (na : Int) (show 0 ≤ turn.tmod na + na by omega)
            have h5 := Int.tmod_lt_of_pos (turn.tmod na + na) p0
            exact ⟨((turn.tmod na + na).tmod na).toNat, by omega, by omega⟩
          have HK := Lib.hid hk
          clear hk
          obtain ⟨x0, hx0⟩ := get_lt HNA.out (show 0 < na by omega)
          obtain ⟨b, off, rfl, hsees⟩ := (HS0.out.1.below HB5.out).at hx0
          have HSE := Lib.hid hsees
          clear hsees hx0
          have q1 : (0 : Int) ≤ k := by omega
          have q2 : (k : Int) ≤ na := by omega
          have q3 : (na : Int) ≤ ca := by have := HCAP.out; omega
          have q4 : (k : Int) ≤ ca := by omega
          have q5 : ¬ ca = k := by omega
          have SRC1 := Lib.hid (sees_src HSE.out k (na - k) (by rw [HNA.out]; omega))
          have SRC2 := Lib.hid (show ∀ j u, (flatL (ax.take k))[j]? = some u → w4.cell? ((⟨b, off, none⟩ : Addr).add j) = some u by
            have := sees_src HSE.out 0 k (by rw [HNA.out]; omega)
            rw [Nat.zero_mul, Nat.add_zero, List.drop_zero] at this
            exact this)
          have L1 := Lib.hid (show (flatL ((ax.drop k).take (na - k))).length = (na - k) * 2 by rw [flatL_len, List.length_take, List.length_drop, HNA.out]; congr 1; omega)
          have L2 := Lib.hid (show (flatL (ax.take k)).length = k * 2 by rw [flatL_len, List.length_take, HNA.out]; congr 1; omega)
          have hlow := Lib.hid HSE.out.low
          go_wp2_with fail
          rw [HK.out]
          go_region_law (first
            | (refine own_step rfl (.const (.slice none 0 0)) (.tmp 50) 22 rfl w4.heap.size 38 i0 (.agg #[.string ⟨#[]⟩, .string ⟨#[]⟩]) 2 32 Try.underlying22 hi hz0 hz1 hz2 rfl (by decide) (.slice none 0 0) 0 [] rfl (World.ownsRow_nil _ _ _ _) ⟨b, off + k * 2, none⟩ (na - k) (ca - k) (flatL ((ax.drop k).take (na - k))) rfl L1.out (fun j u hj => SRC1.out j u hj) (flat_cells _) (by unfold maxLen; omega) (by omega) (Nat.le_refl _) ?_
               intro v5 w5 ho5 hg5
               have HO5 := Lib.hid ho5
               have HG5 := Lib.hid (show Below w4.heap.size w4.drew w5 from ⟨hg5.os, hg5.tape, hg5.output, hg5.size, fun j hj => hg5.block j hj (by simp [Value.ownBlock])⟩)
               clear ho5 hg5)
            | (refine own_step rfl (.tmp 51) (.tmp 54) 22 rfl w4.heap.size 38 i0 (.agg #[.string ⟨#[]⟩, .string ⟨#[]⟩]) 2 32 Try.underlying22 hi hz0 hz1 hz2 rfl (by decide) v5 _ _ rfl HO5.out ⟨b, off, none⟩ k ca (flatL (ax.take k)) rfl L2.out (fun j u hj => (HG5.out.cell (p := (⟨b, off, none⟩ : Addr).add j) (by unfold Addr.add; split <;> exact hlow.out)).trans (SRC2.out j u hj)) (flat_cells _) (by unfold maxLen; omega) (by omega) HG5.out.size ?_
               intro v6 w6 ho6 hg6))
          obtain ⟨R, hR⟩ : ∃ R, ax.drop k ++ ax.take k = R := ⟨_, rfl⟩
          have hRp : R.Perm ax := by rw [← hR]; exact rot_perm ax k
          have hRl : R.length = na := by rw [hRp.length_eq]; exact HNA.out
          have hRs : ∀ x ∈ R, x.1.size ≤ 200 ∧ x.2.size ≤ 200 := fun x hx => HAS.out x (hRp.mem_iff.1 hx)
          have ho7 : w6.ownsRow w4.heap.size 38 2 v6 R.length (flatL R) := by
            have hd : (ax.drop k).take (na - k) = ax.drop k := List.take_of_length_le (by rw [List.length_drop, HNA.out]; exact Nat.le_refl _)
            have := ho6
            rw [hd, List.nil_append, ← flatL_app, hR, show 0 + (na - k) + k = R.length by rw [hRl]; omega] at this
            exact this
          have h46 : Below w4.heap.size w4 w6 := Below.grown ((Below.refl _ _).drew.trans HG5.out) hg6 HG5.out.size (fun j hj => (HO5.out.lt j hj).1)
          have HB6 := Lib.hid (HB5.out.trans (h46.mono HB5.out.size))
          obtain ⟨oR, cR, rfl, hsR, _⟩ := own_sees ho7
          rw [hRl]
          have HR6 := Lib.hid hsR
          have hsrt := sorted_right (s := sortL R) (xs := ax) ((sortL_perm R).trans hRp) (sortL_sorted R)
          have HSRT := Lib.hid (show tidyB R = tidyB ax ∧ (tidyB R = true → sortL R = sortL ax) from ⟨hsrt.2, hsrt.1⟩)
          have HTA := Lib.hid (fun (W : World) (h : Below w.heap.size w W) => tidy_any (some ⟨b, off, none⟩) ca ax W (by rw [HNA.out]; omega) (HS0.out.1.below h) (small_sizes HAS.out))
          have HTR := Lib.hid (fun (W : World) (h : SeesO W oR R) => tidy_any oR cR R W (by rw [hRl]; omega) h (small_sizes hRs))
          rw [HNA.out] at HTA
          rw [hRl] at HTR
          have HRL := Lib.hid (show (sortL ax).length = na by rw [(sortL_perm ax).length_eq]; exact HNA.out)
          clear hR hRp hRl hRs ho7 ho6 hg6 h46 hsR hsrt SRC1 SRC2 L1 L2 hlow HO5 HG5 HK HB5
          go_wp2_with fail
          refine (HTA.out _ HB6.out).mono ?_
          rintro e w7 ⟨hta, b7⟩
          have HB7 := Lib.hid (HB6.out.trans (b7.mono HB6.out.size))
          have HR7 := Lib.hid (HR6.out.below b7)
          clear b7 HB6 HR6
          rcases hta with ⟨hta, vx, rfl, hox⟩ | ⟨hta, rfl⟩
          · obtain ⟨ox, cxx, rfl, hsx, _⟩ := own_sees hox
            rw [HRL.out]
            have HX7 := Lib.hid hsx
            have HTT := Lib.hid hta
            clear hox hsx hta
            go_wp2_with fail
            refine (HTR.out _ HR7.out).mono ?_
            rintro e w8 ⟨htr8, b8⟩
            have HB8 := Lib.hid (HB7.out.trans (b8.mono HB7.out.size))
            have HX8 := Lib.hid (HX7.out.below b8)
            clear b8 HB7 HR7 HX7
            rcases htr8 with ⟨htr8, vy, rfl, hoy⟩ | ⟨hbad, _⟩
            case inr => exact absurd (HSRT.out.1.trans HTT.out) (by rw [hbad]; decide)
            rw [HSRT.out.2 htr8] at hoy
            obtain ⟨oy, cyy, rfl, hsy, _⟩ := own_sees hoy
            rw [HRL.out]
            have hsl := sameLabels_sees ox oy cxx cyy na na (sortL ax) (sortL ax) w8 HRL.out HRL.out (by omega) (by omega) HX8.out hsy
            rw [sameL_refl] at hsl
            have HSL := Lib.hid hsl
            clear hsl htr8 hoy hsy
            go_wp2_with fail
            refine HSL.out.mono ?_
            rintro e w9 ⟨rfl, b9⟩
            have HB9 := Lib.hid (HB8.out.trans (b9.mono HB8.out.size))
            clear b9 HB8 HX8 HSL HTA HTR
            have HCA := Lib.hid (fun (W : World) (h : Below w.heap.size w W) => compare_any (some ⟨b, off, none⟩) ob ca cb ax bx W (by rw [HNA.out]; unfold maxLen; omega) (by rw [HNB.out]; unfold maxLen; omega) (HS0.out.1.below h) (HS0.out.2.1.below h))
            have HCB := Lib.hid (fun (W : World) (h : Below w.heap.size w W) => compare_any ob oc cb cc bx cx W (by rw [HNB.out]; unfold maxLen; omega) (by rw [HNC.out]; unfold maxLen; omega) (HS0.out.2.1.below h) (HS0.out.2.2.below h))
            have HCC := Lib.hid (fun (W : World) (h : Below w.heap.size w W) => compare_any (some ⟨b, off, none⟩) oc ca cc ax cx W (by rw [HNA.out]; unfold maxLen; omega) (by rw [HNC.out]; unfold maxLen; omega) (HS0.out.1.below h) (HS0.out.2.2.below h))
            have HSB := Lib.hid (fun (W : World) (h : Below w.heap.size w W) => sameLabels_sees ob oc cb cc nb nc bx cx W HNB.out HNC.out (by omega) (by omega) (HS0.out.2.1.below h) (HS0.out.2.2.below h))
            rw [HNA.out, HNB.out] at HCA
            rw [HNB.out, HNC.out] at HCB
            rw [HNA.out, HNC.out] at HCC
            have htr := cmpL_trans ax bx cx
            have hcs := cmp_same bx cx
            obtain ⟨c1, e1⟩ : ∃ c, cmpL ax bx = c := ⟨_, rfl⟩
            obtain ⟨c2, e2⟩ : ∃ c, cmpL bx cx = c := ⟨_, rfl⟩
            obtain ⟨c3, e3⟩ : ∃ c, cmpL ax cx = c := ⟨_, rfl⟩
            obtain ⟨sb, e4⟩ : ∃ c, sameL bx cx = c := ⟨_, rfl⟩
            rw [e1] at HCA htr
            rw [e2] at HCB htr hcs
            rw [e3] at HCC htr
            rw [e4] at HSB hcs
            clear e1 e2 e3 e4
            by_cases k1 : c1 ≤ 0
            · have u1 : decide (c1 ≤ 0) = true := by simpa using k1
              by_cases k2 : c2 ≤ 0
              · have u2 : decide (c2 ≤ 0) = true := by simpa using k2
                have k3 := htr k1 k2
                have u3 : decide (0 < c3) = false := by simp; omega
                clear htr
                go_wp2_with fail
                refine (HCA.out _ HB9.out).mono ?_
                rintro e w10 ⟨rfl, b10⟩
                have HB10 := Lib.hid (HB9.out.trans (b10.mono HB9.out.size))
                clear b10
                go_wp2_with fail
                refine (HCB.out _ HB10.out).mono ?_
                rintro e w11 ⟨rfl, b11⟩
                have HB11 := Lib.hid (HB10.out.trans (b11.mono HB10.out.size))
                clear b11
                go_wp2_with fail
                refine (HCC.out _ HB11.out).mono ?_
                rintro e w12 ⟨rfl, b12⟩
                have HB12 := Lib.hid (HB11.out.trans (b12.mono HB11.out.size))
                clear b12
                go_wp2_with fail
                refine (HCB.out _ HB12.out).mono ?_
                rintro e w13 ⟨rfl, b13⟩
                have HB13 := Lib.hid (HB12.out.trans (b13.mono HB12.out.size))
                clear b13
                go_wp2_with fail
                refine (HSB.out _ HB13.out).mono ?_
                rintro e w14 ⟨rfl, b14⟩
                go_wp2
                go_ret
                exact ⟨rfl, HB13.out.trans (b14.mono HB13.out.size)⟩
              · have u2 : decide (c2 ≤ 0) = false := by simpa using k2
                have k3 : 0 < c2 := by omega
                clear htr
                go_wp2_with fail
                refine (HCA.out _ HB9.out).mono ?_
                rintro e w10 ⟨rfl, b10⟩
                have HB10 := Lib.hid (HB9.out.trans (b10.mono HB9.out.size))
                clear b10
                go_wp2_with fail
                refine (HCB.out _ HB10.out).mono ?_
                rintro e w11 ⟨rfl, b11⟩
                have HB11 := Lib.hid (HB10.out.trans (b11.mono HB10.out.size))
                clear b11
                go_wp2_with fail
                refine (HCB.out _ HB11.out).mono ?_
                rintro e w13 ⟨rfl, b13⟩
                have HB13 := Lib.hid (HB11.out.trans (b13.mono HB11.out.size))
                clear b13
                go_wp2_with fail
                refine (HSB.out _ HB13.out).mono ?_
                rintro e w14 ⟨rfl, b14⟩
                go_wp2
                go_ret
                exact ⟨rfl, HB13.out.trans (b14.mono HB13.out.size)⟩
            · have u1 : decide (c1 ≤ 0) = false := by simpa using k1
              have k3 : 0 < c1 := by omega
              clear htr
              go_wp2_with fail
              refine (HCA.out _ HB9.out).mono ?_
              rintro e w10 ⟨rfl, b10⟩
              have HB10 := Lib.hid (HB9.out.trans (b10.mono HB9.out.size))
              clear b10
              go_wp2_with fail
              refine (HCB.out _ HB10.out).mono ?_
              rintro e w13 ⟨rfl, b13⟩
              have HB13 := Lib.hid (HB10.out.trans (b13.mono HB10.out.size))
              clear b13
              go_wp2_with fail
              refine (HSB.out _ HB13.out).mono ?_
              rintro e w14 ⟨rfl, b14⟩
              go_wp2
              go_ret
              exact ⟨rfl, HB13.out.trans (b14.mono HB13.out.size)⟩
          · have HTT := Lib.hid hta
            clear hta
            go_wp2_with fail
            refine (HTR.out _ HR7.out).mono ?_
            rintro e w8 ⟨htr8, b8⟩
            have HB8 := Lib.hid (HB7.out.trans (b8.mono HB7.out.size))
            clear b8 HB7 HR7
            rcases htr8 with ⟨hgood, _⟩ | ⟨_, rfl⟩
            case inl => exact absurd (HSRT.out.1.symm.trans hgood) (by rw [HTT.out]; decide)
            have hsl := sameLabels_sees none none 0 0 0 0 [] [] w8 rfl rfl (by omega) (by omega) (.inl rfl) (.inl rfl)
            rw [sameL_refl] at hsl
            have HSL := Lib.hid hsl
            clear hsl
            go_wp2_with fail
            refine HSL.out.mono ?_
            rintro e w9 ⟨rfl, b9⟩
            have HB9 := Lib.hid (HB8.out.trans (b9.mono HB8.out.size))
            clear b9 HB8 HSL HTA HTR
            have HCA := Lib.hid (fun (W : World) (h : Below w.heap.size w W) => compare_any (some ⟨b, off, none⟩) ob ca cb ax bx W (by rw [HNA.out]; unfold maxLen; omega) (by rw [HNB.out]; unfold maxLen; omega) (HS0.out.1.below h) (HS0.out.2.1.below h))
            have HCB := Lib.hid (fun (W : World) (h : Below w.heap.size w W) => compare_any ob oc cb cc bx cx W (by rw [HNB.out]; unfold maxLen; omega) (by rw [HNC.out]; unfold maxLen; omega) (HS0.out.2.1.below h) (HS0.out.2.2.below h))
            have HCC := Lib.hid (fun (W : World) (h : Below w.heap.size w W) => compare_any (some ⟨b, off, none⟩) oc ca cc ax cx W (by rw [HNA.out]; unfold maxLen; omega) (by rw [HNC.out]; unfold maxLen; omega) (HS0.out.1.below h) (HS0.out.2.2.below h))
            have HSB := Lib.hid (fun (W : World) (h : Below w.heap.size w W) => sameLabels_sees ob oc cb cc nb nc bx cx W HNB.out HNC.out (by omega) (by omega) (HS0.out.2.1.below h) (HS0.out.2.2.below h))
            rw [HNA.out, HNB.out] at HCA
            rw [HNB.out, HNC.out] at HCB
            rw [HNA.out, HNC.out] at HCC
            have htr := cmpL_trans ax bx cx
            have hcs := cmp_same bx cx
            obtain ⟨c1, e1⟩ : ∃ c, cmpL ax bx = c := ⟨_, rfl⟩
            obtain ⟨c2, e2⟩ : ∃ c, cmpL bx cx = c := ⟨_, rfl⟩
            obtain ⟨c3, e3⟩ : ∃ c, cmpL ax cx = c := ⟨_, rfl⟩
            obtain ⟨sb, e4⟩ : ∃ c, sameL bx cx = c := ⟨_, rfl⟩
            rw [e1] at HCA htr
            rw [e2] at HCB htr hcs
            rw [e3] at HCC htr
            rw [e4] at HSB hcs
            clear e1 e2 e3 e4
            by_cases k1 : c1 ≤ 0
            · have u1 : decide (c1 ≤ 0) = true := by simpa using k1
              by_cases k2 : c2 ≤ 0
              · have u2 : decide (c2 ≤ 0) = true := by simpa using k2
                have k3 := htr k1 k2
                have u3 : decide (0 < c3) = false := by simp; omega
                clear htr
                go_wp2_with fail
                refine (HCA.out _ HB9.out).mono ?_
                rintro e w10 ⟨rfl, b10⟩
                have HB10 := Lib.hid (HB9.out.trans (b10.mono HB9.out.size))
                clear b10
                go_wp2_with fail
                refine (HCB.out _ HB10.out).mono ?_
                rintro e w11 ⟨rfl, b11⟩
                have HB11 := Lib.hid (HB10.out.trans (b11.mono HB10.out.size))
                clear b11
                go_wp2_with fail
                refine (HCC.out _ HB11.out).mono ?_
                rintro e w12 ⟨rfl, b12⟩
                have HB12 := Lib.hid (HB11.out.trans (b12.mono HB11.out.size))
                clear b12
                go_wp2_with fail
                refine (HCB.out _ HB12.out).mono ?_
                rintro e w13 ⟨rfl, b13⟩
                have HB13 := Lib.hid (HB12.out.trans (b13.mono HB12.out.size))
                clear b13
                go_wp2_with fail
                refine (HSB.out _ HB13.out).mono ?_
                rintro e w14 ⟨rfl, b14⟩
                go_wp2
                go_ret
                exact ⟨rfl, HB13.out.trans (b14.mono HB13.out.size)⟩
              · have u2 : decide (c2 ≤ 0) = false := by simpa using k2
                have k3 : 0 < c2 := by omega
                clear htr
                go_wp2_with fail
                refine (HCA.out _ HB9.out).mono ?_
                rintro e w10 ⟨rfl, b10⟩
                have HB10 := Lib.hid (HB9.out.trans (b10.mono HB9.out.size))
                clear b10
                go_wp2_with fail
                refine (HCB.out _ HB10.out).mono ?_
                rintro e w11 ⟨rfl, b11⟩
                have HB11 := Lib.hid (HB10.out.trans (b11.mono HB10.out.size))
                clear b11
                go_wp2_with fail
                refine (HCB.out _ HB11.out).mono ?_
                rintro e w13 ⟨rfl, b13⟩
                have HB13 := Lib.hid (HB11.out.trans (b13.mono HB11.out.size))
                clear b13
                go_wp2_with fail
                refine (HSB.out _ HB13.out).mono ?_
                rintro e w14 ⟨rfl, b14⟩
                go_wp2
                go_ret
                exact ⟨rfl, HB13.out.trans (b14.mono HB13.out.size)⟩
            · have u1 : decide (c1 ≤ 0) = false := by simpa using k1
              have k3 : 0 < c1 := by omega
              clear htr
              go_wp2_with fail
              refine (HCA.out _ HB9.out).mono ?_
              rintro e w10 ⟨rfl, b10⟩
              have HB10 := Lib.hid (HB9.out.trans (b10.mono HB9.out.size))
              clear b10
              go_wp2_with fail
              refine (HCB.out _ HB10.out).mono ?_
              rintro e w13 ⟨rfl, b13⟩
              have HB13 := Lib.hid (HB10.out.trans (b13.mono HB10.out.size))
              clear b13
              go_wp2_with fail
              refine (HSB.out _ HB13.out).mono ?_
              rintro e w14 ⟨rfl, b14⟩
              go_wp2
              go_ret
              exact ⟨rfl, HB13.out.trans (b14.mono HB13.out.size)⟩
end Go.Proofs.Ytjeenanoboaaeaa
