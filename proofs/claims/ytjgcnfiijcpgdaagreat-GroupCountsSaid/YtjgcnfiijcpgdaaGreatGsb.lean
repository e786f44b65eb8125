/- Groups: the walk of the statement on ranks. -/
import Derived.Test.YtjgcnfiijcpgdaaGreatGsa
import Derived.Test.YtjgcnfiijcpgdaaGreatGro
import Derived.Test.YtjgcnfiijcpgdaaGreatGrq
namespace Go.Proofs.YtjgcnfiijcpgdaaGreat.Grp
open Go.RowKit Go.Lib Go.Sort Vec Fix

theorem small_right {xs : List Rw} (h : rightR xs = true) : SmR xs := fun x hx => right_small ((right_fit h).2.1 x hx).1
theorem vals_any (name : ByteArray) (n mode : Int) (on o : Option Addr) (nn cn nx c : Nat) (ns : List ByteArray) (xs : List Rw) (w : World) (a : Nat × Int) (ha : aggF name n = some a) (hk : a.1 = 2 ∨ a.1 = 3 ∨ a.1 = 4 ∨ a.1 = 5) (hnn : ns.length = nn) (hn : xs.length = nx) (hr : rightR xs = true) (hmn : nn ≤ maxLen) (hm : nx ≤ 1000) (hS : RowsS w 0 o xs) (hN : SeesN w on ns) :
    Calls Tryz.prog 31 #[.string name, .int .i64 n, .int .i64 mode, .slice on nn cn, .slice o nx c] w fun e w' => (∃ v us, e = .returned (.tuple #[v, .int .i64 0]) ∧ OwnR w' w.heap.size v us (valsOf a (splitR mode ns xs))) ∧ Below w.heap.size w w' := by
  have h0 : ∀ g ∈ splitR mode ns xs, (numF a (nums g.2)).2 = 0 := fun g _ => num_plain hk _
  refine (do_ok name n mode on o nn cn nx c ns xs w a ha (fun g hg => reck_none (h0 g hg)) hnn hn hr (small_right hr) hmn hm 0 (Nat.zero_le _) hS hN).mono ?_
  rintro e w' ⟨⟨v, us, s, rfl, ho, hp, hs⟩, hb⟩
  rw [rows_vals (by rcases hk with h | h | h | h <;> omega) h0] at hp
  have hv := vals_rise a mode ns xs
  obtain rfl : valsOf a (splitR mode ns xs) = s := sorted_sameR hp.symm (rises_sorted hv) hs hv
  exact ⟨⟨v, us, rfl, ho⟩, hb⟩
theorem vals_none (name : ByteArray) (n mode : Int) (on o : Option Addr) (nn cn nx c : Nat) (ns : List ByteArray) (xs : List Rw) (w : World) (a : Nat × Int) (ha : aggF name n = some a) (hk : a.1 = 2 ∨ a.1 = 3 ∨ a.1 = 4 ∨ a.1 = 5) (hnn : ns.length = nn) (hn : xs.length = nx) (hr : rightR xs = true) (hmn : nn ≤ maxLen) (hm : nx ≤ 1000) (hS : RowsS w 0 o xs) (hN : SeesN w on ns) (l : List Rw) (hl : valsOf a (splitR mode ns xs) = l) (m : Nat) (hlm : l.length = m) :
    Calls Tryz.prog 31 #[.string name, .int .i64 n, .int .i64 mode, .slice on nn cn, .slice o nx c] w fun e w' => (∃ o' c', e = .returned (.tuple #[.slice o' m c', .int .i64 0]) ∧ RowsS w' 0 o' l) ∧ Below w.heap.size w w' := by
  subst hl hlm
  refine (vals_any name n mode on o nn cn nx c ns xs w a ha hk hnn hn hr hmn hm hS hN).mono ?_
  rintro e w' ⟨⟨v, us, rfl, ho⟩, hb⟩
  obtain ⟨o', c', rfl, hs, _⟩ := ho.sees (frow (B := 0))
  exact ⟨⟨o', c', rfl, hs⟩, hb⟩

set_option maxHeartbeats 16000000 in
set_option maxRecDepth 100000 in
theorem quants_any (p q mode : Int) (on o : Option Addr) (nn cn n c : Nat) (ns : List ByteArray) (xs : List Rw) (w : World) (hn : xs.length = n) (hnn : ns.length = nn) (hS : RowsS w w.heap.size o xs) (hN : SeesN w on ns) :
    Calls Tryz.prog 8 #[.int .i64 p, .int .i64 q, .int .i64 mode, .slice on nn cn, .slice o n c] w fun e w' => e = .returned (.bool true) ∧ Below w.heap.size w w' := by
  have HAl := Lib.hid (fun W => alive_any W)
  have HLt := Lib.hid (lightR_any o n c xs w _ hn hS)
  cases hl : lightR xs with
  | false =>
    rw [hl] at HLt
    clear hl hS hN
    go_enter Tryz.func8, Tryz.ntmps8
    go_wp2_with fail
    refine HLt.out.mono ?_
    rintro e w1 ⟨rfl, b1⟩
    go_wp2_with fail
    refine (HAl.out _).mono ?_
    rintro e w2 ⟨rfl, b2⟩
    go_wp2
    go_ret
    exact ⟨rfl, b1.trans (b2.mono b1.size)⟩
  | true =>
  obtain ⟨h60, hsm⟩ := lightR_mk hl
  rw [hl] at HLt
  by_cases g1 : 10 < nn
  · have i1 : (10 : Int) < nn := by omega
    clear hl hS hN
    go_enter Tryz.func8, Tryz.ntmps8
    go_wp2_with fail
    refine HLt.out.mono ?_
    rintro e w1 ⟨rfl, b1⟩
    go_wp2_with fail
    refine (HAl.out _).mono ?_
    rintro e w2 ⟨rfl, b2⟩
    go_wp2
    go_ret
    exact ⟨rfl, b1.trans (b2.mono b1.size)⟩
  have i1 : ¬ (10 : Int) < nn := by omega
  by_cases g2 : p < 0
  · clear hl hS hN
    go_enter Tryz.func8, Tryz.ntmps8
    go_wp2_with fail
    refine HLt.out.mono ?_
    rintro e w1 ⟨rfl, b1⟩
    go_wp2_with fail
    refine (HAl.out _).mono ?_
    rintro e w2 ⟨rfl, b2⟩
    go_wp2
    go_ret
    exact ⟨rfl, b1.trans (b2.mono b1.size)⟩
  by_cases g3 : q < p
  · clear hl hS hN
    go_enter Tryz.func8, Tryz.ntmps8
    go_wp2_with fail
    refine HLt.out.mono ?_
    rintro e w1 ⟨rfl, b1⟩
    go_wp2_with fail
    refine (HAl.out _).mono ?_
    rintro e w2 ⟨rfl, b2⟩
    go_wp2
    go_ret
    exact ⟨rfl, b1.trans (b2.mono b1.size)⟩
  by_cases g4 : 100 < q
  · clear hl hS hN
    go_enter Tryz.func8, Tryz.ntmps8
    go_wp2_with fail
    refine HLt.out.mono ?_
    rintro e w1 ⟨rfl, b1⟩
    go_wp2_with fail
    refine (HAl.out _).mono ?_
    rintro e w2 ⟨rfl, b2⟩
    go_wp2
    go_ret
    exact ⟨rfl, b1.trans (b2.mono b1.size)⟩
  have har := vecT_right xs
  have hal : (vecT xs).length ≤ 60 := Nat.le_trans (vecT_len xs) h60
  have HTa := Lib.hid (fun W (hb : Below w.heap.size w W) => ltidy_any o n c xs W _ hn (by omega) hsm (hS.below frow hb))
  obtain ⟨a, ha⟩ : ∃ a, vecT xs = a := ⟨_, rfl⟩
  rw [ha] at har hal HTa
  obtain ⟨na, hna⟩ : ∃ na, a.length = na := ⟨_, rfl⟩
  have hna60 : na ≤ 60 := by rw [← hna]; exact hal
  have HNA := Lib.hid hna
  obtain ⟨ng, hng⟩ : ∃ ng, (splitR mode ns a).length = ng := ⟨_, rfl⟩
  have hng60 : ng ≤ 60 := by rw [← hng]; exact Nat.le_trans (split_len mode ns a) hal
  obtain ⟨x, hx⟩ : ∃ x, valsOf (5, p) (splitR mode ns a) = x := ⟨_, rfl⟩
  obtain ⟨y, hy⟩ : ∃ y, valsOf (5, q) (splitR mode ns a) = y := ⟨_, rfl⟩
  obtain ⟨l, hl1⟩ : ∃ l, valsOf (5, 0) (splitR mode ns a) = l := ⟨_, rfl⟩
  obtain ⟨h, hh1⟩ : ∃ h, valsOf (5, 100) (splitR mode ns a) = h := ⟨_, rfl⟩
  have hl2 : valsOf (2, 0) (splitR mode ns a) = l := by rw [← vals_low]; exact hl1
  have hh2 : valsOf (3, 0) (splitR mode ns a) = h := by rw [← vals_high]; exact hh1
  have hxn : x.length = ng := by rw [← hx, vals_len]; exact hng
  have hyn : y.length = ng := by rw [← hy, vals_len]; exact hng
  have hln : l.length = ng := by rw [← hl1, vals_len]; exact hng
  have hhn : h.length = ng := by rw [← hh1, vals_len]; exact hng
  have HXN := Lib.hid hxn
  have HYN := Lib.hid hyn
  have HMo := Lib.hid (fun (k : Nat) (u v : Rw) (hu : x[k]? = some u) (hv : y[k]? = some v) => (show u.2 ≤ v.2 ∧ u.1 = v.1 from by
    rw [← hx] at hu; rw [← hy] at hv
    exact vals_mono (by omega) (by omega) (by omega) hu hv))
  have HGo := Lib.hid (fun (name : ByteArray) (k : Int) (b : Nat × Int) (hb : aggF name k = some b) (hk : b.1 = 2 ∨ b.1 = 3 ∨ b.1 = 4 ∨ b.1 = 5) (r : List Rw) (hr : valsOf b (splitR mode ns a) = r) (hrn : r.length = ng) (W : World) o c (hbw : Below w.heap.size w W) (s : RowsS W 0 o a) =>
    vals_none name k mode on o nn cn na c ns a W b hb hk hnn hna har (by unfold maxLen; omega) (by omega) s (hN.below hbw) r hr ng hrn)
  have HDx := Lib.hid (HGo.out _ p _ (agg_rank (by omega)) (.inr (.inr (.inr rfl))) x hx hxn)
  have HDy := Lib.hid (HGo.out _ q _ (agg_rank (by omega)) (.inr (.inr (.inr rfl))) y hy hyn)
  have HDl := Lib.hid (HGo.out _ 0 _ (agg_rank (by decide)) (.inr (.inr (.inr rfl))) l hl1 hln)
  have HDh := Lib.hid (HGo.out _ 100 _ (agg_rank (by decide)) (.inr (.inr (.inr rfl))) h hh1 hhn)
  have HDm := Lib.hid (HGo.out _ 0 _ (agg_min 0) (.inl rfl) l hl2 hln)
  have HDt := Lib.hid (HGo.out _ 0 _ (agg_max 0) (.inr (.inl rfl)) h hh2 hhn)
  have HSame := Lib.hid (fun (W : World) o1 o2 c1 c2 (r : List Rw) (hr : r.length = ng) (s1 : RowsS W 0 o1 r) (s2 : RowsS W 0 o2 r) => (show Calls Tryz.prog 22 #[.slice o1 ng c1, .slice o2 ng c2] W fun e w' => e = .returned (.bool true) ∧ Below W.heap.size W w' from by
    subst hr
    have := sameRows_any o1 o2 c1 c2 r r W (by unfold maxLen; omega) (by unfold maxLen; omega) 0 s1 s2
    rw [sameR_refl] at this; exact this))
  have HLN := Lib.hid hln
  have HHN := Lib.hid hhn
  clear hl hS hN har hal ha hna hsm HGo hx hy hl1 hh1 hl2 hh2 hxn hyn hln hhn hng hnn
  go_enter Tryz.func8, Tryz.ntmps8
  go_wp2_with fail
  refine HLt.out.mono ?_
  rintro e w1 ⟨rfl, b1⟩
  go_wp2_with fail
  refine (HAl.out _).mono ?_
  rintro e w2 ⟨rfl, b2⟩
  have b12 := b1.trans (b2.mono b1.size)
  clear b1 b2
  go_wp2_with fail
  refine (HTa.out _ b12).mono ?_
  rintro e w3 ⟨⟨va, usa, rfl, hoa⟩, b3⟩
  obtain ⟨oA, cA, rfl, hsA, _⟩ := hoa.sees frow
  rw [HNA.out]
  have HB3 := Lib.hid (b12.trans (b3.mono b12.size))
  have HSA := Lib.hid hsA
  clear b12 b3 hoa hsA HLt HAl HTa
  go_wp2_with fail
  refine (HDx.out w3 oA cA HB3.out HSA.out).mono ?_
  rintro e w4 ⟨⟨oX, cX, rfl, hsX⟩, b4⟩
  have HSA4 := Lib.hid (HSA.out.below frow b4)
  have HX4 := Lib.hid hsX
  have HB4 := Lib.hid (HB3.out.trans (b4.mono HB3.out.size))
  clear hsX b4 HSA HB3 HDx
  go_wp2_with fail
  refine (HDy.out w4 oA cA HB4.out HSA4.out).mono ?_
  rintro e w5 ⟨⟨oY, cY, rfl, hsY⟩, b5⟩
  have HSA5 := Lib.hid (HSA4.out.below frow b5)
  have HX5 := Lib.hid (HX4.out.below frow b5)
  have HY5 := Lib.hid hsY
  have HB5 := Lib.hid (HB4.out.trans (b5.mono HB4.out.size))
  clear hsY b5 HSA4 HB4 HX4 HDy
  go_wp2_with fail
  refine (HDl.out w5 oA cA HB5.out HSA5.out).mono ?_
  rintro e w6 ⟨⟨oL, cL, rfl, hsL⟩, b6⟩
  have HSA6 := Lib.hid (HSA5.out.below frow b6)
  have HX6 := Lib.hid (HX5.out.below frow b6)
  have HY6 := Lib.hid (HY5.out.below frow b6)
  have HL6 := Lib.hid hsL
  have HB6 := Lib.hid (HB5.out.trans (b6.mono HB5.out.size))
  clear hsL b6 HSA5 HB5 HX5 HY5 HDl
  go_wp2_with fail
  refine (HDh.out w6 oA cA HB6.out HSA6.out).mono ?_
  rintro e w7 ⟨⟨oH, cH, rfl, hsH⟩, b7⟩
  have HSA7 := Lib.hid (HSA6.out.below frow b7)
  have HX7 := Lib.hid (HX6.out.below frow b7)
  have HY7 := Lib.hid (HY6.out.below frow b7)
  have HL7 := Lib.hid (HL6.out.below frow b7)
  have HH7 := Lib.hid hsH
  have HB7 := Lib.hid (HB6.out.trans (b7.mono HB6.out.size))
  clear hsH b7 HSA6 HB6 HX6 HY6 HL6 HDh
  go_wp2_with fail
  refine (HDm.out w7 oA cA HB7.out HSA7.out).mono ?_
  rintro e w8 ⟨⟨oM, cM, rfl, hsM⟩, b8⟩
  have HSA8 := Lib.hid (HSA7.out.below frow b8)
  have HX8 := Lib.hid (HX7.out.below frow b8)
  have HY8 := Lib.hid (HY7.out.below frow b8)
  have HL8 := Lib.hid (HL7.out.below frow b8)
  have HH8 := Lib.hid (HH7.out.below frow b8)
  have HM8 := Lib.hid hsM
  have HB8 := Lib.hid (HB7.out.trans (b8.mono HB7.out.size))
  clear hsM b8 HSA7 HB7 HX7 HY7 HL7 HH7 HDm
  go_wp2_with fail
  refine (HDt.out w8 oA cA HB8.out HSA8.out).mono ?_
  rintro e w9 ⟨⟨oT, cT, rfl, hsT⟩, b9⟩
  have HX9 := Lib.hid (HX8.out.below frow b9)
  have HY9 := Lib.hid (HY8.out.below frow b9)
  have HH9 := Lib.hid (HH8.out.below frow b9)
  have HT9 := Lib.hid hsT
  have HB9 := Lib.hid (HB8.out.trans (b9.mono HB8.out.size))
  have HS1 := Lib.hid (HSame.out w9 oL oM cL cM l HLN.out (HL8.out.below frow b9) (HM8.out.below frow b9))
  clear hsT b9 HSA8 HB8 HX8 HY8 HL8 HH8 HM8 HDt
  go_wp2_with fail
  refine HS1.out.mono ?_
  rintro e w10 ⟨rfl, b10⟩
  have HX10 := Lib.hid (HX9.out.below frow b10)
  have HY10 := Lib.hid (HY9.out.below frow b10)
  have HB10 := Lib.hid (HB9.out.trans (b10.mono HB9.out.size))
  have HS2 := Lib.hid (HSame.out w10 oH oT cH cT h HHN.out (HH9.out.below frow b10) (HT9.out.below frow b10))
  clear b10 HX9 HY9 HH9 HT9 HB9 HS1 HSame
  go_wp2_with fail
  refine HS2.out.mono ?_
  rintro e w11 ⟨rfl, b11⟩
  have HX11 := Lib.hid (HX10.out.below frow b11)
  have HY11 := Lib.hid (HY10.out.below frow b11)
  have HB11 := Lib.hid (HB10.out.trans (b11.mono HB10.out.size))
  clear b11 HX10 HY10 HB10 HS2
  go_wp2_with fail
  go_loopw [24] (fun v24 wi => ∃ k : Nat, v24 = .int .i64 k ∧ k ≤ ng ∧ Hid (∃ q, wi = w11.drewN q)) (fun v24 _ => ng - (intOf v24).toNat)
  case atStart => exact ⟨0, rfl, Nat.zero_le _, Lib.hid ⟨0, rfl⟩⟩
  case round =>
    obtain ⟨k, rfl, hk, HQ⟩ := hrel
    by_cases hkn : k < ng
    · have j1 : (k : Int) < ng := by omega
      obtain ⟨x', hx'⟩ := get_ltG HXN.out hkn
      obtain ⟨y', hy'⟩ := get_ltG HYN.out hkn
      obtain ⟨b1, off1, rfl, hR1⟩ := (HX11.out.below frow (quietB HQ.out)).at hx'
      obtain ⟨b2, off2, rfl, hR2⟩ := (HY11.out.below frow (quietB HQ.out)).at hy'
      obtain ⟨o1, e1, c0, c1, hL1, l1'⟩ := row_at hR1 hx'
      obtain ⟨o2', e2, d0, d1, hL2, l2'⟩ := row_at hR2 hy'
      obtain ⟨hle, hlab⟩ := HMo.out k x' y' hx' hy'
      have j2 : ¬ y'.2 < x'.2 := by omega
      have HCL := Lib.hid (fun r => sameLabels_quiet o1 o2' e1 e2 x'.1 y'.1 (wr.drewN r) l1' l2' (hL1.sees.below (quietB ⟨r, rfl⟩)) (hL2.sees.below (quietB ⟨r, rfl⟩)))
      rw [show Go.Proofs.YtjgcnfiijcpgdaaGreat.sameL x'.1 y'.1 = true from (sameL_iff _ _).2 hlab] at HCL
      generalize x'.1.length = m1 at c0 HCL
      generalize y'.1.length = m2 at d0 HCL
      clear hR1 hR2 hL1 hL2 l1' l2' hx' hy' hle hlab
      go_wp2_with fail
      go_quiet (first | (go_at_call 23; exact Calls.quiet_of (HCL.out _)))
      have HQ4 := Lib.hid (quietQ HQ.out nq)
      go_wp2
      go_roundw
      case rel => exact ⟨k + 1, by go_num, by omega, HQ4⟩
      case measure => simp [intOf]; omega
    · have j1 : ¬ (k : Int) < ng := by omega
      go_wp2
      go_ret
      exact ⟨rfl, HB11.out.trans ((quietB HQ.out).mono HB11.out.size)⟩
end Go.Proofs.YtjgcnfiijcpgdaaGreat.Grp
