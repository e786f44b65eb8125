/- The walk of the statement on sums of two vectors. -/
import Derived.Test.YtiedhlcgdfdjhaaVpl
namespace Go.Proofs.Ytiedhlcgdfdjhaa.Vec
open Go.RowKit

set_option maxHeartbeats 16000000 in
set_option maxRecDepth 100000 in
theorem laws_any (o o2 on : Option Addr) (n c n2 c2 nn cn : Nat) (xs ys : List Rw) (ns : List ByteArray) (w : World) (hn : xs.length = n) (hn2 : ys.length = n2) (hnn : ns.length = nn) (hmn : nn ≤ maxLen) (hS : RowsS w w.heap.size o xs) (hS2 : RowsS w w.heap.size o2 ys) (hN : SeesN w on ns) :
    Calls Try.prog 6 #[.slice o n c, .slice o2 n2 c2, .slice on nn cn] w fun e w' => e = .returned (.bool true) ∧ Below w.heap.size w w' := by
  have HAl := Lib.hid (fun W => alive_any W)
  have HLt := Lib.hid (lightR_any o n c xs w _ hn hS)
  have HLu := Lib.hid (fun W (hb : Below w.heap.size w W) => lightR_any o2 n2 c2 ys W _ hn2 (hS2.below frow hb))
  unfold maxLen at hmn
  cases hl : lightR xs with
  | false =>
    rw [hl] at HLt
    clear hl hS hS2 hN
    go_enter Try.func6, Try.ntmps6
    go_wp2_with fail
    refine HLt.out.mono ?_
    rintro e w1 ⟨rfl, b1⟩
    go_wp2_with fail
    refine (HAl.out _).mono ?_
    rintro e w2 ⟨rfl, b2⟩
    go_wp2
    go_ret
    exact ⟨rfl, b1.trans (b2.mono b1.size)⟩
  | true =>
  obtain ⟨h60, hsm⟩ := lightR_mk hl
  rw [hl] at HLt
  cases hl2 : lightR ys with
  | false =>
    rw [hl2] at HLu
    clear hl hl2 hS hS2 hN
    go_enter Try.func6, Try.ntmps6
    go_wp2_with fail
    refine HLt.out.mono ?_
    rintro e w1 ⟨rfl, b1⟩
    go_wp2_with fail
    refine (HLu.out _ b1).mono ?_
    rintro e wu ⟨rfl, bu⟩
    replace b1 := b1.trans (bu.mono b1.size)
    clear bu
    go_wp2_with fail
    refine (HAl.out _).mono ?_
    rintro e w2 ⟨rfl, b2⟩
    go_wp2
    go_ret
    exact ⟨rfl, b1.trans (b2.mono b1.size)⟩
  | true =>
  obtain ⟨h602, hsm2⟩ := lightR_mk hl2
  rw [hl2] at HLu
  by_cases hnn10 : 10 < nn
  · have i1 : (10 : Int) < nn := by omega
    clear hl hl2 hS hS2 hN
    go_enter Try.func6, Try.ntmps6
    go_wp2_with fail
    refine HLt.out.mono ?_
    rintro e w1 ⟨rfl, b1⟩
    go_wp2_with fail
    refine (HLu.out _ b1).mono ?_
    rintro e wu ⟨rfl, bu⟩
    replace b1 := b1.trans (bu.mono b1.size)
    clear bu
    go_wp2_with fail
    refine (HAl.out _).mono ?_
    rintro e w2 ⟨rfl, b2⟩
    go_wp2
    go_ret
    exact ⟨rfl, b1.trans (b2.mono b1.size)⟩
  have i1 : ¬ (10 : Int) < nn := by omega
  have har := vecT_right xs
  have hbr := vecT_right ys
  have hal : (vecT xs).length ≤ 60 := Nat.le_trans (vecT_len xs) h60
  have hbl : (vecT ys).length ≤ 60 := Nat.le_trans (vecT_len ys) h602
  have HTa := Lib.hid (fun W (hb : Below w.heap.size w W) => ltidy_any o n c xs W _ hn (by omega) hsm (hS.below frow hb))
  have HTb := Lib.hid (fun W (hb : Below w.heap.size w W) => ltidy_any o2 n2 c2 ys W _ hn2 (by omega) hsm2 (hS2.below frow hb))
  obtain ⟨a, ha⟩ : ∃ a, vecT xs = a := ⟨_, rfl⟩
  obtain ⟨b, hb'⟩ : ∃ b, vecT ys = b := ⟨_, rfl⟩
  rw [ha] at har hal HTa
  rw [hb'] at hbr hbl HTb
  have HLaw := laws_plain ns har hbr
  obtain ⟨na, hna⟩ : ∃ na, a.length = na := ⟨_, rfl⟩
  obtain ⟨nb, hnb⟩ : ∃ nb, b.length = nb := ⟨_, rfl⟩
  have hna60 : na ≤ 60 := by rw [← hna]; exact hal
  have hnb60 : nb ≤ 60 := by rw [← hnb]; exact hbl
  have HM := fun (op : ByteArray) (hop : op.size ≤ maxLen) (l m : List Rw) (nl nm : Nat) (r : List Rw × Int) (h1 : l.length = nl) (h2 : m.length = nm) (g1 : nl ≤ 60) (g2 : nm ≤ 60) (hr : matchR op l m 1 ns = r) (W : World) ol cl om cm (hb : Below w.heap.size w W) (s : RowsS W 0 ol l) (s2 : RowsS W 0 om m) => (show Calls Try.prog 13 #[.string op, .slice ol nl cl, .slice om nm cm, .int .i64 1, .slice on nn cn] W (AnsR W r) from by
    rw [← hr]; exact match_any op ol om on nl cl nm cm nn cn 1 ns l m W hop h1 h2 hnn (by unfold maxLen; omega) (by unfold maxLen; omega) (by unfold maxLen; omega) 0 (Nat.zero_le _) s s2 (hN.below hb))
  have HNA := Lib.hid hna
  have HNB := Lib.hid hnb
  rcases HLaw with ⟨e1, f1, he1, hf1, M1, M2⟩ | ⟨x, f, hxl, hrx, M1, M2, M3, hrz⟩
  · have t1 : (e1 == 0) = false := by rw [beq_eq_false_iff_ne]; exact he1
    have t2 : (f1 == 0) = false := by rw [beq_eq_false_iff_ne]; exact hf1
    have t3 : (e1 != 0) = true := by rw [bne_iff_ne]; exact he1
    have HM1 := Lib.hid (HM ⟨#[43]⟩ (by decide) a b na nb _ hna hnb hna60 hnb60 M1)
    have HM2 := Lib.hid (HM ⟨#[43]⟩ (by decide) b a nb na _ hnb hna hnb60 hna60 M2)
    clear hl hl2 hS hS2 hN har hbr hal hbl ha hb' hna hnb hsm hsm2 HM M1 M2 he1 hf1
    go_enter Try.func6, Try.ntmps6
    go_wp2_with fail
    refine HLt.out.mono ?_
    rintro e w1 ⟨rfl, b1⟩
    go_wp2_with fail
    refine (HLu.out _ b1).mono ?_
    rintro e wu ⟨rfl, bu⟩
    replace b1 := b1.trans (bu.mono b1.size)
    clear bu
    go_wp2_with fail
    refine (HAl.out _).mono ?_
    rintro e w2 ⟨rfl, b2⟩
    have b12 := b1.trans (b2.mono b1.size)
    clear b1 b2
    go_wp2_with fail
    refine (HTa.out _ b12).mono ?_
    rintro e w3 ⟨⟨va, usa, rfl, hoa⟩, b3⟩
    obtain ⟨oA, cA, rfl, hsA, _⟩ := hoa.sees frow
    rw [HNA.out]
    have b13 := b12.trans (b3.mono b12.size)
    clear b12 b3 hoa
    go_wp2_with fail
    refine (HTb.out _ b13).mono ?_
    rintro e w4 ⟨⟨vb, usb, rfl, hob⟩, b4⟩
    obtain ⟨oB, cB, rfl, hsB, _⟩ := hob.sees frow
    rw [HNB.out]
    have HB4 := Lib.hid (b13.trans (b4.mono b13.size))
    have HSA := Lib.hid (hsA.below frow b4)
    have HSB := Lib.hid hsB
    clear b13 b4 hob hsA hsB HLt HLu HAl HTa HTb
    go_wp2_with fail
    refine (HM1.out w4 oA cA oB cB HB4.out HSA.out HSB.out).mono ?_
    rintro e w6 ⟨ho, b6⟩
    obtain ⟨vx, usx, rfl, hox⟩ := out_own ho
    obtain ⟨oX, cX, rfl, hsX, _⟩ := hox.sees frow
    rw [show ([] : List Rw).length = 0 from rfl]
    have HSA6 := Lib.hid (HSA.out.below frow b6)
    have HSB6 := Lib.hid (HSB.out.below frow b6)
    have HB6 := Lib.hid (HB4.out.trans (b6.mono HB4.out.size))
    clear ho hox hsX b6 HSA HSB HB4 HM1
    go_wp2_with fail
    refine (HM2.out w6 oB cB oA cA HB6.out HSB6.out HSA6.out).mono ?_
    rintro e w8 ⟨ho, b8⟩
    obtain ⟨vy, usy, rfl, hoy⟩ := out_own ho
    obtain ⟨oY, cY, rfl, hsY, _⟩ := hoy.sees frow
    rw [show ([] : List Rw).length = 0 from rfl]
    have HB8 := Lib.hid (HB6.out.trans (b8.mono HB6.out.size))
    clear ho hoy hsY b8 HSA6 HSB6 HB6 HM2
    go_wp2
    go_ret
    exact ⟨rfl, HB8.out⟩
  · obtain ⟨z, hz⟩ : ∃ z : List Rw, (x.map fun p : Rw => ((p.1, f p) : Rw)) = z := ⟨_, rfl⟩
    obtain ⟨nx, hnx⟩ : ∃ nx, x.length = nx := ⟨_, rfl⟩
    have hnz : z.length = nx := by rw [← hz, List.length_map, hnx]
    have hnx60 : nx ≤ 60 := by rw [← hnx]; omega
    rw [hz] at M3 hrz
    have hzat : ∀ (i : Nat) (p : Rw), x[i]? = some p → ∃ q : Rw, z[i]? = some q ∧ q.1 = p.1 := fun i p hp => by
      rw [← hz, List.getElem?_map, hp]; exact ⟨_, rfl, rfl⟩
    have HM1 := Lib.hid (HM ⟨#[43]⟩ (by decide) a b na nb _ hna hnb hna60 hnb60 M1)
    have HM2 := Lib.hid (HM ⟨#[43]⟩ (by decide) b a nb na _ hnb hna hnb60 hna60 M2)
    have HM3 := Lib.hid (HM ⟨#[45]⟩ (by decide) x b nx nb _ hnx hnb hnx60 hnb60 M3)
    have HSame := Lib.hid (fun (W : World) o1 o2 c1 c2 (s1 : RowsS W 0 o1 x) (s2 : RowsS W 0 o2 x) => (show Calls Try.prog 14 #[.slice o1 nx c1, .slice o2 nx c2] W fun e w' => e = .returned (.bool true) ∧ Below W.heap.size W w' from by
      have := same_any o1 o2 nx c1 nx c2 x x W hnx hnx (by unfold maxLen; omega) (by unfold maxLen; omega) 0 s1 s2
      rw [sameR_refl] at this; exact this))
    have HR := Lib.hid (fun (W : World) o1 c1 (l : List Rw) (hl : l.length = nx) (hr : rightR l = true) (s1 : RowsS W 0 o1 l) => (show Calls Try.prog 20 #[.slice o1 nx c1] W fun e w' => e = .returned (.bool true) ∧ Below W.heap.size W w' from by
      have := right_row o1 nx c1 l W 0 hl (by unfold maxLen; omega) s1
      rw [hr] at this; exact this))
    have HNX := Lib.hid hnx
    have HNZ := Lib.hid hnz
    have HZA := Lib.hid hzat
    have HRX := Lib.hid hrx
    have HRZ := Lib.hid hrz
    clear hl hl2 hS hS2 hN har hbr hal hbl ha hb' hna hnb hsm hsm2 HM M1 M2 M3 hxl hrx hrz hz hnx hnz hzat
    go_enter Try.func6, Try.ntmps6
    go_wp2_with fail
    refine HLt.out.mono ?_
    rintro e w1 ⟨rfl, b1⟩
    go_wp2_with fail
    refine (HLu.out _ b1).mono ?_
    rintro e wu ⟨rfl, bu⟩
    replace b1 := b1.trans (bu.mono b1.size)
    clear bu
    go_wp2_with fail
    refine (HAl.out _).mono ?_
    rintro e w2 ⟨rfl, b2⟩
    have b12 := b1.trans (b2.mono b1.size)
    clear b1 b2
    go_wp2_with fail
    refine (HTa.out _ b12).mono ?_
    rintro e w3 ⟨⟨va, usa, rfl, hoa⟩, b3⟩
    obtain ⟨oA, cA, rfl, hsA, _⟩ := hoa.sees frow
    rw [HNA.out]
    have b13 := b12.trans (b3.mono b12.size)
    clear b12 b3 hoa
    go_wp2_with fail
    refine (HTb.out _ b13).mono ?_
    rintro e w4 ⟨⟨vb, usb, rfl, hob⟩, b4⟩
    obtain ⟨oB, cB, rfl, hsB, _⟩ := hob.sees frow
    rw [HNB.out]
    have HB4 := Lib.hid (b13.trans (b4.mono b13.size))
    have HSA := Lib.hid (hsA.below frow b4)
    have HSB := Lib.hid hsB
    clear b13 b4 hob hsA hsB HLt HLu HAl HTa HTb
    go_wp2_with fail
    refine (HM1.out w4 oA cA oB cB HB4.out HSA.out HSB.out).mono ?_
    rintro e w6 ⟨ho, b6⟩
    obtain ⟨vx, usx, rfl, hox⟩ := out_own ho
    obtain ⟨oX, cX, rfl, hsX, _⟩ := hox.sees frow
    rw [HNX.out]
    have HSA6 := Lib.hid (HSA.out.below frow b6)
    have HSB6 := Lib.hid (HSB.out.below frow b6)
    have HSX6 := Lib.hid hsX
    have HB6 := Lib.hid (HB4.out.trans (b6.mono HB4.out.size))
    clear ho hox hsX b6 HSA HSB HB4 HM1
    go_wp2_with fail
    refine (HM2.out w6 oB cB oA cA HB6.out HSB6.out HSA6.out).mono ?_
    rintro e w8 ⟨ho, b8⟩
    obtain ⟨vy, usy, rfl, hoy⟩ := out_own ho
    obtain ⟨oY, cY, rfl, hsY, _⟩ := hoy.sees frow
    rw [HNX.out]
    have HSY := Lib.hid hsY
    have HSX := Lib.hid (HSX6.out.below frow b8)
    have HSB8 := Lib.hid (HSB6.out.below frow b8)
    have HB8 := Lib.hid (HB6.out.trans (b8.mono HB6.out.size))
    clear ho hoy hsY b8 HSA6 HSB6 HB6 HM2 HSX6
    go_wp2_with fail
    refine (HSame.out w8 oX oY cX cY HSX.out HSY.out).mono ?_
    rintro e w9 ⟨rfl, b9⟩
    have HSX9 := Lib.hid (HSX.out.below frow b9)
    have HSB9 := Lib.hid (HSB8.out.below frow b9)
    have HB9 := Lib.hid (HB8.out.trans (b9.mono HB8.out.size))
    clear b9 HSX HSY HSB8 HB8 HSame
    go_wp2_with fail
    refine (HM3.out w9 oX cX oB cB HB9.out HSX9.out HSB9.out).mono ?_
    rintro e w10 ⟨ho, b10⟩
    obtain ⟨vz, usz, rfl, hoz⟩ := out_own ho
    obtain ⟨oZ, cZ, rfl, hsZ, _⟩ := hoz.sees frow
    rw [HNZ.out]
    have HSZ := Lib.hid hsZ
    have HSX10 := Lib.hid (HSX9.out.below frow b10)
    have HB10 := Lib.hid (HB9.out.trans (b10.mono HB9.out.size))
    clear ho hoz hsZ b10 HSX9 HSB9 HB9 HM3
    go_wp2
    go_loopw [15] (fun v15 wi => ∃ k : Nat, v15 = .int .i64 k ∧ k ≤ nx ∧ Hid (∃ q, wi = w10.drewN q)) (fun v15 _ => nx - (intOf v15).toNat)
    case atStart => exact ⟨0, rfl, Nat.zero_le _, Lib.hid ⟨0, rfl⟩⟩
    case round =>
      obtain ⟨k, rfl, hk, HQ⟩ := hrel
      by_cases hkn : k < nx
      · have j2 : (k : Int) < nx := by omega
        obtain ⟨p, hp⟩ := get_ltG HNX.out hkn
        obtain ⟨q, hq, hqp⟩ := HZA.out k p hp
        obtain ⟨b1, off1, rfl, hR1⟩ := (HSZ.out.below frow (quietB HQ.out)).at hq
        obtain ⟨b2, off2, rfl, hR2⟩ := (HSX10.out.below frow (quietB HQ.out)).at hp
        obtain ⟨o1, e1, c0, c1, hL1, l1⟩ := row_at hR1 hq
        obtain ⟨o2, e2, d0, d1, hL2, l2⟩ := row_at hR2 hp
        rw [hqp] at c0 hL1 l1
        have HCL := Lib.hid (fun r => (show Calls Try.prog 15 #[.slice o1 p.1.length e1, .slice o2 p.1.length e2] (wr.drewN r) fun e w' => e = .returned (.bool true) ∧ ∃ s, w' = (wr.drewN r).drewN s from by
          have := sameLabels_quiet o1 o2 e1 e2 p.1 p.1 (wr.drewN r) l1 l2 (hL1.sees.below (quietB ⟨r, rfl⟩)) (hL2.sees.below (quietB ⟨r, rfl⟩))
          rw [Go.Proofs.Ytiedhlcgdfdjhaa.sameL_refl] at this
          exact this))
        clear hp hq hqp hR1 hR2 hL1 hL2 l1 l2 c1 d1
        generalize p.1.length = nL at c0 d0 HCL
        go_wp2_with fail
        go_quiet (first | (go_at_call 15; exact Calls.quiet_of (HCL.out _)))
        have HQ2 := Lib.hid (quietQ HQ.out nq)
        go_wp2
        go_roundw
        case rel => exact ⟨k + 1, by go_num, by omega, HQ2⟩
        case measure => simp [intOf]; omega
      · have j2 : ¬ (k : Int) < nx := by omega
        have HBQ := Lib.hid (quietB HQ.out)
        have HBf := Lib.hid (HB10.out.trans (HBQ.out.mono HB10.out.size))
        have HR1 := Lib.hid (HR.out wr oX cX x HNX.out HRX.out (HSX10.out.below frow HBQ.out))
        have HR2 := Lib.hid (fun W (hb : Below wr.heap.size wr W) => HR.out W oZ cZ z HNZ.out HRZ.out ((HSZ.out.below frow HBQ.out).below frow hb))
        go_wp2_with fail
        refine HR1.out.mono ?_
        rintro e w11 ⟨rfl, b11⟩
        have HB11 := Lib.hid b11
        clear b11
        go_wp2_with fail
        refine (HR2.out _ HB11.out).mono ?_
        rintro e w12 ⟨rfl, b12⟩
        go_wp2
        go_ret
        exact ⟨rfl, HBf.out.trans ((HB11.out.trans (b12.mono HB11.out.size)).mono HBf.out.size)⟩
end Go.Proofs.Ytiedhlcgdfdjhaa.Vec
