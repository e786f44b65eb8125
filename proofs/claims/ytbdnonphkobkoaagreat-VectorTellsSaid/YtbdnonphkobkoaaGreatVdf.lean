/- The walk of the law on vectors. -/
import Derived.Test.YtbdnonphkobkoaaGreatVde
import Derived.Test.YtbdnonphkobkoaaGreatVdg
import Derived.Deep.RegionHeld3
import Derived.Deep.DeepFit
namespace Go.Proofs.YtbdnonphkobkoaaGreat.Vec
open Go.RowKit

set_option maxHeartbeats 2000000 in
set_option maxRecDepth 100000 in
theorem neg_any (o : Option Addr) (n c : Nat) (xs : List Rw) (w : World) (hn : xs.length = n) (hm : n ≤ maxLen) (B : Nat) (hB : B ≤ w.heap.size) (hS : RowsS w B o xs) :
    Calls Tryz.prog 15 #[.slice o n c] w (AnsR w (scaleR ⟨#[45]⟩ xs 0 true)) := by
  have H := Lib.hid (scale_any ⟨#[45]⟩ o n c 0 true xs w (by decide) hn hm B hB hS)
  clear hS hn hm hB
  go_enter Tryz.func15, Tryz.ntmps15
  go_wp2_with fail
  refine H.out.mono ?_
  rintro e w1 ⟨⟨v, rfl, us, ho⟩, b1⟩
  have HO := Lib.hid ho
  clear ho
  go_wp2
  go_ret2
  exact ⟨⟨v, rfl, us, HO.out⟩, b1⟩
/-- What an answer of the code's is, for the book. -/
theorem ans_list {w : World} {B : Nat} {r : List Rw × Int} {e : Ending} {w' : World} (h : AnsR w r e w') : (∃ o c, e = .returned (.tuple #[.slice o r.1.length c, .int .i64 r.2]) ∧ ListR B w.heap.size w' (.slice o r.1.length c) r.1) ∧ Below w.heap.size w w' := by
  obtain ⟨⟨v, rfl, us, ho⟩, hb⟩ := h
  have hl := ListR.of (B := B) (Nat.zero_le _) ho
  obtain ⟨o, c, rfl, _⟩ := hl.sees
  exact ⟨⟨o, c, rfl, hl⟩, hb⟩
/-- What an answer of the document's is. -/
theorem out_rows {BE B s : Nat} {r : List Rw × Int} {e : Ending} {w' : World} (hB : BE ≤ B) (h : OutB BE s r e w') : ∃ o c, e = .returned (.tuple #[.slice o r.1.length c, .int .i64 r.2]) ∧ RowsS w' B o r.1 := by
  obtain ⟨v, rfl, us, ho⟩ := h
  obtain ⟨o, c, rfl, hs, _⟩ := ho.sees (frow (B := BE))
  exact ⟨o, c, rfl, RowsS.mono hs hB⟩

set_option maxHeartbeats 64000000 in
set_option maxRecDepth 100000 in
theorem vtells_any (op : ByteArray) (oa ob on : Option Addr) (na ca nb cb nn cn : Nat) (v mode : Int) (left raw : Bool) (xs ys : List Rw) (ns : List ByteArray) (w : World) (hna : xs.length = na) (hnb : ys.length = nb) (hnn : ns.length = nn) (hcn : on = none → cn = 0) (hSa : RowsS w w.heap.size oa xs) (hSb : RowsS w w.heap.size ob ys) (hN : SeesN w on ns) :
    Calls Tryz.prog 3 #[.string op, .slice oa na ca, .slice ob nb cb, .int .i64 v, .bool left, .int .i64 mode, .slice on nn cn, .bool raw] w fun e w' => e = .returned (.bool true) ∧ Below w.heap.size w w' := by
  have HAl := Lib.hid (fun W => alive_any W)
  have HL1 := Lib.hid (lightR_any oa na ca xs w _ hna hSa)
  have HL2 := Lib.hid (fun W (hb : Below w.heap.size w W) => lightR_any ob nb cb ys W _ hnb (hSb.below frow hb))
  cases hl1 : lightR xs with
  | false =>
    rw [hl1] at HL1
    clear hl1 HL2 hSa hSb hN hna hnb hnn hcn
    go_enter Tryz.func3, Tryz.ntmps3
    go_wp2_with fail
    refine HL1.out.mono ?_
    rintro e w1 ⟨rfl, b1⟩
    have HB1 := Lib.hid b1
    clear b1
    go_wp2_with fail
    refine (HAl.out _).mono ?_
    rintro e w3 ⟨rfl, b3⟩
    have HB3 := Lib.hid (HB1.out.trans (b3.mono HB1.out.size))
    clear b3
    go_wp2
    go_ret
    exact ⟨rfl, HB3.out⟩
  | true =>
  rw [hl1] at HL1
  cases hl2 : lightR ys with
  | false =>
    rw [hl2] at HL2
    clear hl1 hl2 hSa hSb hN hna hnb hnn hcn
    go_enter Tryz.func3, Tryz.ntmps3
    go_wp2_with fail
    refine HL1.out.mono ?_
    rintro e w1 ⟨rfl, b1⟩
    have HB1 := Lib.hid b1
    clear b1
    go_wp2_with fail
    refine (HL2.out _ HB1.out).mono ?_
    rintro e w2 ⟨rfl, b2⟩
    have HB2 := Lib.hid (HB1.out.trans (b2.mono HB1.out.size))
    clear b2
    go_wp2_with fail
    refine (HAl.out _).mono ?_
    rintro e w3 ⟨rfl, b3⟩
    have HB3 := Lib.hid (HB2.out.trans (b3.mono HB2.out.size))
    clear b3
    go_wp2
    go_ret
    exact ⟨rfl, HB3.out⟩
  | true =>
  rw [hl2] at HL2
  by_cases g1 : 10 < op.size
  · have i1 : (10 : Int) < op.size := by omega
    clear hl1 hl2 hSa hSb hN hna hnb hnn hcn
    go_enter Tryz.func3, Tryz.ntmps3
    go_wp2_with fail
    refine HL1.out.mono ?_
    rintro e w1 ⟨rfl, b1⟩
    have HB1 := Lib.hid b1
    clear b1
    go_wp2_with fail
    refine (HL2.out _ HB1.out).mono ?_
    rintro e w2 ⟨rfl, b2⟩
    have HB2 := Lib.hid (HB1.out.trans (b2.mono HB1.out.size))
    clear b2
    go_wp2_with fail
    refine (HAl.out _).mono ?_
    rintro e w3 ⟨rfl, b3⟩
    have HB3 := Lib.hid (HB2.out.trans (b3.mono HB2.out.size))
    clear b3
    go_wp2
    go_ret
    exact ⟨rfl, HB3.out⟩
  by_cases g2 : 10 < nn
  · have i1 : ¬ (10 : Int) < op.size := by omega
    have i2 : (10 : Int) < nn := by omega
    clear hl1 hl2 hSa hSb hN hna hnb hnn hcn
    go_enter Tryz.func3, Tryz.ntmps3
    go_wp2_with fail
    refine HL1.out.mono ?_
    rintro e w1 ⟨rfl, b1⟩
    have HB1 := Lib.hid b1
    clear b1
    go_wp2_with fail
    refine (HL2.out _ HB1.out).mono ?_
    rintro e w2 ⟨rfl, b2⟩
    have HB2 := Lib.hid (HB1.out.trans (b2.mono HB1.out.size))
    clear b2
    go_wp2_with fail
    refine (HAl.out _).mono ?_
    rintro e w3 ⟨rfl, b3⟩
    have HB3 := Lib.hid (HB2.out.trans (b3.mono HB2.out.size))
    clear b3
    go_wp2
    go_ret
    exact ⟨rfl, HB3.out⟩
  have i1 : ¬ (10 : Int) < op.size := by omega
  have i2 : ¬ (10 : Int) < nn := by omega
  obtain ⟨hx60, hxs⟩ := lightR_mk hl1
  obtain ⟨hy60, hys⟩ := lightR_mk hl2
  have hops : op.size ≤ maxLen := by unfold maxLen; omega
  have HNn := Lib.hid (fun (W : World) (hb : Below w.heap.size w W) => hN.below hb)
  have HTa := Lib.hid (fun W (hb : Below w.heap.size w W) => ltidy_any oa na ca xs W _ hna (by omega) hxs (hSa.below frow hb))
  have HTb := Lib.hid (fun W (hb : Below w.heap.size w W) => ltidy_any ob nb cb ys W _ hnb (by omega) hys (hSb.below frow hb))
  have HSA := Lib.hid hSa
  have HSB := Lib.hid hSb
  have HXL := Lib.hid (show xs.length ≤ 60 ∧ SmR xs from ⟨hx60, hxs⟩)
  have HYL := Lib.hid (show ys.length ≤ 60 ∧ SmR ys from ⟨hy60, hys⟩)
  have HVA := Lib.hid (show (vecT xs).length ≤ 60 ∧ SmR (vecT xs) from ⟨Nat.le_trans (vecT_len xs) hx60, right_smR (right_fit (vecT_right xs)).2.1⟩)
  have HVB := Lib.hid (show (vecT ys).length ≤ 60 ∧ SmR (vecT ys) from ⟨Nat.le_trans (vecT_len ys) hy60, right_smR (right_fit (vecT_right ys)).2.1⟩)
  have HNA0 := Lib.hid hna
  have HNB0 := Lib.hid hnb
  have HNN := Lib.hid hnn
  have HCN := Lib.hid hcn
  clear hl1 hl2 hSa hSb hN hna hnb hnn hcn hx60 hxs hy60 hys
  go_enter Tryz.func3, Tryz.ntmps3
  go_wp2_with fail
  refine HL1.out.mono ?_
  rintro e w1 ⟨rfl, b1⟩
  have HB1 := Lib.hid b1
  clear b1
  go_wp2_with fail
  refine (HL2.out _ HB1.out).mono ?_
  rintro e w2 ⟨rfl, b2⟩
  have HB2 := Lib.hid (HB1.out.trans (b2.mono HB1.out.size))
  clear b2 HB1
  go_wp2_with fail
  refine (HAl.out _).mono ?_
  rintro e w3 ⟨rfl, b3⟩
  have HB3 := Lib.hid (HB2.out.trans (b3.mono HB2.out.size))
  clear b3 HB2 HL1 HL2 HAl
  cases raw
  case' false =>
    go_wp2_with fail
    refine (HTa.out _ HB3.out).mono ?_
    rintro e w4 ⟨⟨va, usa, rfl, hoa⟩, b4⟩
    obtain ⟨oA, cA, rfl, hsA, _⟩ := hoa.sees (frow (B := 0))
    have HB4 := Lib.hid (HB3.out.trans (b4.mono HB3.out.size))
    have HS4 := Lib.hid hsA
    clear b4 hsA hoa HB3
    go_wp2_with fail
    refine (HTb.out _ HB4.out).mono ?_
    rintro e wP ⟨⟨vb, usb, rfl, hob⟩, b5⟩
    obtain ⟨oB, cB, rfl, hsB, _⟩ := hob.sees (frow (B := 0))
    have HBP := Lib.hid (HB4.out.trans (b5.mono HB4.out.size))
    have HF := Lib.hid (show ∃ BL, BL ≤ wP.heap.size ∧ RowsS wP BL oA (vecT xs) ∧ RowsS wP BL oB (vecT ys) from ⟨0, Nat.zero_le _, HS4.out.below frow b5, hsB⟩)
    have HA6 := HVA
    have HB6 := HVB
    clear b5 hsB hob HB4 HS4
    obtain ⟨A, hA⟩ : ∃ A, vecT xs = A := ⟨_, rfl⟩
    obtain ⟨C, hC⟩ : ∃ C, vecT ys = C := ⟨_, rfl⟩
    rw [hA] at HF HA6 ⊢
    rw [hC] at HF HB6 ⊢
    obtain ⟨nA, hnA⟩ : ∃ nA, A.length = nA := ⟨_, rfl⟩
    obtain ⟨nB, hnB⟩ : ∃ nB, C.length = nB := ⟨_, rfl⟩
    rw [hnA, hnB]
    have HNA := Lib.hid hnA
    have HNB := Lib.hid hnB
    clear hA hC hnA hnB HTa HTb HSA HSB HXL HYL HVA HVB HNA0 HNB0
    go_wp2_with fail
  case' true =>
    have HF := Lib.hid (show ∃ BL, BL ≤ w3.heap.size ∧ RowsS w3 BL oa xs ∧ RowsS w3 BL ob ys from ⟨w.heap.size, HB3.out.size, HSA.out.below frow HB3.out, HSB.out.below frow HB3.out⟩)
    have HA6 := HXL
    have HB6 := HYL
    have HNA := HNA0
    have HNB := HNB0
    clear HTa HTb HSA HSB HXL HYL HVA HVB HNA0 HNB0
    have HBP := HB3
    clear HB3
    obtain ⟨wP, rfl⟩ : ∃ q : World, q = w3 := ⟨_, rfl⟩
    obtain ⟨oA, rfl⟩ : ∃ q, q = oa := ⟨_, rfl⟩
    obtain ⟨oB, rfl⟩ : ∃ q, q = ob := ⟨_, rfl⟩
    obtain ⟨cA, rfl⟩ : ∃ q, q = ca := ⟨_, rfl⟩
    obtain ⟨cB, rfl⟩ : ∃ q, q = cb := ⟨_, rfl⟩
    obtain ⟨A, rfl⟩ : ∃ q, q = xs := ⟨_, rfl⟩
    obtain ⟨C, rfl⟩ : ∃ q, q = ys := ⟨_, rfl⟩
    obtain ⟨nA, rfl⟩ : ∃ q, q = na := ⟨_, rfl⟩
    obtain ⟨nB, rfl⟩ : ∃ q, q = nb := ⟨_, rfl⟩
    go_wp2_with fail
  all_goals
    obtain ⟨BL, hBL, hSA, hSB⟩ := HF.out
    have hnA60 : nA ≤ 60 := by rw [← HNA.out]; exact HA6.out.1
    have hnB60 : nB ≤ 60 := by rw [← HNB.out]; exact HB6.out.1
    have HSA := Lib.hid hSA
    have HSB := Lib.hid hSB
    have HBL := Lib.hid hBL
    have HNP := Lib.hid (fun (W : World) (hb : Below wP.heap.size wP W) => HNn.out W (HBP.out.trans (hb.mono HBP.out.size)))
    clear hBL hSA hSB HF
    refine (lentR_any oA nA cA A BL wP HBL.out HNA.out (by omega) HA6.out.2 HSA.out).mono ?_
    rintro e w5 ⟨⟨gX, cX, rfl, hLx⟩, b5⟩
    have HX5 := Lib.hid hLx
    have HB5 := Lib.hid b5
    clear hLx b5
    go_wp2_with fail
    refine (lentR_any oB nB cB C BL w5 (Nat.le_trans HBL.out HB5.out.size) HNB.out (by omega) HB6.out.2 (HSB.out.below frow HB5.out)).mono ?_
    rintro e WF ⟨⟨gY, cY, rfl, hLy⟩, b6⟩
    have HYF := Lib.hid hLy
    have HXF := Lib.hid (HX5.out.below b6)
    have HBF := Lib.hid (HB5.out.trans (b6.mono HB5.out.size))
    have HSAF := Lib.hid (HSA.out.below frow HBF.out)
    have HSBF := Lib.hid (HSB.out.below frow HBF.out)
    have HBLF := Lib.hid (Nat.le_trans HBL.out HBF.out.size)
    have HNF := Lib.hid (fun (W : World) (hb : Below WF.heap.size WF W) => HNP.out W (HBF.out.trans (hb.mono HBF.out.size)))
    have HWF := Lib.hid (HBP.out.trans (HBF.out.mono HBP.out.size))
    clear hLy b6 HX5 HB5 HSA HSB HNP HNn
    -- the calls
    obtain ⟨T1, hT1⟩ : ∃ r, tidyR A = r := ⟨_, rfl⟩
    obtain ⟨T2, hT2⟩ : ∃ r, scaleR op A v left = r := ⟨_, rfl⟩
    obtain ⟨T3, hT3⟩ : ∃ r, matchR op A C mode ns = r := ⟨_, rfl⟩
    obtain ⟨T4, hT4⟩ : ∃ r, scaleR ⟨#[45]⟩ A 0 true = r := ⟨_, rfl⟩
    have HC1 := Lib.hid (fun (W : World) (hb : Below WF.heap.size WF W) => (show Calls Tryz.prog 12 #[.slice (some ⟨gX, 0, none⟩) nA cX] W (AnsR W T1) from by rw [← hT1]; exact tidy_row _ nA cX A W BL HNA.out (by unfold maxLen; omega) (HXF.out.below hb).rows))
    have HC2 := Lib.hid (fun (W : World) (hb : Below WF.heap.size WF W) => (show Calls Tryz.prog 13 #[.string op, .slice (some ⟨gX, 0, none⟩) nA cX, .int .i64 v, .bool left] W (AnsR W T2) from by rw [← hT2]; exact scale_any op _ nA cX v left A W hops HNA.out (by unfold maxLen; omega) BL (Nat.le_trans HBLF.out hb.size) (HXF.out.below hb).rows))
    have HC3 := Lib.hid (fun (W : World) (hb : Below WF.heap.size WF W) => (show Calls Tryz.prog 14 #[.string op, .slice (some ⟨gX, 0, none⟩) nA cX, .slice (some ⟨gY, 0, none⟩) nB cY, .int .i64 mode, .slice on nn cn] W (AnsR W T3) from by rw [← hT3]; exact match_any op _ _ on nA cX nB cY nn cn mode ns A C W hops HNA.out HNB.out HNN.out (by unfold maxLen; omega) (by unfold maxLen; omega) (by unfold maxLen; omega) BL (Nat.le_trans HBLF.out hb.size) (HXF.out.below hb).rows (HYF.out.below hb).rows (HNF.out W hb)))
    have HC4 := Lib.hid (fun (W : World) (hb : Below WF.heap.size WF W) => (show Calls Tryz.prog 15 #[.slice (some ⟨gX, 0, none⟩) nA cX] W (AnsR W T4) from by rw [← hT4]; exact neg_any _ nA cX A W HNA.out (by unfold maxLen; omega) BL (Nat.le_trans HBLF.out hb.size) (HXF.out.below hb).rows))
    have HR1 := Lib.hid (fun (W : World) (hb : Below WF.heap.size WF W) => (show Calls Tryz.prog 17 #[.slice oA nA cA] W fun e w' => OutB BL W.heap.size T1 e w' ∧ Below W.heap.size W w' from by rw [← hT1]; exact rtidyR_any oA nA cA A W BL (Nat.le_trans HBLF.out hb.size) HNA.out (by unfold maxLen; omega) HA6.out.2 (HSAF.out.below frow hb)))
    have HR2 := Lib.hid (fun (W : World) (hb : Below WF.heap.size WF W) => (show Calls Tryz.prog 18 #[.string op, .slice oA nA cA, .int .i64 v, .bool left] W fun e w' => OutB BL W.heap.size T2 e w' ∧ Below W.heap.size W w' from by rw [← hT2]; exact rscale_any op oA nA cA A v left W BL (Nat.le_trans HBLF.out hb.size) HNA.out (by omega) HA6.out.2 (HSAF.out.below frow hb)))
    have HR3 := Lib.hid (fun (W : World) (hb : Below WF.heap.size WF W) => (show Calls Tryz.prog 19 #[.string op, .slice oA nA cA, .slice oB nB cB, .int .i64 mode, .slice on nn cn] W fun e w' => OutB BL W.heap.size T3 e w' ∧ Below W.heap.size W w' from by rw [← hT3]; exact rmatch_any op oA oB on nA cA nB cB nn cn A C mode ns W BL (Nat.le_trans HBLF.out hb.size) HNA.out HNB.out HNN.out (by omega) (by omega) (by omega) HCN.out HA6.out.2 HB6.out.2 (HSAF.out.below frow hb) (HSBF.out.below frow hb) (HNF.out W hb)))
    have HR4 := Lib.hid (fun (W : World) (hb : Below WF.heap.size WF W) => (show Calls Tryz.prog 18 #[.string ⟨#[45]⟩, .slice oA nA cA, .int .i64 0, .bool true] W fun e w' => OutB BL W.heap.size T4 e w' ∧ Below W.heap.size W w' from by rw [← hT4]; exact rscale_any ⟨#[45]⟩ oA nA cA A 0 true W BL (Nat.le_trans HBLF.out hb.size) HNA.out (by omega) HA6.out.2 (HSAF.out.below frow hb)))
    have HM1 := Lib.hid (show SmR T1.1 ∧ T1.1.length ≤ nA from by rw [← hT1, ← HNA.out]; exact tidy_sm HA6.out.2)
    have HM2 := Lib.hid (show SmR T2.1 ∧ T2.1.length ≤ nA from by rw [← hT2, ← HNA.out]; exact scale_sm op v left HA6.out.2)
    have HM3 := Lib.hid (show SmR T3.1 ∧ T3.1.length ≤ nA from by rw [← hT3, ← HNA.out]; exact match_sm op C mode ns HA6.out.2)
    have HM4 := Lib.hid (show SmR T4.1 ∧ T4.1.length ≤ nA from by rw [← hT4, ← HNA.out]; exact scale_sm ⟨#[45]⟩ 0 true HA6.out.2)
    clear hT1 hT2 hT3 hT4
    obtain ⟨r1, e1⟩ := T1
    obtain ⟨r2, e2⟩ := T2
    obtain ⟨r3, e3⟩ := T3
    obtain ⟨r4, e4⟩ := T4
    have HSame := Lib.hid (fun (W : World) (o1 o2 : Option Addr) (c1 c2 : Nat) (l : List Rw) (n : Nat) (hn : l.length = n) (hn2 : n ≤ 60) (s1 : RowsS W WF.heap.size o1 l) (s2 : RowsS W WF.heap.size o2 l) => (show Calls Tryz.prog 20 #[.slice o1 n c1, .slice o2 n c2] W fun e w' => e = .returned (.bool true) ∧ Below W.heap.size W w' from by
      subst hn
      have := sameRows_any o1 o2 c1 c2 l l W (by unfold maxLen; omega) (by unfold maxLen; omega) WF.heap.size s1 s2
      rw [sameR_refl] at this; exact this))
    have HBK0 := Lib.hid (bk_start WF)
    go_wp2
    go_loopw [20] (fun v20 wr => ∃ k : Nat, v20 = .int .i64 k ∧ k ≤ 2 ∧ Hid (BkS WF.heap.size wr.heap.size wr (4 * k)) ∧ Hid (Below WF.heap.size WF wr)) (fun v20 _ => 2 - (Go.RowKit.intOf v20).toNat)
    case atStart => exact ⟨0, rfl, Nat.zero_le _, Lib.hid (HBK0.out.up (by simp)), Lib.hid ((Below.refl _ _).alloc (Nat.le_refl _) _)⟩
    case round =>
      obtain ⟨k, rfl, hk, HBK, HB⟩ := hrel
      by_cases hk2 : k < 2
      · have j1 : (k : Int) < 2 := by omega
        obtain ⟨u0, hu0⟩ : ∃ u0 : World, wr = u0 := ⟨wr, rfl⟩
        subst wr
        have HBu0 := HB
        go_wp2_with fail
        refine (HC1.out _ HBu0.out).mono ?_
        rintro e u1 han
        obtain ⟨⟨o1, c1, rfl, hl1⟩, hb1⟩ := ans_list (B := WF.heap.size) han
        simp only at hl1
        obtain ⟨n1, hn1⟩ : ∃ n, r1.length = n := ⟨_, rfl⟩
        simp only [hn1] at hl1 ⊢
        have HV1 := Lib.hid hl1.lt
        have HLs1 := Lib.hid hl1
        have HUB1 := Lib.hid hb1
        have HBu1 := Lib.hid (HBu0.out.trans (hb1.mono HBu0.out.size))
        have HN1 := Lib.hid hn1
        have hn160 : n1 ≤ 60 := by rw [← hn1]; exact Nat.le_trans HM1.out.2 hnA60
        clear han hl1 hb1 hn1
        go_wp2_with fail
        refine (HC2.out _ HBu1.out).mono ?_
        rintro e u2 han
        obtain ⟨⟨o2, c2, rfl, hl2⟩, hb2⟩ := ans_list (B := WF.heap.size) han
        simp only at hl2
        obtain ⟨n2, hn2⟩ : ∃ n, r2.length = n := ⟨_, rfl⟩
        simp only [hn2] at hl2 ⊢
        have HV2 := Lib.hid hl2.lt
        have HLs2 := Lib.hid hl2
        have HUB2 := Lib.hid hb2
        have HBu2 := Lib.hid (HBu1.out.trans (hb2.mono HBu1.out.size))
        have HN2 := Lib.hid hn2
        have hn260 : n2 ≤ 60 := by rw [← hn2]; exact Nat.le_trans HM2.out.2 hnA60
        clear han hl2 hb2 hn2
        go_wp2_with fail
        refine (HC3.out _ HBu2.out).mono ?_
        rintro e u3 han
        obtain ⟨⟨o3, c3, rfl, hl3⟩, hb3⟩ := ans_list (B := WF.heap.size) han
        simp only at hl3
        obtain ⟨n3, hn3⟩ : ∃ n, r3.length = n := ⟨_, rfl⟩
        simp only [hn3] at hl3 ⊢
        have HV3 := Lib.hid hl3.lt
        have HLs3 := Lib.hid hl3
        have HUB3 := Lib.hid hb3
        have HBu3 := Lib.hid (HBu2.out.trans (hb3.mono HBu2.out.size))
        have HN3 := Lib.hid hn3
        have hn360 : n3 ≤ 60 := by rw [← hn3]; exact Nat.le_trans HM3.out.2 hnA60
        clear han hl3 hb3 hn3
        go_wp2_with fail
        refine (HC4.out _ HBu3.out).mono ?_
        rintro e u4 han
        obtain ⟨⟨o4, c4, rfl, hl4⟩, hb4⟩ := ans_list (B := WF.heap.size) han
        simp only at hl4
        obtain ⟨n4, hn4⟩ : ∃ n, r4.length = n := ⟨_, rfl⟩
        simp only [hn4] at hl4 ⊢
        have HV4 := Lib.hid hl4.lt
        have HLs4 := Lib.hid hl4
        have HUB4 := Lib.hid hb4
        have HBu4 := Lib.hid (HBu3.out.trans (hb4.mono HBu3.out.size))
        have HN4 := Lib.hid hn4
        have hn460 : n4 ≤ 60 := by rw [← hn4]; exact Nat.le_trans HM4.out.2 hnA60
        clear han hl4 hb4 hn4
        have HUs := Lib.hid (show u0.heap.size ≤ u1.heap.size ∧ u1.heap.size ≤ u2.heap.size ∧ u2.heap.size ≤ u3.heap.size ∧ u3.heap.size ≤ u4.heap.size from ⟨HUB1.out.size, HUB2.out.size, HUB3.out.size, HUB4.out.size⟩)
        have HBKu := Lib.hid ((((HBK.out.below HUB1.out).below HUB2.out).below HUB3.out).below HUB4.out)
        have HK1 := Lib.hid (((HLs1.out.below HUB2.out).below HUB3.out).below HUB4.out)
        have HK2 := Lib.hid ((HLs2.out.below HUB3.out).below HUB4.out)
        have HK3 := Lib.hid (HLs3.out.below HUB4.out)
        have HK4 := Lib.hid HLs4.out
        have hF0 := HBu0.out.size
        have hF4 := HBu4.out.size
        clear HBK HB HLs1 HLs2 HLs3 HLs4 HUB1 HUB2 HUB3 HUB4 HBu1 HBu2 HBu3
        obtain ⟨z1, z2, z3, z4⟩ := HUs.out
        have HZs := Lib.hid (show WF.heap.size ≤ u0.heap.size ∧ WF.heap.size ≤ u1.heap.size ∧ WF.heap.size ≤ u2.heap.size ∧ WF.heap.size ≤ u3.heap.size from ⟨by omega, by omega, by omega, by omega⟩)
        have HQ1 := Lib.hid (book_keep (s2 := u1.heap.size) HBKu.out hF4 hF0 HK1.out (by rw [HN1.out]; omega) HM1.out.1 (by omega) (by omega) (fun b hb => (HV1.out b hb).2))
        clear z1 z2 z3 z4 hF0
        go_wp2_with fail
        refine HQ1.out.mono ?_
        rintro e k1 ⟨rfl, hbk, hbl, hkp⟩
        have HBKa := Lib.hid hbk
        have HBa := Lib.hid (HBu4.out.trans hbl)
        have hFa := HBa.out.size
        have A1 := Lib.hid (hkp _ _ _ HZs.out.1 HK1.out)
        have A2 := Lib.hid (hkp _ _ _ HZs.out.2.1 HK2.out)
        have A3 := Lib.hid (hkp _ _ _ HZs.out.2.2.1 HK3.out)
        have A4 := Lib.hid (hkp _ _ _ HZs.out.2.2.2 HK4.out)
        have HZ := Lib.hid hbl.size
        clear hbk hbl hkp HQ1 HBKu HK1 HK2 HK3 HK4
        have HQ2 := Lib.hid (book_keep (s2 := u2.heap.size) HBKa.out hFa HZs.out.2.1 (A2.out.raise (s' := u1.heap.size) fun b hb => (HV2.out b hb).1) (by rw [HN2.out]; omega) HM2.out.1 (by omega) (HUs.out.2.1) (fun b hb => (HV2.out b hb).2))
        go_wp2_with fail
        refine HQ2.out.mono ?_
        rintro e k2 ⟨rfl, hbk, hbl, hkp⟩
        have HBKb := Lib.hid hbk
        have HBb := Lib.hid (HBa.out.trans hbl)
        have hFb := HBb.out.size
        replace HZ := Lib.hid (Nat.le_trans HZ.out hbl.size)
        have B1 := Lib.hid (hkp _ _ _ (Nat.le_refl _) A1.out)
        have B2 := Lib.hid (hkp _ _ _ (Nat.le_refl _) A2.out)
        have B3 := Lib.hid (hkp _ _ _ (Nat.le_refl _) A3.out)
        have B4 := Lib.hid (hkp _ _ _ (Nat.le_refl _) A4.out)
        clear hbk hbl hkp HQ2 HBKa hFa HBa A1 A2 A3 A4
        have HQ3 := Lib.hid (book_keep (s2 := u3.heap.size) HBKb.out hFb HZs.out.2.2.1 (B3.out.raise (s' := u2.heap.size) fun b hb => (HV3.out b hb).1) (by rw [HN3.out]; omega) HM3.out.1 (by omega) (HUs.out.2.2.1) (fun b hb => (HV3.out b hb).2))
        go_wp2_with fail
        refine HQ3.out.mono ?_
        rintro e k3 ⟨rfl, hbk, hbl, hkp⟩
        have HBKc := Lib.hid hbk
        have HBc := Lib.hid (HBb.out.trans hbl)
        have hFc := HBc.out.size
        replace HZ := Lib.hid (Nat.le_trans HZ.out hbl.size)
        have C1 := Lib.hid (hkp _ _ _ (Nat.le_refl _) B1.out)
        have C2 := Lib.hid (hkp _ _ _ (Nat.le_refl _) B2.out)
        have C3 := Lib.hid (hkp _ _ _ (Nat.le_refl _) B3.out)
        have C4 := Lib.hid (hkp _ _ _ (Nat.le_refl _) B4.out)
        clear hbk hbl hkp HQ3 HBKb hFb HBb B1 B2 B3 B4
        have HQ4 := Lib.hid (book_keep (s2 := u4.heap.size) HBKc.out hFc HZs.out.2.2.2 (C4.out.raise (s' := u3.heap.size) fun b hb => (HV4.out b hb).1) (by rw [HN4.out]; omega) HM4.out.1 (by omega) (HUs.out.2.2.2) (fun b hb => (HV4.out b hb).2))
        go_wp2_with fail
        refine HQ4.out.mono ?_
        rintro e k4 ⟨rfl, hbk, hbl, hkp⟩
        have HBKd := Lib.hid hbk
        have HBd := Lib.hid (HBc.out.trans hbl)
        have hFd := HBd.out.size
        replace HZ := Lib.hid (Nat.le_trans HZ.out hbl.size)
        have D1 := Lib.hid (hkp _ _ _ (Nat.le_refl _) C1.out)
        have D2 := Lib.hid (hkp _ _ _ (Nat.le_refl _) C2.out)
        have D3 := Lib.hid (hkp _ _ _ (Nat.le_refl _) C3.out)
        have D4 := Lib.hid (hkp _ _ _ (Nat.le_refl _) C4.out)
        clear hbk hbl hkp HQ4 HBKc hFc HBc C1 C2 C3 C4
        have HD1 := D1
        have HD2 := D2
        have HD3 := D3
        have HD4 := D4
        clear D1 D2 D3 D4
        go_wp2_with fail
        refine (HR1.out _ HBd.out).mono ?_
        rintro e t1 ⟨hout, hbt⟩
        obtain ⟨p1, d1, rfl, hs⟩ := out_rows (B := WF.heap.size) HBLF.out hout
        simp only [HN1.out] at hs ⊢
        have HT1 := Lib.hid (HBd.out.trans (hbt.mono HBd.out.size))
        replace HZ := Lib.hid (Nat.le_trans HZ.out hbt.size)
        replace HD1 := Lib.hid (HD1.out.below hbt)
        replace HD2 := Lib.hid (HD2.out.below hbt)
        replace HD3 := Lib.hid (HD3.out.below hbt)
        replace HD4 := Lib.hid (HD4.out.below hbt)
        have HBKt1 := Lib.hid (HBKd.out.below hbt)
        have HS1 := Lib.hid hs
        clear hout hbt hs HBKd
        go_wp2_with fail
        refine (HR2.out _ HT1.out).mono ?_
        rintro e t2 ⟨hout, hbt⟩
        obtain ⟨p2, d2, rfl, hs⟩ := out_rows (B := WF.heap.size) HBLF.out hout
        simp only [HN2.out] at hs ⊢
        have HT2 := Lib.hid (HT1.out.trans (hbt.mono HT1.out.size))
        replace HZ := Lib.hid (Nat.le_trans HZ.out hbt.size)
        replace HD1 := Lib.hid (HD1.out.below hbt)
        replace HD2 := Lib.hid (HD2.out.below hbt)
        replace HD3 := Lib.hid (HD3.out.below hbt)
        replace HD4 := Lib.hid (HD4.out.below hbt)
        replace HS1 := Lib.hid (HS1.out.below frow hbt)
        have HBKt2 := Lib.hid (HBKt1.out.below hbt)
        have HS2 := Lib.hid hs
        clear hout hbt hs HBKt1 HT1
        go_wp2_with fail
        refine (HR3.out _ HT2.out).mono ?_
        rintro e t3 ⟨hout, hbt⟩
        obtain ⟨p3, d3, rfl, hs⟩ := out_rows (B := WF.heap.size) HBLF.out hout
        simp only [HN3.out] at hs ⊢
        have HT3 := Lib.hid (HT2.out.trans (hbt.mono HT2.out.size))
        replace HZ := Lib.hid (Nat.le_trans HZ.out hbt.size)
        replace HD1 := Lib.hid (HD1.out.below hbt)
        replace HD2 := Lib.hid (HD2.out.below hbt)
        replace HD3 := Lib.hid (HD3.out.below hbt)
        replace HD4 := Lib.hid (HD4.out.below hbt)
        replace HS1 := Lib.hid (HS1.out.below frow hbt)
        replace HS2 := Lib.hid (HS2.out.below frow hbt)
        have HBKt3 := Lib.hid (HBKt2.out.below hbt)
        have HS3 := Lib.hid hs
        clear hout hbt hs HBKt2 HT2
        go_wp2_with fail
        refine (HR4.out _ HT3.out).mono ?_
        rintro e t4 ⟨hout, hbt⟩
        obtain ⟨p4, d4, rfl, hs⟩ := out_rows (B := WF.heap.size) HBLF.out hout
        simp only [HN4.out] at hs ⊢
        have HT4 := Lib.hid (HT3.out.trans (hbt.mono HT3.out.size))
        replace HZ := Lib.hid (Nat.le_trans HZ.out hbt.size)
        replace HD1 := Lib.hid (HD1.out.below hbt)
        replace HD2 := Lib.hid (HD2.out.below hbt)
        replace HD3 := Lib.hid (HD3.out.below hbt)
        replace HD4 := Lib.hid (HD4.out.below hbt)
        replace HS1 := Lib.hid (HS1.out.below frow hbt)
        replace HS2 := Lib.hid (HS2.out.below frow hbt)
        replace HS3 := Lib.hid (HS3.out.below frow hbt)
        have HBKt4 := Lib.hid (HBKt3.out.below hbt)
        have HS4 := Lib.hid hs
        clear hout hbt hs HBKt3 HT3
        have HE1 := Lib.hid (show RowsS t4 WF.heap.size o1 r1 from by
          obtain ⟨oq, cq, eq, hq⟩ := HD1.out.sees
          cases eq
          exact hq)
        go_wp2_with fail
        refine (HSame.out _ o1 p1 c1 d1 r1 n1 HN1.out hn160 HE1.out HS1.out).mono ?_
        rintro e s1 ⟨rfl, hbt⟩
        have HW1 := Lib.hid (HT4.out.trans (hbt.mono HT4.out.size))
        replace HZ := Lib.hid (Nat.le_trans HZ.out hbt.size)
        have HBKs1 := Lib.hid (HBKt4.out.below hbt)
        replace HD2 := Lib.hid (HD2.out.below hbt)
        replace HS2 := Lib.hid (HS2.out.below frow hbt)
        replace HD3 := Lib.hid (HD3.out.below hbt)
        replace HS3 := Lib.hid (HS3.out.below frow hbt)
        replace HD4 := Lib.hid (HD4.out.below hbt)
        replace HS4 := Lib.hid (HS4.out.below frow hbt)
        clear hbt HE1 HT4 HBKt4 HD1 HS1
        have HE2 := Lib.hid (show RowsS s1 WF.heap.size o2 r2 from by
          obtain ⟨oq, cq, eq, hq⟩ := HD2.out.sees
          cases eq
          exact hq)
        go_wp2_with fail
        refine (HSame.out _ o2 p2 c2 d2 r2 n2 HN2.out hn260 HE2.out HS2.out).mono ?_
        rintro e s2 ⟨rfl, hbt⟩
        have HW2 := Lib.hid (HW1.out.trans (hbt.mono HW1.out.size))
        replace HZ := Lib.hid (Nat.le_trans HZ.out hbt.size)
        have HBKs2 := Lib.hid (HBKs1.out.below hbt)
        replace HD3 := Lib.hid (HD3.out.below hbt)
        replace HS3 := Lib.hid (HS3.out.below frow hbt)
        replace HD4 := Lib.hid (HD4.out.below hbt)
        replace HS4 := Lib.hid (HS4.out.below frow hbt)
        clear hbt HE2 HW1 HBKs1 HD2 HS2
        have HE3 := Lib.hid (show RowsS s2 WF.heap.size o3 r3 from by
          obtain ⟨oq, cq, eq, hq⟩ := HD3.out.sees
          cases eq
          exact hq)
        go_wp2_with fail
        refine (HSame.out _ o3 p3 c3 d3 r3 n3 HN3.out hn360 HE3.out HS3.out).mono ?_
        rintro e s3 ⟨rfl, hbt⟩
        have HW3 := Lib.hid (HW2.out.trans (hbt.mono HW2.out.size))
        replace HZ := Lib.hid (Nat.le_trans HZ.out hbt.size)
        have HBKs3 := Lib.hid (HBKs2.out.below hbt)
        replace HD4 := Lib.hid (HD4.out.below hbt)
        replace HS4 := Lib.hid (HS4.out.below frow hbt)
        clear hbt HE3 HW2 HBKs2 HD3 HS3
        have HE4 := Lib.hid (show RowsS s3 WF.heap.size o4 r4 from by
          obtain ⟨oq, cq, eq, hq⟩ := HD4.out.sees
          cases eq
          exact hq)
        go_wp2_with fail
        refine (HSame.out _ o4 p4 c4 d4 r4 n4 HN4.out hn460 HE4.out HS4.out).mono ?_
        rintro e s4 ⟨rfl, hbt⟩
        have HW4 := Lib.hid (HW3.out.trans (hbt.mono HW3.out.size))
        replace HZ := Lib.hid (Nat.le_trans HZ.out hbt.size)
        have HBKs4 := Lib.hid (HBKs3.out.below hbt)
        clear hbt HE4 HW3 HBKs3 HD4 HS4
        have HBn := HW4
        have HBKn := Lib.hid (show BkS WF.heap.size s4.heap.size s4 (4 * (k + 1)) from by
          have h9 := HBKs4.out
          rw [show 4 * k + 1 + 1 + 1 + 1 = 4 * (k + 1) by omega] at h9
          exact h9.up HZ.out)
        go_wp2
        go_roundw
        case rel => exact ⟨k + 1, by go_num, by omega, HBKn, HBn⟩
        case measure => simp [Go.RowKit.intOf]; omega
      · have j1 : ¬ (k : Int) < 2 := by omega
        have hk4 : k = 2 := by omega
        subst hk4
        have HBK1 := Lib.hid (show BkS WF.heap.size wr.heap.size wr 8 from HBK.out)
        obtain ⟨wo, hwo⟩ : ∃ wo : World, wr = wo := ⟨wr, rfl⟩
        subst wr
        clear HC1 HC2 HC3 HC4 HR1 HR2 HR3 HR4 HM1 HM2 HM3 HM4 HBK hk2
        have hoz := HB.out.size
        go_wp2_with fail
        go_loopw [37] (fun v37 wr => ∃ i : Nat, v37 = .int .i64 i ∧ i ≤ nA ∧ Hid (Below wo.heap.size wo wr)) (fun v37 _ => nA - (Go.RowKit.intOf v37).toNat)
        case atStart => exact ⟨0, rfl, Nat.zero_le _, Lib.hid (Below.refl _ _)⟩
        case round =>
          obtain ⟨i, rfl, hi, HBi⟩ := hrel
          by_cases hin : i < nA
          · have j2 : (i : Int) < nA := by omega
            obtain ⟨x, hx⟩ := get_ltG HNA.out hin
            have HBw := Lib.hid (HB.out.trans (HBi.out.mono hoz))
            obtain ⟨b, off, rfl, hR⟩ := (HSAF.out.below frow HBw.out).at hx
            obtain ⟨oL, cL, q1, _, hL, lL⟩ := row_at hR hx
            have hsm := HA6.out.2 x (List.mem_of_getElem? hx)
            obtain ⟨nL, hnL⟩ : ∃ nL, x.1.length = nL := ⟨_, rfl⟩
            rw [hnL] at q1
            obtain ⟨key, hkey⟩ : ∃ key, keyR mode ns x.1 = key := ⟨_, rfl⟩
            obtain ⟨nK, hnK⟩ : ∃ nK, key.length = nK := ⟨_, rfl⟩
            have hlk : key.length ≤ maxLen := by rw [← hkey]; exact Nat.le_trans (key_len _ _ _) lL
            have HCL := Lib.hid (fun (W : World) (h : Below wr.heap.size wr W) => (h.cell (p := ⟨b, off + i * 2, none⟩) (World.block_lt_of_cell? _ _ q1)).trans q1)
            have HK1 := Lib.hid (fun (W : World) (hb : Hid (Below wr.heap.size wr W)) => (key_any mode on oL nn cn nL cL ns x.1 W HNN.out hnL hsm (by unfold maxLen; omega) (hL.sees.below hb.out) (HNF.out W (HBw.out.trans (hb.out.mono HBw.out.size)))).mono (fun e w' q => show ∃ o c, e = .returned (.slice o nK c) ∧ w'.cell? ⟨b, off + i * 2, none⟩ = some (.slice oL nL cL) ∧ Hid (LabS w' 0 o key) ∧ Hid (Below W.heap.size W w') ∧ Hid (Below wr.heap.size wr w') from by
              obtain ⟨⟨vk, rfl, hown⟩, hb2⟩ := q
              rw [hkey] at hown
              obtain ⟨o, c, rfl, hl, _⟩ := labs_own (C := 0) hown
              have h3 := hb.out.trans (hb2.mono hb.out.size)
              exact ⟨o, c, by rw [hnK], HCL.out _ h3, hl, hb2, h3⟩))
            have HK2 := Lib.hid (fun (W : World) (hb : Hid (Below wr.heap.size wr W)) => (rkey_any mode on oL nn cn nL cL ns x.1 W HNN.out hnL (by omega) (by have := hsm.len; omega) HCN.out (hL.sees.below hb.out) (HNF.out W (HBw.out.trans (hb.out.mono HBw.out.size)))).mono (fun e w' q => show ∃ o c, e = .returned (.slice o nK c) ∧ w'.cell? ⟨b, off + i * 2, none⟩ = some (.slice oL nL cL) ∧ Hid (LabS w' 0 o key) ∧ Hid (Below W.heap.size W w') ∧ Hid (Below wr.heap.size wr w') from by
              obtain ⟨⟨vk, rfl, hown⟩, hb2⟩ := q
              rw [hkey] at hown
              obtain ⟨o, c, rfl, hl, _⟩ := labs_own (C := 0) hown
              have h3 := hb.out.trans (hb2.mono hb.out.size)
              exact ⟨o, c, by rw [hnK], HCL.out _ h3, hl, hb2, h3⟩))
            have HK3 := Lib.hid (fun (W : World) (hb : Hid (Below wr.heap.size wr W)) (o1 o2 : Option Addr) (c1 c2 : Nat) (h1 : LabS W 0 o1 key) (h2 : LabS W 0 o2 key) => (show Calls Tryz.prog 21 #[.slice o1 nK c1, .slice o2 nK c2] W fun e w' => e = .returned (.bool true) ∧ w'.cell? ⟨b, off + i * 2, none⟩ = some (.slice oL nL cL) ∧ Hid (Below wr.heap.size wr w') from by
              subst hnK
              refine (sameLabels_any o1 o2 c1 c2 key key W hlk hlk h1.sees h2.sees).mono ?_
              rintro e w' ⟨rfl, hb2⟩
              have h3 := hb.out.trans (hb2.mono hb.out.size)
              exact ⟨by rw [(sameL_iff key key).2 rfl], HCL.out _ h3, h3⟩))
            have rb := Lib.hid (Below.refl wr.heap.size wr).drew
            clear hx hR hL hsm hnL hkey lL
            go_wp2_with fail
            go_region_held3 (fun w' => w'.cell? ⟨b, off + i * 2, none⟩ = some (.slice oL nL cL)) (first | exact p3 | exact p2 | exact p1 | exact q1) (first
              | (go_at_call 22; first | (go_fit (HK1.out _ tb2); rintro e wq1 ⟨o1, c1, rfl, p1, l1, d1, tb1⟩; have hlast := 1) | (go_fit (HK1.out _ rb); rintro e wq1 ⟨o1, c1, rfl, p1, l1, d1, tb1⟩))
              | (go_at_call 23; first | (go_fit (HK2.out _ tb1); rintro e wq2 ⟨o2, c2, rfl, p2, l2, d2, tb2⟩; have hlast := 2) | (go_fit (HK2.out _ rb); rintro e wq2 ⟨o2, c2, rfl, p2, l2, d2, tb2⟩))
              | (go_at_call 21; first | (go_fit (HK3.out _ tb2 _ _ _ _ (l1.out.below d2.out) l2.out); rintro e wq3 ⟨rfl, p3, tb3⟩) | (go_fit (HK3.out _ tb1 _ _ _ _ l1.out (l2.out.below d1.out)); rintro e wq3 ⟨rfl, p3, tb3⟩)))
            all_goals
              have HBn := Lib.hid (HBi.out.trans (tb3.out.mono HBi.out.size))
              go_wp2
              go_roundw
              case rel => exact ⟨i + 1, by go_num, by omega, HBn⟩
              case measure => simp [Go.RowKit.intOf]; omega
          · have j2 : ¬ (i : Int) < nA := by omega
            have HBw := Lib.hid (HB.out.trans (HBi.out.mono hoz))
            have HBKi := Lib.hid (HBK1.out.below HBi.out)
            have HX8 := Lib.hid (HXF.out.below HBw.out)
            have HR8 := Lib.hid (right_row (some ⟨gX, 0, none⟩) nA cX A wr BL HNA.out (by unfold maxLen; omega) HX8.out.rows)
            go_wp2_with fail
            refine HR8.out.mono ?_
            rintro e w11 ⟨rfl, b11⟩
            have HB11 := Lib.hid (HBw.out.trans (b11.mono HBw.out.size))
            have HBK11 := Lib.hid (HBKi.out.below b11)
            have HQ8 := Lib.hid (rrightR_any oA nA cA A w11 BL (Nat.le_trans HBLF.out HB11.out.size) HNA.out (by unfold maxLen; omega) HA6.out.2 (HSAF.out.below frow HB11.out))
            clear b11 HR8 HX8 HBKi
            go_wp2_with fail
            refine HQ8.out.mono ?_
            rintro e w12 ⟨rfl, b12⟩
            have HB12 := Lib.hid (HB11.out.trans (b12.mono HB11.out.size))
            have HBK12 := Lib.hid (HBK11.out.below b12)
            have HSt1 := Lib.hid (staysR_any gX cX oA nA cA A BL w12 HNA.out (by omega) (HXF.out.below HB12.out) (HSAF.out.below frow HB12.out))
            clear b12 HQ8 HBK11 HB11
            go_wp2_with fail
            refine HSt1.out.mono ?_
            rintro e w13 ⟨rfl, b13⟩
            have HB13 := Lib.hid (HB12.out.trans (b13.mono HB12.out.size))
            have HBK13 := Lib.hid (HBK12.out.below b13)
            have HSt2 := Lib.hid (staysR_any gY cY oB nB cB C BL w13 HNB.out (by omega) (HYF.out.below HB13.out) (HSBF.out.below frow HB13.out))
            clear b13 HSt1 HBK12 HB12
            go_wp2_with fail
            refine HSt2.out.mono ?_
            rintro e w14 ⟨rfl, b14⟩
            have HB14 := Lib.hid (HB13.out.trans (b14.mono HB13.out.size))
            have HBK14 := Lib.hid (HBK13.out.below b14)
            have HAp := Lib.hid (book_apart HBK14.out HB14.out (Nat.le_refl _))
            clear b14 HSt2 HBK13 HB13
            go_wp2_with fail
            refine HAp.out.mono ?_
            rintro e w15 ⟨rfl, b15⟩
            go_wp2
            go_ret
            exact ⟨rfl, HWF.out.trans (b15.mono HWF.out.size)⟩
end Go.Proofs.YtbdnonphkobkoaaGreat.Vec
