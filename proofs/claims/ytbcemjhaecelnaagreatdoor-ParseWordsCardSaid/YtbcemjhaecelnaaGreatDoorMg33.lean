import Derived.Test.YtbcemjhaecelnaaGreatDoorMg32
import Derived.Deep.LoopGhost
import Derived.Deep.CutRange
section
set_option maxHeartbeats 8000000
set_option maxRecDepth 100000
namespace Go.Proofs.YtbcemjhaecelnaaGreatDoor.Drd
open Go.RowKit Go.Lib
open Go.Proofs.YtbcemjhaecelnaaGreatDoor.Par
open Go.Proofs.YtbcemjhaecelnaaGreatDoor.Sto
theorem op_ways (tk : ByteArray) : ((tk.toList == [61]) = true /\ opS tk.data.toList = 1) \/ ((tk.toList == [61]) = false /\ (tk.toList == [33, 61]) = true /\ opS tk.data.toList = 2) \/ ((tk.toList == [61]) = false /\ (tk.toList == [33, 61]) = false /\ (tk.toList == [61, 126]) = true /\ opS tk.data.toList = 3) \/ ((tk.toList == [61]) = false /\ (tk.toList == [33, 61]) = false /\ (tk.toList == [61, 126]) = false /\ (tk.toList == [33, 126]) = true /\ opS tk.data.toList = 4) \/ ((tk.toList == [61]) = false /\ (tk.toList == [33, 61]) = false /\ (tk.toList == [61, 126]) = false /\ (tk.toList == [33, 126]) = false /\ opS tk.data.toList = 0) := by
 rw [zao, zao, zao, zao]
 unfold opS
 by_cases h1 : tk.data.toList = [61]
 ·left; simp [h1]
 by_cases h2 : tk.data.toList = [33, 61]
 ·right; left; simp [h2]
 by_cases h3 : tk.data.toList = [61, 126]
 ·right; right; left; simp [h3]
 by_cases h4 : tk.data.toList = [33, 126]
 ·right; right; right; left; simp [h4]
 ·right; right; right; right; simp [h1, h2, h3, h4]
def zhz : Prop := ∀ (o : Option Addr) (n c : Nat) (ms : List Mat) (P : Nat -> Prop) (W : World), ms.length = n -> n <= 1000000 -> (∀ m ∈ ms, m.1.size <= 1000000 /\ m.2.2.size <= 1000000) -> za2 W P o 3 (ms.map encM) -> Calls Tryz.prog 116 #[.slice o n c] W fun e w' => e = .returned (.bool (zbt ms)) /\ Below W.heap.size W w'
theorem dsel_any (hM : zhz) (bd : Nat) (l : List Tq) (nn : Nat) (hn : nn <= 1000000000) (w : World) (h : Rdd w bd l nn false) :
 Calls Tryz.prog 99 #[.pointer (some ⟨bd, 0, none⟩)] w (DRes w bd nn l (selD l)) := by
 obtain ⟨ie, hi, hz0, hz1, hz2⟩ := info_parts ziT
 have hfar := h.lt
 have hfew := h.few
 have HOK := zh h.ok
 have HS0 := zh (SelS.start h)
 have HMC := zh hM
 obtain ⟨o, c, h1, hc, hm, h2⟩ := h
 obtain ⟨⟨c0, c1, c2⟩, f0, f1, f2⟩ := zav h1
 have H2 := zh h2
 clear h1 hM h2 hm
 go_enter Tryz.func99, Tryz.ntmps99
 go_upto_region 2 with fail
 go_cut [32] from 6 (fun u32 wx => u32 = .bool (zdU l) /\ Hid (SelS w wx bd nn l false ⟨#[]⟩ 0 (.slice none 0 0) []))
 case first =>
  cases l with
  | nil =>
    have HC := zh c0
    clear c0
    have c0 : w.cell? ⟨bd, 0, none⟩ = some (.slice o 0 c) := HC.out
    go_wp2
    go_meet
    case rel => exact ⟨rfl, HS0.out⟩
  | cons x t =>
    rcases H2.out with h2 | ⟨b, off, rfl, hb, hs⟩
    ·cases h2
    have hlow := hs.low
    have d0 := hs.at0 0 x rfl
    have d2 := hs.at2 0 x rfl
    simp only [Nat.zero_mul, Nat.add_zero] at d0 d2
    obtain ⟨n, hnn⟩ : ∃ n, (x :: t).length = n := ⟨_, rfl⟩
    rw [hnn] at c0 hc hfew
    have h0 : 0 < n := by rw [<- hnn]; simp
    have i0 : (0 : Int) < n := by omega
    by_cases hk : x.1 = 1
    ·rw [hk] at d0
     obtain ⟨ty, hty⟩ : ∃ ty : ByteArray, ty = ⟨x.2.toArray⟩ := ⟨_, rfl⟩
     rw [<- hty] at d2
     have HC := zh (fun W => down_any ty W)
     obtain ⟨r, hr⟩ : ∃ r, ownB ty.data.toList = r := ⟨_, rfl⟩
     rw [hr] at HC
     have HH := zh (show zdU (x :: t) = !r by
      show (x.1 == 1 && !ownB x.2) = !r
      rw [<- hr, hty]; simp [hk])
     clear hr hty hk hs
     go_wp2_with fail
     refine (HC.out _).mono ?_
     rintro e w1 ⟨rfl, rfl⟩
     go_wp2
     go_meet
     case rel => exact ⟨by rw [HH.out], HS0.out⟩
    ·have HH := zh (show zdU (x :: t) = false by
      show (x.1 == 1 && !ownB x.2) = false
      simp [hk])
     have e1 : ((x.1 : Int) == 1) = false := by simp; omega
     have e2 : ¬ ((x.1 : Int) = 1) := by omega
     clear hk hs
     go_wp2
     go_meet
     case rel => exact ⟨by rw [HH.out], HS0.out⟩
 case rest =>
 obtain ⟨rfl, HS1⟩ := hcut
 obtain ⟨hs, hhs⟩ : ∃ hs, zdU l = hs := ⟨_, rfl⟩
 have HHS := zh hhs
 rw [hhs]
 clear hhs c0 c1 c2 f0 f1 f2 hc H2
 go_upto_if 32 with fail
 go_cut [] from 6 (fun wx => Hid (SelS w wx bd nn (selR l) false (bz (selT l)) 0 (.slice none 0 0) []))
 case first =>
  cases hs with
  | false =>
    have HE := zh (show selR l = l /\ selT l = [] by unfold selR selT; rw [HHS.out]; exact ⟨rfl, rfl⟩)
    go_wp2
    go_meet
    case rel =>
     rw [HE.out.1, HE.out.2]; exact HS1.out
  | true =>
    have HE := zh (show selR l = resK 1 false l /\ selT l = txtK 1 false l /\ badK 1 false l = false by
     have hK : isK 1 l = true := by
      have := HHS.out
      cases l with
      | nil => cases this
      | cons x t => simp [zdU] at this; simp [isK, this.1]
     unfold selR selT resK txtK badK
     rw [HHS.out, hK]; exact ⟨rfl, rfl, rfl⟩)
    have HT := zh (take_any bd l nn false 1 wc HS1.out.rd)
    go_wp2_with fail
    refine HT.out.mono ?_
    rintro e w1 ⟨rfl, hr1, hg1⟩
    have HS2 := zh (HS1.out.call hr1 hg1)
    clear hr1 hg1
    obtain ⟨⟨q0, q1, q2, q3, q4, q5, q6⟩, f0, f1, f2, f3, f4, f5, f6⟩ := HS2.out.box.reads
    go_wp2
    go_meet
    case rel =>
     have := HS2.out.text (bz (txtK 1 false l))
     rw [HE.out.1, HE.out.2.1]
     rw [HE.out.2.2] at this
     exact this
 case rest =>
 obtain ⟨rr, hrr⟩ : ∃ rr, selR l = rr := ⟨_, rfl⟩
 obtain ⟨tt, htt⟩ : ∃ tt, selT l = tt := ⟨_, rfl⟩
 have hle : rr.length <= l.length := by rw [<- hrr]; exact selR_le l
 have HDD := zh (show selD l = match zb0 (!tt.isEmpty) rr with
  | none => none
  | some (ms, m) => if zbt ms then (za4 m).map fun p => (.sel (bz tt) p.1 ms, p.2) else none by
    unfold selD; rw [hrr, htt]; rfl)
 have HSA := zh (show SelS w wc bd nn rr false (bz tt) 0 (.slice none 0 0) [] by
  have := Hid.out hcut; rw [hrr, htt] at this; exact this)
 clear hcut hrr htt HS1 HHS
 obtain ⟨T, hT⟩ : ∃ T, zb0 (!tt.isEmpty) rr = T := ⟨_, rfl⟩
 rw [hT] at HDD
 obtain ⟨q, hq⟩ : ∃ q, isT 5 [123] rr = q := ⟨_, rfl⟩
 have HQ := zh hq
 have HT := zh hT
 have HI := zh (zby bd rr nn false 5 ⟨#[123]⟩ wc HSA.out.rd)
 rw [show (⟨#[123]⟩ : ByteArray).data.toList = [123] from rfl, hq, Bool.not_false, Bool.true_and] at HI
 clear hq hT
 go_wp2_with fail
 refine HI.out.mono ?_
 rintro e w1 ⟨rfl, rfl⟩
 go_upto_if 37 with fail
 go_cut [] from 36 (fun wx => ∃ (l2 : List Tq) (b2 : Bool) (v : Value) (acc : List Mat), Hid (SelS w wx bd nn l2 b2 (bz tt) 0 v acc) /\ Hid (BrS T l2 acc b2) /\ l2.length <= rr.length /\ Hid (b2 = false -> acc.length <= 1000000))
 case first =>
  cases q with
  | false =>
    obtain ⟨⟨q0, q1, q2, q3, q4, q5, q6⟩, f0, f1, f2, f3, f4, f5, f6⟩ := HSA.out.box.reads
    cases tt with
    | nil =>
      have HTT := zh (show T = none by
       rw [<- HT.out]; unfold zb0; rw [if_neg (by rw [HQ.out]; simp)]; rfl)
      obtain ⟨o2, c2, g1, -⟩ := HSA.out.rd
      obtain ⟨⟨d0, d1, d2⟩, k0, k1, k2⟩ := zav g1
      clear g1
      have HQ1 := zh q1
      clear q1
      have q1 : wc.cell? ⟨w.heap.size + 1, 1, none⟩ = some (.string ⟨#[]⟩) := HQ1.out
      go_wp2
      go_meet
      case rel => exact ⟨rr, true, .slice none 0 0, [], HSA.out.bad true, HTT.out, Nat.le_refl _, fun h => by cases h⟩
    | cons c0 cs =>
      have HTT := zh (show T = some ([], rr) by
       rw [<- HT.out]; unfold zb0; rw [if_neg (by rw [HQ.out]; simp)]; rfl)
      obtain ⟨ts, hts⟩ : ∃ ts : ByteArray, bz (c0 :: cs) = ts := ⟨_, rfl⟩
      rw [hts] at q1
      have hne : ¬ ts = ⟨#[]⟩ := by
       rintro rfl
       have := congrArg (fun b : ByteArray => b.data.toList) hts
       simp [bz] at this
      have n4 : ts.toList.isEmpty = false := by
       rw [ByteArray.toList_eq]
       cases hx : ts.data.toList with
       | nil => exact absurd (by cases ts with | mk d => simp at hx; subst hx; rfl) hne
       | cons a b => rfl
      clear hts hne
      go_wp2
      go_meet
      case rel => exact ⟨rr, false, .slice none 0 0, [], HSA.out, HTT.out, Nat.le_refl _, fun _ => Nat.zero_le _⟩
  | true =>
    have hlt := zaw (k := 5) (t := [123]) (l := rr) HQ.out
    have HSG := zh (zdh bd rr nn ⟨#[123]⟩ HQ.out wc HSA.out.rd)
    go_wp2_with fail
    refine HSG.out.mono ?_
    rintro e w1 ⟨rfl, hr1, hg1⟩
    have HSB := zh (HSA.out.call hr1 hg1)
    have HMT := zh (show MT T rr.tail [] false by
     refine ⟨by simp; omega, rr.tail.length + 1, by omega, .inl ⟨rfl, ?_⟩⟩
     rw [<- HT.out]; unfold zb0; rw [if_pos HQ.out]; rfl)
    clear hr1 hg1
    go_wp2_with fail
    go_loopg [] (rr.tail.length + 1) (fun k wr => ∃ (l2 : List Tq) (b2 : Bool) (v : Value) (acc : List Mat), k = (if b2 then 0 else l2.length + 1) /\ Hid (SelS w wr bd nn l2 b2 (bz tt) 0 v acc) /\ Hid (MT T l2 acc b2) /\ l2.length + 1 <= rr.length)
    case atStart => exact ⟨rr.tail, false, .slice none 0 0, [], rfl, HSB.out, HMT.out, by omega⟩
    case round =>
     obtain ⟨l2, b2, v, acc, hkx, HS, HM, hl2⟩ := hrel
     obtain ⟨o2, c2, g1, -⟩ := HS.out.rd
     obtain ⟨⟨d0, d1, d2⟩, k0, k1, k2⟩ := zav g1
     clear g1
     cases b2 with
     | true =>
       have HSG := zh (zd1 bd l2 nn true ⟨#[125]⟩ (.inl rfl) wr HS.out.rd)
       go_wp2_with fail
       refine HSG.out.mono ?_
       rintro e w2 ⟨rfl, hr2, hg2⟩
       have HSC := zh (HS.out.call hr2 hg2)
       clear hr2 hg2 d0 d1 d2 k0 k1 k2
       go_wp2
       go_meet
       case rel => exact ⟨l2, true, v, acc, HSC.out, HM.out, by omega, fun h => by cases h⟩
     | false =>
     obtain ⟨p, hp⟩ : ∃ p, isT 5 [125] l2 = p := ⟨_, rfl⟩
     have HI := zh (zby bd l2 nn false 5 ⟨#[125]⟩ wr HS.out.rd)
     rw [show (⟨#[125]⟩ : ByteArray).data.toList = [125] from rfl, hp, Bool.not_false, Bool.true_and] at HI
     have HP := zh hp
     clear hp
     cases p with
     | true =>
       have HSG := zh (zdh bd l2 nn ⟨#[125]⟩ HP.out wr HS.out.rd)
       have hlt2 := zaw (k := 5) (t := [125]) (l := l2) HP.out
       go_wp2_with fail
       refine HI.out.mono ?_
       rintro e w1 ⟨rfl, rfl⟩
       go_wp2_with fail
       refine HSG.out.mono ?_
       rintro e w2 ⟨rfl, hr2, hg2⟩
       have HSC := zh (HS.out.call hr2 hg2)
       clear hr2 hg2 d0 d1 d2 k0 k1 k2
       go_wp2
       go_meet
       case rel => exact ⟨l2.tail, false, v, acc, HSC.out, mt_end HM.out HP.out, by omega, fun _ => by have := HM.out.1; omega⟩
     | false =>
     obtain ⟨ov, cv, rfl⟩ := own_shape HS.out.own
     obtain ⟨⟨q0, q1, q2, q3, q4, q5, q6⟩, f0, f1, f2, f3, f4, f5, f6⟩ := HS.out.box.reads
     go_wp2_with fail
     refine HI.out.mono ?_
     rintro e w1 ⟨rfl, rfl⟩
     go_upto_if 53 with fail
     go_cut [] from 40 to 84 (fun wx => ∃ (l3 : List Tq) (b3 : Bool), Hid (SelS w wx bd nn l3 b3 (bz tt) 0 (.slice ov acc.length cv) acc) /\ Hid (MG T l3 acc b3) /\ l3.length <= l2.length)
     case first =>
      cases acc with
      | nil =>
        go_wp2
        go_meet
        case rel => exact ⟨l2, false, HS.out, mt_first HM.out HP.out, Nat.le_refl _⟩
      | cons a0 tl =>
        have HSG := zh (sign_any bd l2 nn false ⟨#[44]⟩ wr HS.out.rd)
        obtain ⟨na, hna⟩ : ∃ na, (a0 :: tl).length = na := ⟨_, rfl⟩
        have i0 : (0 : Int) < na := by rw [<- hna]; simp
        rw [hna] at q5 ⊢
        clear hna
        go_wp2_with fail
        refine HSG.out.mono ?_
        rintro e w2 ⟨rfl, hr2, hg2⟩
        have HSC := zh (HS.out.call hr2 hg2)
        clear hr2 hg2 d0 d1 d2 k0 k1 k2
        go_wp2
        go_meet
        case rel =>
         exact ⟨resS [44] false l2, badS [44] false l2, HSC.out, mt_more (by simp) HM.out HP.out, zdi _ _ _⟩
     case rest =>
     obtain ⟨l3, b3, HS3, HG3, hl3⟩ := hcut
     have hfa : acc.length <= 1000000 := by have := HM.out.1; omega
     clear HS HM d0 d1 d2 k0 k1 k2 q0 q1 q2 q3 q4 q5 q6 f0 f1 f2 f3 f4 f5 f6 HI HP
     have HTK := zh (take_any bd l3 nn b3 1 wc HS3.out.rd)
     obtain ⟨nm, hnm⟩ : ∃ nm, bz (txtK 1 b3 l3) = nm := ⟨_, rfl⟩
     rw [hnm] at HTK
     have HNM := zh hnm
     clear hnm
     go_wp2_with fail
     refine HTK.out.mono ?_
     rintro e w1 ⟨rfl, hr1, hg1⟩
     have HS4 := zh (HS3.out.call hr1 hg1)
     have hs1 := HS4.out.two
     clear hr1 hg1
     have HTO := zh (take_any bd (resK 1 b3 l3) nn (badK 1 b3 l3) 5 (w1.alloc (Obj.cells #[.string nm, .int .i64 0, .string ⟨#[]⟩] 40)) (HS4.out.rd.alloc _))
     obtain ⟨tk, htk⟩ : ∃ tk, bz (txtK 5 (badK 1 b3 l3) (resK 1 b3 l3)) = tk := ⟨_, rfl⟩
     rw [htk] at HTO
     have HTKN := zh (show tk.data.toList = mOp b3 l3 by rw [<- htk]; rfl)
     clear htk
     go_wp2_with fail
     refine HTO.out.mono ?_
     rintro e w2 ⟨rfl, hr2, hg2⟩
     have HMB := zh (show w2.heap[w1.heap.size]? = some (.cells #[.string nm, .int .i64 0, .string ⟨#[]⟩] 40 (0, 0)) from zaa (show (w1.alloc (Obj.cells #[.string nm, .int .i64 0, .string ⟨#[]⟩] 40)).heap[w1.heap.size]? = _ from Array.getElem?_push_size) hg2 (by omega))
     have HGM := zh (grown_trans (grown_alloc (grown_refl w1 (some bd)) (Obj.cells #[.string nm, .int .i64 0, .string ⟨#[]⟩] 40)) hg2)
     have HRM := zh (show Rdd w2 bd (zbG b3 l3) nn (zcF b3 l3) from hr2)
     have hsz2 : w1.heap.size + 1 <= w2.heap.size := by simpa using hg2.size
     clear hr2 hg2
     obtain ⟨⟨m0, m1, m2⟩, g0, g1, g2⟩ := zav HMB.out
     obtain ⟨vl, hvl⟩ : ∃ vl, bz (mVal b3 l3) = vl := ⟨_, rfl⟩
     have HVL := zh hvl
     clear hvl
     rcases op_ways tk with ⟨t1, HOP⟩ | ⟨t1, t2, HOP⟩ | ⟨t1, t2, t3, HOP⟩ | ⟨t1, t2, t3, t4, HOP⟩ | ⟨t1, t2, t3, t4, HOP⟩
     ·have HOP := zh HOP
      have HR3 := zh (show Rdd (w2.setCell ⟨w1.heap.size, 1, none⟩ (.int .i64 1)) bd (zbG b3 l3) nn (zaQ b3 l3) by
       have e : zaQ b3 l3 = zcF b3 l3 := by unfold zaQ; rw [<- HTKN.out, HOP.out]; simp
       rw [e]; exact HRM.out.keep fun k hk => Below.heap_setCell _ _ _ _ (by show k ≠ w1.heap.size; omega))
      have HB3 := zh (show (w2.setCell ⟨w1.heap.size, 1, none⟩ (.int .i64 1)).heap[w1.heap.size]? = some (.cells #[.string nm, .int .i64 1, .string ⟨#[]⟩] 40 (0, 0)) from heap_setCell_same w2 w1.heap.size 1 #[_, _, _] 40 (.int .i64 1) HMB.out)
      have HG3' := zh (show w1.grownBy (w2.setCell ⟨w1.heap.size, 1, none⟩ (.int .i64 1)) (some bd) from grown_setNew HGM.out (Nat.le_refl _) 1 _)
      have HTV := zh (take_any bd (zbG b3 l3) nn (zaQ b3 l3) 3 (w2.setCell ⟨w1.heap.size, 1, none⟩ (.int .i64 1)) HR3.out)
      rw [show bz (txtK 3 (zaQ b3 l3) (zbG b3 l3)) = vl from HVL.out] at HTV
      go_wp2_with fail
      refine HTV.out.mono ?_
      rintro e w4 ⟨rfl, hr4, hg4⟩
      have HG4 := zh (grown_trans HG3'.out hg4)
      have HB4 := zh (show w4.heap[w1.heap.size]? = some (.cells #[.string nm, .int .i64 1, .string ⟨#[]⟩] 40 (0, 0)) from zaa HB3.out hg4 (by omega))
      have HR4 := zh (show Rdd w4 bd (mRes b3 l3) nn (mBad b3 l3) from hr4)
      have hsz4 : w1.heap.size + 1 <= w4.heap.size := by have := hg4.size; simp at this; omega
      clear hr4 hg4 m0 m1 m2 g0 g1 g2
      have HS5 := zh (HS4.out.call HR4.out HG4.out)
      obtain ⟨⟨m0, m1, m2⟩, g0, g1, g2⟩ := zav HB4.out
      obtain ⟨⟨q0, q1, q2, q3, q4, q5, q6⟩, f0, f1, f2, f3, f4, f5, f6⟩ := HS5.out.box.reads
      have HS6 := zh (HS4.out.call (HR4.out.keep fun k hk => Below.heap_setCell w4 ⟨w1.heap.size, 2, none⟩ (.string vl) k (by show k ≠ w1.heap.size; omega)) (grown_setNew HG4.out (Nat.le_refl _) 2 (.string vl)))
      have HS7 := zh (HS6.out.call (HS6.out.rd.alloc (Obj.cells #[.string nm, .int .i64 1, .string vl] 40)) (grown_alloc (grown_refl _ _) _))
      go_wp2_with (at_builtin; go_must (refine wpList_append_own _ rfl _ _ 24 rfl (w.heap.size + 2) 40 ie (.agg #[.string ⟨#[]⟩, .int .i64 0, .string ⟨#[]⟩]) 3 40 Tryz.underlying24 hi hz0 hz1 hz2 rfl (by decide) _ _ _ rfl HS7.out.own ⟨w4.heap.size, 0, none⟩ 1 1 [.string nm, .int .i64 1, .string vl] rfl rfl (zcP _ _ _ _ _ _ (by simp)) (zdH _ _ _) (by unfold maxLen; omega) (by omega) (by simp; omega) ?_); intro v' w5 hown' hgrow' hnil'; obtain ⟨o9, c9, rfl⟩ := own_shape hown'; have HO8 := zh (And.intro hown' hgrow'); have HB8 := zh (HS7.out.turn hgrow'); obtain ⟨⟨y0, y1, y2, y3, y4, y5, y6⟩, z0, z1, z2, z3, z4, z5, z6⟩ := HB8.out.reads; clear hown' hgrow' hnil')
      have HX := zh (show (bz (zdL b3 l3), ((opS (mOp b3 l3) : Nat) : Int), bz (mVal b3 l3)) = (nm, (1 : Int), vl) by
       rw [show bz (zdL b3 l3) = nm from HNM.out, HVL.out, <- HTKN.out, HOP.out]; rfl)
      have HSZ := zh (And.intro (show nm.size <= 1000 from HNM.out ▸ txt_size HS3.out.rd.ok) (show vl.size <= 1000 from HVL.out ▸ txt_size HR3.out.ok))
      have HS8 := zh (HS7.out.app HO8.out.2 (nm, (1 : Int), vl) HO8.out.1 ⟨by show nm.size <= 1000000; have := HSZ.out.1; omega, by show vl.size <= 1000000; have := HSZ.out.2; omega⟩ hfa)
      have HM8 := zh (HX.out ▸ zd4 HG3.out)
      have HLL := zh (show mBad b3 l3 = false -> (mRes b3 l3).length < l3.length from fun h => (m_ok h).2.2)
      have hmr : (mRes b3 l3).length <= l3.length := Nat.le_trans (zaX _ _ _) (Nat.le_trans (zaX _ _ _) (zaX _ _ _))
      clear q0 q1 q2 q3 q4 q5 q6 f0 f1 f2 f3 f4 f5 f6 m0 m1 m2 g0 g1 g2
      go_wp2
      go_roundg (if mBad b3 l3 then 0 else (mRes b3 l3).length + 1)
      case measure =>
       have := HLL.out
       cases hb : mBad b3 l3 with
       | true => rw [hkx]; simp
       | false => have := this hb; rw [hkx]; simp; omega
      case rel => exact ⟨mRes b3 l3, mBad b3 l3, _, acc ++ [(nm, (1 : Int), vl)], rfl, HS8.out, HM8.out, by omega⟩
     ·have HOP := zh HOP
      have HR3 := zh (show Rdd (w2.setCell ⟨w1.heap.size, 1, none⟩ (.int .i64 2)) bd (zbG b3 l3) nn (zaQ b3 l3) by
       have e : zaQ b3 l3 = zcF b3 l3 := by unfold zaQ; rw [<- HTKN.out, HOP.out]; simp
       rw [e]; exact HRM.out.keep fun k hk => Below.heap_setCell _ _ _ _ (by show k ≠ w1.heap.size; omega))
      have HB3 := zh (show (w2.setCell ⟨w1.heap.size, 1, none⟩ (.int .i64 2)).heap[w1.heap.size]? = some (.cells #[.string nm, .int .i64 2, .string ⟨#[]⟩] 40 (0, 0)) from heap_setCell_same w2 w1.heap.size 1 #[_, _, _] 40 (.int .i64 2) HMB.out)
      have HG3' := zh (show w1.grownBy (w2.setCell ⟨w1.heap.size, 1, none⟩ (.int .i64 2)) (some bd) from grown_setNew HGM.out (Nat.le_refl _) 1 _)
      have HTV := zh (take_any bd (zbG b3 l3) nn (zaQ b3 l3) 3 (w2.setCell ⟨w1.heap.size, 1, none⟩ (.int .i64 2)) HR3.out)
      rw [show bz (txtK 3 (zaQ b3 l3) (zbG b3 l3)) = vl from HVL.out] at HTV
      go_wp2_with fail
      refine HTV.out.mono ?_
      rintro e w4 ⟨rfl, hr4, hg4⟩
      have HG4 := zh (grown_trans HG3'.out hg4)
      have HB4 := zh (show w4.heap[w1.heap.size]? = some (.cells #[.string nm, .int .i64 2, .string ⟨#[]⟩] 40 (0, 0)) from zaa HB3.out hg4 (by omega))
      have HR4 := zh (show Rdd w4 bd (mRes b3 l3) nn (mBad b3 l3) from hr4)
      have hsz4 : w1.heap.size + 1 <= w4.heap.size := by have := hg4.size; simp at this; omega
      clear hr4 hg4 m0 m1 m2 g0 g1 g2
      have HS5 := zh (HS4.out.call HR4.out HG4.out)
      obtain ⟨⟨m0, m1, m2⟩, g0, g1, g2⟩ := zav HB4.out
      obtain ⟨⟨q0, q1, q2, q3, q4, q5, q6⟩, f0, f1, f2, f3, f4, f5, f6⟩ := HS5.out.box.reads
      have HS6 := zh (HS4.out.call (HR4.out.keep fun k hk => Below.heap_setCell w4 ⟨w1.heap.size, 2, none⟩ (.string vl) k (by show k ≠ w1.heap.size; omega)) (grown_setNew HG4.out (Nat.le_refl _) 2 (.string vl)))
      have HS7 := zh (HS6.out.call (HS6.out.rd.alloc (Obj.cells #[.string nm, .int .i64 2, .string vl] 40)) (grown_alloc (grown_refl _ _) _))
      go_wp2_with (at_builtin; go_must (refine wpList_append_own _ rfl _ _ 24 rfl (w.heap.size + 2) 40 ie (.agg #[.string ⟨#[]⟩, .int .i64 0, .string ⟨#[]⟩]) 3 40 Tryz.underlying24 hi hz0 hz1 hz2 rfl (by decide) _ _ _ rfl HS7.out.own ⟨w4.heap.size, 0, none⟩ 1 1 [.string nm, .int .i64 2, .string vl] rfl rfl (zcP _ _ _ _ _ _ (by simp)) (zdH _ _ _) (by unfold maxLen; omega) (by omega) (by simp; omega) ?_); intro v' w5 hown' hgrow' hnil'; obtain ⟨o9, c9, rfl⟩ := own_shape hown'; have HO8 := zh (And.intro hown' hgrow'); have HB8 := zh (HS7.out.turn hgrow'); obtain ⟨⟨y0, y1, y2, y3, y4, y5, y6⟩, z0, z1, z2, z3, z4, z5, z6⟩ := HB8.out.reads; clear hown' hgrow' hnil')
      have HX := zh (show (bz (zdL b3 l3), ((opS (mOp b3 l3) : Nat) : Int), bz (mVal b3 l3)) = (nm, (2 : Int), vl) by
       rw [show bz (zdL b3 l3) = nm from HNM.out, HVL.out, <- HTKN.out, HOP.out]; rfl)
      have HSZ := zh (And.intro (show nm.size <= 1000 from HNM.out ▸ txt_size HS3.out.rd.ok) (show vl.size <= 1000 from HVL.out ▸ txt_size HR3.out.ok))
      have HS8 := zh (HS7.out.app HO8.out.2 (nm, (2 : Int), vl) HO8.out.1 ⟨by show nm.size <= 1000000; have := HSZ.out.1; omega, by show vl.size <= 1000000; have := HSZ.out.2; omega⟩ hfa)
      have HM8 := zh (HX.out ▸ zd4 HG3.out)
      have HLL := zh (show mBad b3 l3 = false -> (mRes b3 l3).length < l3.length from fun h => (m_ok h).2.2)
      have hmr : (mRes b3 l3).length <= l3.length := Nat.le_trans (zaX _ _ _) (Nat.le_trans (zaX _ _ _) (zaX _ _ _))
      clear q0 q1 q2 q3 q4 q5 q6 f0 f1 f2 f3 f4 f5 f6 m0 m1 m2 g0 g1 g2
      go_wp2
      go_roundg (if mBad b3 l3 then 0 else (mRes b3 l3).length + 1)
      case measure =>
       have := HLL.out
       cases hb : mBad b3 l3 with
       | true => rw [hkx]; simp
       | false => have := this hb; rw [hkx]; simp; omega
      case rel => exact ⟨mRes b3 l3, mBad b3 l3, _, acc ++ [(nm, (2 : Int), vl)], rfl, HS8.out, HM8.out, by omega⟩
     ·have HOP := zh HOP
      have HR3 := zh (show Rdd (w2.setCell ⟨w1.heap.size, 1, none⟩ (.int .i64 3)) bd (zbG b3 l3) nn (zaQ b3 l3) by
       have e : zaQ b3 l3 = zcF b3 l3 := by unfold zaQ; rw [<- HTKN.out, HOP.out]; simp
       rw [e]; exact HRM.out.keep fun k hk => Below.heap_setCell _ _ _ _ (by show k ≠ w1.heap.size; omega))
      have HB3 := zh (show (w2.setCell ⟨w1.heap.size, 1, none⟩ (.int .i64 3)).heap[w1.heap.size]? = some (.cells #[.string nm, .int .i64 3, .string ⟨#[]⟩] 40 (0, 0)) from heap_setCell_same w2 w1.heap.size 1 #[_, _, _] 40 (.int .i64 3) HMB.out)
      have HG3' := zh (show w1.grownBy (w2.setCell ⟨w1.heap.size, 1, none⟩ (.int .i64 3)) (some bd) from grown_setNew HGM.out (Nat.le_refl _) 1 _)
      have HTV := zh (take_any bd (zbG b3 l3) nn (zaQ b3 l3) 3 (w2.setCell ⟨w1.heap.size, 1, none⟩ (.int .i64 3)) HR3.out)
      rw [show bz (txtK 3 (zaQ b3 l3) (zbG b3 l3)) = vl from HVL.out] at HTV
      go_wp2_with fail
      refine HTV.out.mono ?_
      rintro e w4 ⟨rfl, hr4, hg4⟩
      have HG4 := zh (grown_trans HG3'.out hg4)
      have HB4 := zh (show w4.heap[w1.heap.size]? = some (.cells #[.string nm, .int .i64 3, .string ⟨#[]⟩] 40 (0, 0)) from zaa HB3.out hg4 (by omega))
      have HR4 := zh (show Rdd w4 bd (mRes b3 l3) nn (mBad b3 l3) from hr4)
      have hsz4 : w1.heap.size + 1 <= w4.heap.size := by have := hg4.size; simp at this; omega
      clear hr4 hg4 m0 m1 m2 g0 g1 g2
      have HS5 := zh (HS4.out.call HR4.out HG4.out)
      obtain ⟨⟨m0, m1, m2⟩, g0, g1, g2⟩ := zav HB4.out
      obtain ⟨⟨q0, q1, q2, q3, q4, q5, q6⟩, f0, f1, f2, f3, f4, f5, f6⟩ := HS5.out.box.reads
      have HS6 := zh (HS4.out.call (HR4.out.keep fun k hk => Below.heap_setCell w4 ⟨w1.heap.size, 2, none⟩ (.string vl) k (by show k ≠ w1.heap.size; omega)) (grown_setNew HG4.out (Nat.le_refl _) 2 (.string vl)))
      have HS7 := zh (HS6.out.call (HS6.out.rd.alloc (Obj.cells #[.string nm, .int .i64 3, .string vl] 40)) (grown_alloc (grown_refl _ _) _))
      go_wp2_with (at_builtin; go_must (refine wpList_append_own _ rfl _ _ 24 rfl (w.heap.size + 2) 40 ie (.agg #[.string ⟨#[]⟩, .int .i64 0, .string ⟨#[]⟩]) 3 40 Tryz.underlying24 hi hz0 hz1 hz2 rfl (by decide) _ _ _ rfl HS7.out.own ⟨w4.heap.size, 0, none⟩ 1 1 [.string nm, .int .i64 3, .string vl] rfl rfl (zcP _ _ _ _ _ _ (by simp)) (zdH _ _ _) (by unfold maxLen; omega) (by omega) (by simp; omega) ?_); intro v' w5 hown' hgrow' hnil'; obtain ⟨o9, c9, rfl⟩ := own_shape hown'; have HO8 := zh (And.intro hown' hgrow'); have HB8 := zh (HS7.out.turn hgrow'); obtain ⟨⟨y0, y1, y2, y3, y4, y5, y6⟩, z0, z1, z2, z3, z4, z5, z6⟩ := HB8.out.reads; clear hown' hgrow' hnil')
      have HX := zh (show (bz (zdL b3 l3), ((opS (mOp b3 l3) : Nat) : Int), bz (mVal b3 l3)) = (nm, (3 : Int), vl) by
       rw [show bz (zdL b3 l3) = nm from HNM.out, HVL.out, <- HTKN.out, HOP.out]; rfl)
      have HSZ := zh (And.intro (show nm.size <= 1000 from HNM.out ▸ txt_size HS3.out.rd.ok) (show vl.size <= 1000 from HVL.out ▸ txt_size HR3.out.ok))
      have HS8 := zh (HS7.out.app HO8.out.2 (nm, (3 : Int), vl) HO8.out.1 ⟨by show nm.size <= 1000000; have := HSZ.out.1; omega, by show vl.size <= 1000000; have := HSZ.out.2; omega⟩ hfa)
      have HM8 := zh (HX.out ▸ zd4 HG3.out)
      have HLL := zh (show mBad b3 l3 = false -> (mRes b3 l3).length < l3.length from fun h => (m_ok h).2.2)
      have hmr : (mRes b3 l3).length <= l3.length := Nat.le_trans (zaX _ _ _) (Nat.le_trans (zaX _ _ _) (zaX _ _ _))
      clear q0 q1 q2 q3 q4 q5 q6 f0 f1 f2 f3 f4 f5 f6 m0 m1 m2 g0 g1 g2
      go_wp2
      go_roundg (if mBad b3 l3 then 0 else (mRes b3 l3).length + 1)
      case measure =>
       have := HLL.out
       cases hb : mBad b3 l3 with
       | true => rw [hkx]; simp
       | false => have := this hb; rw [hkx]; simp; omega
      case rel => exact ⟨mRes b3 l3, mBad b3 l3, _, acc ++ [(nm, (3 : Int), vl)], rfl, HS8.out, HM8.out, by omega⟩
     ·have HOP := zh HOP
      have HR3 := zh (show Rdd (w2.setCell ⟨w1.heap.size, 1, none⟩ (.int .i64 4)) bd (zbG b3 l3) nn (zaQ b3 l3) by
       have e : zaQ b3 l3 = zcF b3 l3 := by unfold zaQ; rw [<- HTKN.out, HOP.out]; simp
       rw [e]; exact HRM.out.keep fun k hk => Below.heap_setCell _ _ _ _ (by show k ≠ w1.heap.size; omega))
      have HB3 := zh (show (w2.setCell ⟨w1.heap.size, 1, none⟩ (.int .i64 4)).heap[w1.heap.size]? = some (.cells #[.string nm, .int .i64 4, .string ⟨#[]⟩] 40 (0, 0)) from heap_setCell_same w2 w1.heap.size 1 #[_, _, _] 40 (.int .i64 4) HMB.out)
      have HG3' := zh (show w1.grownBy (w2.setCell ⟨w1.heap.size, 1, none⟩ (.int .i64 4)) (some bd) from grown_setNew HGM.out (Nat.le_refl _) 1 _)
      have HTV := zh (take_any bd (zbG b3 l3) nn (zaQ b3 l3) 3 (w2.setCell ⟨w1.heap.size, 1, none⟩ (.int .i64 4)) HR3.out)
      rw [show bz (txtK 3 (zaQ b3 l3) (zbG b3 l3)) = vl from HVL.out] at HTV
      go_wp2_with fail
      refine HTV.out.mono ?_
      rintro e w4 ⟨rfl, hr4, hg4⟩
      have HG4 := zh (grown_trans HG3'.out hg4)
      have HB4 := zh (show w4.heap[w1.heap.size]? = some (.cells #[.string nm, .int .i64 4, .string ⟨#[]⟩] 40 (0, 0)) from zaa HB3.out hg4 (by omega))
      have HR4 := zh (show Rdd w4 bd (mRes b3 l3) nn (mBad b3 l3) from hr4)
      have hsz4 : w1.heap.size + 1 <= w4.heap.size := by have := hg4.size; simp at this; omega
      clear hr4 hg4 m0 m1 m2 g0 g1 g2
      have HS5 := zh (HS4.out.call HR4.out HG4.out)
      obtain ⟨⟨m0, m1, m2⟩, g0, g1, g2⟩ := zav HB4.out
      obtain ⟨⟨q0, q1, q2, q3, q4, q5, q6⟩, f0, f1, f2, f3, f4, f5, f6⟩ := HS5.out.box.reads
      have HS6 := zh (HS4.out.call (HR4.out.keep fun k hk => Below.heap_setCell w4 ⟨w1.heap.size, 2, none⟩ (.string vl) k (by show k ≠ w1.heap.size; omega)) (grown_setNew HG4.out (Nat.le_refl _) 2 (.string vl)))
      have HS7 := zh (HS6.out.call (HS6.out.rd.alloc (Obj.cells #[.string nm, .int .i64 4, .string vl] 40)) (grown_alloc (grown_refl _ _) _))
      go_wp2_with (at_builtin; go_must (refine wpList_append_own _ rfl _ _ 24 rfl (w.heap.size + 2) 40 ie (.agg #[.string ⟨#[]⟩, .int .i64 0, .string ⟨#[]⟩]) 3 40 Tryz.underlying24 hi hz0 hz1 hz2 rfl (by decide) _ _ _ rfl HS7.out.own ⟨w4.heap.size, 0, none⟩ 1 1 [.string nm, .int .i64 4, .string vl] rfl rfl (zcP _ _ _ _ _ _ (by simp)) (zdH _ _ _) (by unfold maxLen; omega) (by omega) (by simp; omega) ?_); intro v' w5 hown' hgrow' hnil'; obtain ⟨o9, c9, rfl⟩ := own_shape hown'; have HO8 := zh (And.intro hown' hgrow'); have HB8 := zh (HS7.out.turn hgrow'); obtain ⟨⟨y0, y1, y2, y3, y4, y5, y6⟩, z0, z1, z2, z3, z4, z5, z6⟩ := HB8.out.reads; clear hown' hgrow' hnil')
      have HX := zh (show (bz (zdL b3 l3), ((opS (mOp b3 l3) : Nat) : Int), bz (mVal b3 l3)) = (nm, (4 : Int), vl) by
       rw [show bz (zdL b3 l3) = nm from HNM.out, HVL.out, <- HTKN.out, HOP.out]; rfl)
      have HSZ := zh (And.intro (show nm.size <= 1000 from HNM.out ▸ txt_size HS3.out.rd.ok) (show vl.size <= 1000 from HVL.out ▸ txt_size HR3.out.ok))
      have HS8 := zh (HS7.out.app HO8.out.2 (nm, (4 : Int), vl) HO8.out.1 ⟨by show nm.size <= 1000000; have := HSZ.out.1; omega, by show vl.size <= 1000000; have := HSZ.out.2; omega⟩ hfa)
      have HM8 := zh (HX.out ▸ zd4 HG3.out)
      have HLL := zh (show mBad b3 l3 = false -> (mRes b3 l3).length < l3.length from fun h => (m_ok h).2.2)
      have hmr : (mRes b3 l3).length <= l3.length := Nat.le_trans (zaX _ _ _) (Nat.le_trans (zaX _ _ _) (zaX _ _ _))
      clear q0 q1 q2 q3 q4 q5 q6 f0 f1 f2 f3 f4 f5 f6 m0 m1 m2 g0 g1 g2
      go_wp2
      go_roundg (if mBad b3 l3 then 0 else (mRes b3 l3).length + 1)
      case measure =>
       have := HLL.out
       cases hb : mBad b3 l3 with
       | true => rw [hkx]; simp
       | false => have := this hb; rw [hkx]; simp; omega
      case rel => exact ⟨mRes b3 l3, mBad b3 l3, _, acc ++ [(nm, (4 : Int), vl)], rfl, HS8.out, HM8.out, by omega⟩
     ·have HOP := zh HOP
      have HR3 := zh (show Rdd (w2.setCell ⟨bd, 2, none⟩ (.bool true)) bd (zbG b3 l3) nn (zaQ b3 l3) by
       have e : zaQ b3 l3 = true := by unfold zaQ; rw [<- HTKN.out, HOP.out]; simp
       rw [e]; exact HRM.out.setBad true)
      have HB3 := zh (show (w2.setCell ⟨bd, 2, none⟩ (.bool true)).heap[w1.heap.size]? = some (.cells #[.string nm, .int .i64 0, .string ⟨#[]⟩] 40 (0, 0)) from (Below.heap_setCell _ _ _ _ (by show w1.heap.size ≠ bd; omega)).trans HMB.out)
      have HG3' := zh (show w1.grownBy (w2.setCell ⟨bd, 2, none⟩ (.bool true)) (some bd) from grown_trans HGM.out (grown_set _ _ _ _))
      obtain ⟨o9, c9, x1, -⟩ := HRM.out
      obtain ⟨⟨d0, d1, d2⟩, k0, k1, k2⟩ := zav x1
      clear x1
      have HTV := zh (take_any bd (zbG b3 l3) nn (zaQ b3 l3) 3 (w2.setCell ⟨bd, 2, none⟩ (.bool true)) HR3.out)
      rw [show bz (txtK 3 (zaQ b3 l3) (zbG b3 l3)) = vl from HVL.out] at HTV
      go_wp2_with fail
      refine HTV.out.mono ?_
      rintro e w4 ⟨rfl, hr4, hg4⟩
      have HG4 := zh (grown_trans HG3'.out hg4)
      have HB4 := zh (show w4.heap[w1.heap.size]? = some (.cells #[.string nm, .int .i64 0, .string ⟨#[]⟩] 40 (0, 0)) from zaa HB3.out hg4 (by omega))
      have HR4 := zh (show Rdd w4 bd (mRes b3 l3) nn (mBad b3 l3) from hr4)
      have hsz4 : w1.heap.size + 1 <= w4.heap.size := by have := hg4.size; simp at this; omega
      clear hr4 hg4 m0 m1 m2 g0 g1 g2
      have HS5 := zh (HS4.out.call HR4.out HG4.out)
      obtain ⟨⟨m0, m1, m2⟩, g0, g1, g2⟩ := zav HB4.out
      obtain ⟨⟨q0, q1, q2, q3, q4, q5, q6⟩, f0, f1, f2, f3, f4, f5, f6⟩ := HS5.out.box.reads
      have HS6 := zh (HS4.out.call (HR4.out.keep fun k hk => Below.heap_setCell w4 ⟨w1.heap.size, 2, none⟩ (.string vl) k (by show k ≠ w1.heap.size; omega)) (grown_setNew HG4.out (Nat.le_refl _) 2 (.string vl)))
      have HS7 := zh (HS6.out.call (HS6.out.rd.alloc (Obj.cells #[.string nm, .int .i64 0, .string vl] 40)) (grown_alloc (grown_refl _ _) _))
      go_wp2_with (at_builtin; go_must (refine wpList_append_own _ rfl _ _ 24 rfl (w.heap.size + 2) 40 ie (.agg #[.string ⟨#[]⟩, .int .i64 0, .string ⟨#[]⟩]) 3 40 Tryz.underlying24 hi hz0 hz1 hz2 rfl (by decide) _ _ _ rfl HS7.out.own ⟨w4.heap.size, 0, none⟩ 1 1 [.string nm, .int .i64 0, .string vl] rfl rfl (zcP _ _ _ _ _ _ (by simp)) (zdH _ _ _) (by unfold maxLen; omega) (by omega) (by simp; omega) ?_); intro v' w5 hown' hgrow' hnil'; obtain ⟨o9, c9, rfl⟩ := own_shape hown'; have HO8 := zh (And.intro hown' hgrow'); have HB8 := zh (HS7.out.turn hgrow'); obtain ⟨⟨y0, y1, y2, y3, y4, y5, y6⟩, z0, z1, z2, z3, z4, z5, z6⟩ := HB8.out.reads; clear hown' hgrow' hnil')
      have HX := zh (show (bz (zdL b3 l3), ((opS (mOp b3 l3) : Nat) : Int), bz (mVal b3 l3)) = (nm, (0 : Int), vl) by
       rw [show bz (zdL b3 l3) = nm from HNM.out, HVL.out, <- HTKN.out, HOP.out]; rfl)
      have HSZ := zh (And.intro (show nm.size <= 1000 from HNM.out ▸ txt_size HS3.out.rd.ok) (show vl.size <= 1000 from HVL.out ▸ txt_size HR3.out.ok))
      have HS8 := zh (HS7.out.app HO8.out.2 (nm, (0 : Int), vl) HO8.out.1 ⟨by show nm.size <= 1000000; have := HSZ.out.1; omega, by show vl.size <= 1000000; have := HSZ.out.2; omega⟩ hfa)
      have HM8 := zh (HX.out ▸ zd4 HG3.out)
      have HLL := zh (show mBad b3 l3 = false -> (mRes b3 l3).length < l3.length from fun h => (m_ok h).2.2)
      have hmr : (mRes b3 l3).length <= l3.length := Nat.le_trans (zaX _ _ _) (Nat.le_trans (zaX _ _ _) (zaX _ _ _))
      clear q0 q1 q2 q3 q4 q5 q6 f0 f1 f2 f3 f4 f5 f6 m0 m1 m2 g0 g1 g2
      go_wp2
      go_roundg (if mBad b3 l3 then 0 else (mRes b3 l3).length + 1)
      case measure =>
       have := HLL.out
       cases hb : mBad b3 l3 with
       | true => rw [hkx]; simp
       | false => have := this hb; rw [hkx]; simp; omega
      case rel => exact ⟨mRes b3 l3, mBad b3 l3, _, acc ++ [(nm, (0 : Int), vl)], rfl, HS8.out, HM8.out, by omega⟩
 case rest =>
 obtain ⟨l2, b2, v, acc, HS, HB, hl2, HA⟩ := hcut
 clear HI HQ HT HSA
 obtain ⟨wh, hwh⟩ : ∃ wh, wHas b2 l2 = wh := ⟨_, rfl⟩
 have HW := zh hwh
 have HI := zh (zby bd l2 nn b2 5 ⟨#[91]⟩ wc HS.out.rd)
 rw [show (!b2 && isT 5 (⟨#[91]⟩ : ByteArray).data.toList l2) = wh from hwh] at HI
 clear hwh
 go_wp2_with fail
 refine HI.out.mono ?_
 rintro e w1 ⟨rfl, rfl⟩
 go_upto_if 94 with fail
 go_cut [] from 93 (fun wx => Hid (SelS w wx bd nn (wRes b2 l2) (wBad b2 l2) (bz tt) (wN b2 l2) v acc))
 case first =>
  cases wh with
  | false =>
    have HE := zh (show wRes b2 l2 = l2 /\ wBad b2 l2 = b2 /\ wN b2 l2 = 0 by unfold wRes wBad wN; rw [HW.out]; exact ⟨rfl, rfl, rfl⟩)
    go_wp2
    go_meet
    case rel => rw [HE.out.1, HE.out.2.1, HE.out.2.2]; exact HS.out
  | true =>
    have HE := zh (show wRes b2 l2 = resS [93] (badK 4 (badS [91] b2 l2) (resS [91] b2 l2)) (resK 4 (badS [91] b2 l2) (resS [91] b2 l2)) /\ wBad b2 l2 = badS [93] (badK 4 (badS [91] b2 l2) (resS [91] b2 l2)) (resK 4 (badS [91] b2 l2) (resS [91] b2 l2)) /\ wN b2 l2 = valL (txtK 4 (badS [91] b2 l2) (resS [91] b2 l2)) by unfold wRes wBad wN; rw [HW.out]; exact ⟨rfl, rfl, rfl⟩)
    have HSG := zh (sign_any bd l2 nn b2 ⟨#[91]⟩ wc HS.out.rd)
    go_wp2_with fail
    refine HSG.out.mono ?_
    rintro e w1 ⟨rfl, hr1, hg1⟩
    have HS1 := zh (show SelS w w1 bd nn (resS [91] b2 l2) (badS [91] b2 l2) (bz tt) 0 v acc from HS.out.call hr1 hg1)
    clear hr1 hg1
    have HTK := zh (take_any bd (resS [91] b2 l2) nn (badS [91] b2 l2) 4 w1 HS1.out.rd)
    have HDV := zh (fun W => zd3 (resS [91] b2 l2) HS1.out.rd.ok 4 (.inr rfl) (badS [91] b2 l2) W)
    obtain ⟨sp, hsp⟩ : ∃ sp, bz (txtK 4 (badS [91] b2 l2) (resS [91] b2 l2)) = sp := ⟨_, rfl⟩
    obtain ⟨z, hz⟩ : ∃ z, valL (txtK 4 (badS [91] b2 l2) (resS [91] b2 l2)) = z := ⟨_, rfl⟩
    rw [hsp] at HTK HDV
    rw [hz] at HDV HE
    clear hsp hz
    go_wp2_with fail
    refine HTK.out.mono ?_
    rintro e w2 ⟨rfl, hr2, hg2⟩
    have HS2 := zh (HS1.out.call hr2 hg2)
    clear hr2 hg2
    go_wp2_with fail
    refine (HDV.out _).mono ?_
    rintro e w3 ⟨rfl, rfl⟩
    obtain ⟨⟨q0, q1, q2, q3, q4, q5, q6⟩, f0, f1, f2, f3, f4, f5, f6⟩ := HS2.out.box.reads
    have HS3 := zh (HS2.out.num z)
    have HSH := zh (sign_any bd _ nn _ ⟨#[93]⟩ _ HS3.out.rd)
    go_wp2_with fail
    refine HSH.out.mono ?_
    rintro e w4 ⟨rfl, hr4, hg4⟩
    have HS4 := zh (HS3.out.call hr4 hg4)
    clear hr4 hg4 q0 q1 q2 q3 q4 q5 q6 f0 f1 f2 f3 f4 f5 f6
    go_wp2
    go_meet
    case rel => rw [HE.out.1, HE.out.2.1, HE.out.2.2]; exact HS4.out
 case rest =>
 have HSB := zh (show SelS w wc bd nn (wRes b2 l2) (wBad b2 l2) (bz tt) (wN b2 l2) v acc from Hid.out hcut)
 clear hcut HI HS HW
 obtain ⟨ov, cv, rfl⟩ := own_shape HSB.out.own
 have hwl : (wRes b2 l2).length <= l2.length := by
  unfold wRes
  split
  ·exact Nat.le_trans (zdi _ _ _) (Nat.le_trans (zaX _ _ _) (zdi _ _ _))
  ·exact Nat.le_refl _
 obtain ⟨bb, hbb⟩ : ∃ bb, (wBad b2 l2 || !zbt acc) = bb := ⟨_, rfl⟩
 have HBB := zh hbb
 clear hbb
 go_upto_region 29 with fail
 go_cut [] from 93 (fun wx => Hid (SelS w wx bd nn (wRes b2 l2) bb (bz tt) (wN b2 l2) (.slice ov acc.length cv) acc))
 case first =>
  obtain ⟨o2, c2, g1, -⟩ := HSB.out.rd
  obtain ⟨⟨d0, d1, d2⟩, k0, k1, k2⟩ := zav g1
  clear g1
  obtain ⟨⟨q0, q1, q2, q3, q4, q5, q6⟩, f0, f1, f2, f3, f4, f5, f6⟩ := HSB.out.box.reads
  obtain ⟨wb, hwb⟩ : ∃ wb, wBad b2 l2 = wb := ⟨_, rfl⟩
  rw [hwb] at d2 HBB HSB
  have HWB := zh hwb
  clear hwb
  cases wb with
  | true =>
    obtain rfl : true = bb := by rw [<- HBB.out]; rfl
    go_wp2
    go_meet
    case rel => exact HSB.out.bad true
  | false =>
    have hb2 : b2 = false := (w_ok HWB.out).1
    have HCM := zh (HMC.out ov acc.length cv acc (fun _ => True) wc rfl (HA.out hb2) HSB.out.ok (zdy encM (fun _ => rfl) HSB.out.own (fun _ _ => trivial)))
    have HBE := zh (show bb = !zbt acc by rw [<- HBB.out]; rfl)
    obtain ⟨mb, hmb⟩ : ∃ mb, zbt acc = mb := ⟨_, rfl⟩
    rw [hmb] at HCM HBE
    clear hmb HBB hb2
    go_wp2_with fail
    refine HCM.out.mono ?_
    rintro e w2 ⟨rfl, hb⟩
    have HS9 := zh (HSB.out.call (HSB.out.rd.below hb) (grown_of_below hb _))
    clear hb d0 d1 d2 k0 k1 k2
    obtain ⟨o3, c3, g1, -⟩ := HS9.out.rd
    obtain ⟨⟨d0, d1, d2⟩, k0, k1, k2⟩ := zav g1
    clear g1
    go_wp2
    go_meet
    case rel => rw [HBE.out]; exact HS9.out.bad _
 case rest =>
 have HSC := zh (show SelS w wc bd nn (wRes b2 l2) bb (bz tt) (wN b2 l2) (.slice ov acc.length cv) acc from Hid.out hcut)
 clear hcut HSB
 obtain ⟨⟨q0, q1, q2, q3, q4, q5, q6⟩, f0, f1, f2, f3, f4, f5, f6⟩ := HSC.out.box.reads
 have HND := zh (zcR bd (wRes b2 l2) nn bb wc HSC.out.rd hn ⟨#[115, 101, 108]⟩ (bz tt) (wN b2 l2 : Nat) 0 none 0 0 ov acc.length cv none 0 0)
 obtain ⟨tx, htx⟩ : ∃ tx, bz tt = tx := ⟨_, rfl⟩
 obtain ⟨zz, hzz⟩ : ∃ zz, wN b2 l2 = zz := ⟨_, rfl⟩
 have HTX := zh htx
 have HZZ := zh hzz
 rw [htx, hzz] at HND
 rw [htx] at q1
 rw [hzz] at q2
 clear htx hzz
 go_wp2_with fail
 refine HND.out.mono ?_
 rintro e w2 ⟨rfl, hr2, hg2⟩
 have HSD := zh (show Rdd w2 bd (wRes b2 l2) (nn + 1) bb /\ wc.grownBy w2 (some bd) from ⟨hr2, hg2⟩)
 have HRB := zh (show Box7 w2 w.heap.size (.string ⟨#[]⟩) (.string ⟨#[]⟩) (.int .i64 0) (.int .i64 0) (.slice none 0 0) (.slice none 0 0) (.slice none 0 0) from zaa HSC.out.res hg2 (by omega))
 clear hr2 hg2 q0 q1 q2 q3 q4 q5 q6 f0 f1 f2 f3 f4 f5 f6
 obtain ⟨⟨r0, r1, r2, r3, r4, r5, r6⟩, g0, g1, g2, g3, g4, g5, g6⟩ := HRB.out.reads
 go_wp2
 refine bodyPost_ret (v := .agg #[.string ⟨#[115, 101, 108]⟩, .string tx, .int .i64 (zz : Nat), .int .i64 0, .slice none 0 0, .slice ov acc.length cv, .slice none 0 0]) (by simp [results, Tryz.results99, go_sem, r0, r1, r2, r3, r4, r5, r6]) rfl ?_
 have HG := zh (zaf (grown_trans HSC.out.grow HSD.out.2) (Nat.le_refl _) (.string ⟨#[115, 101, 108]⟩) (.string tx) (.int .i64 (zz : Nat)) (.int .i64 0) (.slice none 0 0) (.slice ov acc.length cv) (.slice none 0 0))
 have HR := zh (show Rdd (put7 w2 w.heap.size (.string ⟨#[115, 101, 108]⟩) (.string tx) (.int .i64 (zz : Nat)) (.int .i64 0) (.slice none 0 0) (.slice ov acc.length cv) (.slice none 0 0)) bd (wRes b2 l2) (nn + 1) bb from HSD.out.1.keep fun j hj => za1 w2 w.heap.size _ _ _ _ _ _ _ j (by omega))
 cases bb with
 | true =>
   have e : selD l = none := by
    rw [HDD.out]
    cases b2 with
    | true => rw [show T = none from HB.out]
    | false =>
      rw [show T = some (acc, l2) from HB.out]
      dsimp only
      cases hm : zbt acc with
      | false => rfl
      | true =>
        have := HBB.out
        rw [hm, Bool.not_true, Bool.or_false] at this
        rw [if_pos rfl, w_no this]; rfl
   rw [e]
   exact ⟨_, rfl, ⟨_, _, _, _, _, _, _, _, _, _, _, _, _, rfl⟩, ⟨_, _, HR.out, by omega⟩, HG.out⟩
 | false =>
   obtain ⟨hwb, hmb⟩ : wBad b2 l2 = false /\ zbt acc = true := by
    have := HBB.out
    cases h1 : wBad b2 l2 <;> cases h2 : zbt acc <;> simp [h1, h2] at this ⊢
   obtain ⟨rfl, hwp⟩ := w_ok hwb
   have e : selD l = some (.sel tx zz acc, wRes false l2) := by
    rw [HDD.out, show T = some (acc, l2) from HB.out]
    dsimp only
    rw [if_pos hmb, hwp]
    show some (Ex.sel (bz tt) (wN false l2) acc, _) = _
    rw [HTX.out, HZZ.out]
   rw [e]
   exact ⟨_, rfl, zba (.mk (.sel tx zz acc) _ _ none ov none 0 0 acc.length cv 0 0 [] rfl rfl ⟨rfl, Nat.le_refl _⟩ rfl rfl rfl (.inl rfl) (zdy encM (fun _ => rfl) (own_past HSC.out.own HSD.out.2 (by omega)) (fun _ h => h)) (.inl rfl) (fun j cs y h => by simp at h)) (fun b hb => ⟨by omega, by omega⟩) _ _ _ _ _ _ _, HR.out, HG.out⟩
end Go.Proofs.YtbcemjhaecelnaaGreatDoor.Drd
end
