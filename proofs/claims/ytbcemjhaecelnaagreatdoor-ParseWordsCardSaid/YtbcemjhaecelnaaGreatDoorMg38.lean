import Derived.Test.YtbcemjhaecelnaaGreatDoorMg37
import Derived.Deep.LoopGhost
import Derived.Deep.CutRange
import Derived.Deep.CutBlock
import Derived.Deep.RegionHeld3
import Derived.Deep.DeepFit
section
set_option maxHeartbeats 16000000
set_option maxRecDepth 100000
namespace Go.Proofs.YtbcemjhaecelnaaGreatDoor.Drd
open Go.RowKit Go.Lib Par Sto
theorem dchain_top (n : Nat) (hU : zeH n) (l : List Tq) (hl : 9 * l.length + 3 <= n) (w : World) (bd nn : Nat) (hnn : nn + l.length <= 1000000) (h : Rdd w bd l nn false) :
 Calls Tryz.prog 22 #[.pointer (some ⟨bd, 0, none⟩), .int .i64 3] w (DEnd w bd nn l false (chainGo (n + 1) 4 l)) := by
 have hfar := h.lt
 have HS0 := zh (PreS.start h)
 have HT := zh (show chainGo (n + 1) 4 l = zat n l by rw [chainGo, if_pos (by omega)])
 have HPP := zh (hU l hl _ bd nn hnn HS0.out.rd)
 rw [HT.out]
 generalize zat n l = r at HPP ⊢
 clear h hU hl
 go_enter Tryz.func22, Tryz.ntmps22
 go_wp2_with fail
 refine HPP.out.mono ?_
 rintro e w2 ⟨a, b, z, m, o1, k1, c1, o2, k2, c2, o3, k3, c3, rfl, hg, l', nn', b', hR, hle, hN, hS⟩
 have HSC := zh (HS0.out.call hR hg)
 have HE := zh (And.intro hle (And.intro hN hS))
 clear hg hR hle hN hS
 obtain ⟨⟨q0, q1, q2, q3, q4, q5, q6⟩, f0, f1, f2, f3, f4, f5, f6⟩ := HSC.out.box.reads
 go_wp2
 refine bodyPost_ret (v := .agg #[.string a, .string b, .int .i64 z, .int .i64 m, .slice o1 k1 c1, .slice o2 k2 c2, .slice o3 k3 c3]) (by simp [results, Tryz.results22, go_sem, q0, q1, q2, q3, q4, q5, q6]) rfl ?_
 obtain ⟨hle, hN, hS⟩ := HE.out
 refine zaR hfar HSC.out.grow HSC.out.big (grown_refl _ _) HSC.out.rd ⟨hle.1, hle.2.1⟩ _ _ _ _ _ _ _ _ _ _ _ _ _ hN (fun x y hr => ?_) _ _ _ _ _ _ _
 obtain ⟨g1, g2, g3, g4⟩ := hS x y hr
 exact ⟨g1, g2, g3, g4.keep fun k hk _ => ⟨rfl, by simp at hk; omega⟩⟩
theorem dchain_low (n t : Nat) (ht1 : 1 <= t) (ht3 : t <= 3) (hC : ∀ k, k <= n -> zdM k) (l : List Tq) (hl : 9 * l.length + 8 <= n + 1 + t) (w : World) (bd nn : Nat) (q : Int) (hq : q = (t : Int) - 1) (hnn : nn + l.length <= 1000000) (h : Rdd w bd l nn false) :
 Calls Tryz.prog 22 #[.pointer (some ⟨bd, 0, none⟩), .int .i64 q] w (DEnd w bd nn l false (chainGo (n + 1) t l)) := by
 have hfar := h.lt
 have HS0 := zh (PreS.start h)
 obtain ⟨q1, hq1⟩ : ∃ q1, q + 1 = q1 := ⟨_, rfl⟩
 have jq : IntKind.i64.wrap (q + 1) = q1 := by rw [IntKind.wrap_i64]; omega
 have jq2 : q <= 2 := by omega
 have HQ := zh (show q1 = ((t + 1 : Nat) : Int) - 1 /\ q = (t : Int) - 1 /\ 1 <= t /\ t <= 3 from ⟨by omega, hq, ht1, ht3⟩)
 obtain ⟨T, hT⟩ : ∃ T, chainGo (n + 1) t l = T := ⟨_, rfl⟩
 rw [hT]
 have hcg := hT
 rw [chainGo, if_neg (by omega)] at hcg
 have HCG := zh hcg
 have HCC := zh hC
 have HP1 := zh (hC n (Nat.le_refl _) (t + 1) l false (by omega) (by omega) (by omega) _ bd nn q1 HQ.out.1 hnn HS0.out.rd)
 rw [zcG] at HP1
 have HL := zh (And.intro hl hnn)
 have HGL := zh (fun x m (h : chainGo n (t + 1) l = some (x, m)) => (zhJ n).1 _ _ _ _ h)
 generalize chainGo n (t + 1) l = r1 at HP1 HCG HGL
 clear h hC hl hnn hT hcg hq1 hq ht1 ht3
 go_enter Tryz.func22, Tryz.ntmps22
 go_wp2_with fail
 refine HP1.out.mono ?_
 rintro e w1 ⟨a, b, z, m, o1, k1, c1, o2, k2, c2, o3, k3, c3, rfl, hg, l', nn', b', hR, hle, hN, hS⟩
 have HS1 := zh (HS0.out.call hR hg)
 have HN1 := zh (NodS.new HS1.out (.string a) (.string b) (.int .i64 z) (.int .i64 m) (.slice o1 k1 c1) (.slice o2 k2 c2) (.slice o3 k3 c3))
 have hbig1 := HS1.out.big
 obtain ⟨nb, hnb⟩ : ∃ nb, w1.heap.size = nb := ⟨_, rfl⟩
 have HC1 : Hid (ChS w (w1.alloc (Obj.cells #[.string a, .string b, .int .i64 z, .int .i64 m, .slice o1 k1 c1, .slice o2 k2 c2, .slice o3 k3 c3] 27)) bd nn nb l n t T l' b' nn' a b z m o1 k1 c1 o2 k2 c2 o3 k3 c3) := by
  refine ⟨by rw [<- hnb]; exact HN1.out, ⟨hle.1, hle.2.1⟩, fun hb => ?_, fun hb => ?_⟩
  ·cases hr : r1 with
   | none => have := HCG.out; rw [hr] at this; exact this.symm
   | some p =>
     obtain ⟨x, y⟩ := p
     have := (hS x y hr).1
     rw [hb] at this; cases this
  ·cases hr : r1 with
   | none => have := hN hr; rw [hb] at this; cases this
   | some p =>
     obtain ⟨x, y⟩ := p
     obtain ⟨-, rfl, h3, h4⟩ := hS x y hr
     have h5 := HCG.out
     rw [hr] at h5
     have h6 := HGL.out x l' hr
     have h7 := HL.out.1
     have h8 := HQ.out
     refine ⟨n, x, Nat.le_refl _, by omega, h5, h3, h4.keep fun k hk hkl => ⟨Below.heap_alloc _ _ _ hkl, by simp at hk; omega, by omega⟩⟩
 clear hR hg hle hN hS HN1 HP1 HCG HGL
 have hlen0 : l'.length <= 1000000 := HS1.out.rd.few
 go_wp2_with fail
 go_loopg [] (if b' then 0 else l'.length + 1) (fun k wr => ∃ (l1 : List Tq) (b1 : Bool) (nn1 : Nat) (a b : ByteArray) (z m : Int) (o1 : Option Addr) (k1 c1 : Nat) (o2 : Option Addr) (k2 c2 : Nat) (o3 : Option Addr) (k3 c3 : Nat), k = (if b1 then 0 else l1.length + 1) /\ Hid (ChS w wr bd nn nb l n t T l1 b1 nn1 a b z m o1 k1 c1 o2 k2 c2 o3 k3 c3))
 case atStart => exact ⟨l', b', nn', a, b, z, m, o1, k1, c1, o2, k2, c2, o3, k3, c3, rfl, HC1.out⟩
 case round =>
  obtain ⟨l1, b1, nn1, a, b, z, m, o1, k1, c1, o2, k2, c2, o3, k3, c3, hkx, HC⟩ := hrel
  clear HC1 HS1 hlen0
  go_upto_region 4 with fail
  go_cut [39] from 17 to 111 (fun u39 wx => u39 = .bool (!b1 && isK 5 l1) /\ wx = wr)
  case first =>
   cases b1 with
   | true =>
     obtain ⟨o, c, h1, -⟩ := HC.out.nod.pre.rd
     obtain ⟨⟨d0, d1, d2⟩, -⟩ := zav h1
     clear h1
     go_wp2
     go_meet
     case rel => exact ⟨rfl, rfl⟩
   | false =>
     cases l1 with
     | nil =>
       obtain ⟨o, c, h1, -⟩ := HC.out.nod.pre.rd
       obtain ⟨⟨d0, d1, d2⟩, -⟩ := zav h1
       simp only [List.length_nil] at d0
       clear h1
       go_wp2
       go_meet
       case rel => exact ⟨rfl, rfl⟩
     | cons s l2 =>
       obtain ⟨bb, off, kk, cc, hk, hkc, hkm, hb, hbl, hrow, d0, -, d2, -, -⟩ := HC.out.nod.pre.rd.head
       obtain ⟨⟨c0, c1, c2⟩, -⟩ := zav hrow
       have i0 : (0 : Int) < kk := by omega
       have i1 : (1 : Int) <= kk := by omega
       have i0n : 0 < kk := by omega
       clear hrow hk
       by_cases h5 : s.1 = 5
       ·rw [h5] at d0
        have HKK := zh (show isK 5 (s :: l2) = true by simp [isK, h5])
        clear h5
        go_wp2
        go_meet
        case rel => exact ⟨by rw [HKK.out]; rfl, rfl⟩
       ·have HKK := zh (show isK 5 (s :: l2) = false by simp [isK, h5])
        obtain ⟨kd, hkd⟩ : ∃ kd, s.1 = kd := ⟨_, rfl⟩
        rw [hkd] at d0 h5
        have j5 : ((kd : Int) == 5) = false := by simp; omega
        have j5' : ¬ (kd : Int) = 5 := by omega
        clear h5 hkd
        go_wp2
        go_meet
        case rel => exact ⟨by rw [HKK.out]; rfl, rfl⟩
  case rest =>
  obtain ⟨rfl, rfl⟩ := hcut
  cases hgo : (!b1 && isK 5 l1) with
  | false =>
    have HLV := zh (show b1 = false -> levelT l1 ≠ t from fun hb => by
     rw [hb, Bool.not_false, Bool.true_and] at hgo
     rw [level_off hgo]
     have := HQ.out; omega)
    obtain ⟨⟨q0, q1, q2, q3, q4, q5, q6⟩, -⟩ := HC.out.nod.box.reads
    obtain ⟨⟨r0, r1, r2, r3, r4, r5, r6⟩, g0, g1, g2, g3, g4, g5, g6⟩ := HC.out.nod.pre.box.reads
    clear hgo
    go_wp2
    refine bodyPost_ret (v := .agg #[.string a, .string b, .int .i64 z, .int .i64 m, .slice o1 k1 c1, .slice o2 k2 c2, .slice o3 k3 c3]) (by simp [results, Tryz.results22, go_sem, r0, r1, r2, r3, r4, r5, r6]) rfl ?_
    exact HC.out.fin HLV.out _ _ _ _ _ _ _
  | true =>
  obtain ⟨hb1, hk5⟩ := (by simpa using hgo : b1 = false /\ isK 5 l1 = true)
  subst hb1
  obtain ⟨s, l2, rfl, hs5⟩ : ∃ s l2, l1 = s :: l2 /\ s.1 = 5 := by
   cases l1 with
   | nil => cases hk5
   | cons s l2 => exact ⟨s, l2, rfl, by simpa [isK] using hk5⟩
  clear hgo hk5
  obtain ⟨bb, off, kk, cc, hk, hkc, hkm, hb, hbl, hrow, d0, -, d2, HD, HD0⟩ := HC.out.nod.pre.rd.head
  obtain ⟨⟨e0, e1, e2⟩, f0, f1, f2⟩ := zav hrow
  obtain ⟨tx, htx⟩ : ∃ tx : ByteArray, tx = ⟨s.2.toArray⟩ := ⟨_, rfl⟩
  rw [<- htx] at d2
  have HTX := zh (show tx = bz s.2 from htx)
  have HD := zh HD
  have HD0 := zh HD0
  have i0 : (0 : Int) < kk := by omega
  have i1 : (1 : Int) <= kk := by omega
  have i0n : 0 < kk := by omega
  have hkn : (kk : Int) <= 1000000 := by omega
  have HLV := zh (show levelT (s :: l2) = levelS s.2 from level_on hs5)
  have HCW := zh (fun W => dcmp_any tx W)
  rw [show tx.data.toList = s.2 by rw [HTX.out]; rfl] at HCW
  obtain ⟨cp, hcp⟩ : ∃ cp, cmpS s.2 = cp := ⟨_, rfl⟩
  rw [hcp] at HCW
  have HCP := zh hcp
  have HTL := zh (show ∀ u : List UInt8, (tx.toList == u) = (s.2 == u) from fun u => by rw [zao, HTX.out]; rfl)
  clear hrow htx hcp hs5
  obtain ⟨lv, hlv⟩ : ∃ lv : Nat, levelS s.2 = lv := ⟨_, rfl⟩
  have HLS := zh hlv
  clear hlv
  go_upto_block 2 with fail
  go_cut [7, 47, 50, 57] from 17 to 111 (fun u7 _ _ _ wx => u7 = .int .i64 ((lv : Nat) - 1 : Int) /\ wx = wc)
  case first =>
   go_wp2_with fail
   refine (HCW.out _).mono ?_
   rintro e w2 ⟨rfl, rfl⟩
   cases cp with
   | true =>
     have HV := zh (show lv = 1 by rw [<- HLS.out]; unfold levelS; rw [HCP.out, if_pos rfl])
     go_wp2
     go_meet
     case rel => exact ⟨by rw [HV.out]; rfl, rfl⟩
   | false =>
     have hl2 : lv = if s.2 == [43] || s.2 == [45] then 2 else if s.2 == [42] || s.2 == [47] || s.2 == [37] then 3 else 0 := by rw [<- HLS.out]; unfold levelS; rw [HCP.out, if_neg (by simp)]
     have g1 := HTL.out [43]
     have g2 := HTL.out [45]
     have g3 := HTL.out [42]
     have g4 := HTL.out [47]
     have g5 := HTL.out [37]
     obtain ⟨y1, hy1⟩ : ∃ y, (s.2 == [43]) = y := ⟨_, rfl⟩
     obtain ⟨y2, hy2⟩ : ∃ y, (s.2 == [45]) = y := ⟨_, rfl⟩
     obtain ⟨y3, hy3⟩ : ∃ y, (s.2 == [42]) = y := ⟨_, rfl⟩
     obtain ⟨y4, hy4⟩ : ∃ y, (s.2 == [47]) = y := ⟨_, rfl⟩
     obtain ⟨y5, hy5⟩ : ∃ y, (s.2 == [37]) = y := ⟨_, rfl⟩
     rw [hy1] at g1 hl2
     rw [hy2] at g2 hl2
     rw [hy3] at g3 hl2
     rw [hy4] at g4 hl2
     rw [hy5] at g5 hl2
     clear hy1 hy2 hy3 hy4 hy5
     have HV := zh hl2
     clear hl2
     cases y1 with
     | true =>
       go_wp2
       go_meet
       case rel => exact ⟨by rw [HV.out]; rfl, rfl⟩
     | false =>
     cases y2 with
     | true =>
       go_wp2
       go_meet
       case rel => exact ⟨by rw [HV.out]; rfl, rfl⟩
     | false =>
     cases y3 with
     | true =>
       go_wp2
       go_meet
       case rel => exact ⟨by rw [HV.out]; rfl, rfl⟩
     | false =>
     cases y4 with
     | true =>
       go_wp2
       go_meet
       case rel => exact ⟨by rw [HV.out]; rfl, rfl⟩
     | false =>
     cases y5 with
     | true =>
       go_wp2
       go_meet
       case rel => exact ⟨by rw [HV.out]; rfl, rfl⟩
     | false =>
       go_wp2
       go_meet
       case rel => exact ⟨by rw [HV.out]; rfl, rfl⟩
  case rest =>
  obtain ⟨rfl, rfl⟩ := hcut
  have HLT := zh (show levelT (s :: l2) = lv from HLV.out.trans HLS.out)
  clear HCW HCP HTL d0 d2
  by_cases hof : (lv : Int) - 1 = q
  ·have jof : (((lv : Int) - 1) == q) = true := by simp [hof]
   have jof2 : (((lv : Int) - 1) != q) = false := by simp [hof]
   have jof3 : ¬ ((lv : Int) - 1) ≠ q := by simp [hof]
   have HT1 := zh (show levelT (s :: l2) = t by rw [HLT.out]; have := HQ.out; omega)
   obtain ⟨N0, x, hN1, hN2, hN3, hN4, hleft⟩ := HC.out.yes rfl
   simp only [List.length_cons] at hN2
   obtain ⟨N, rfl⟩ : ∃ N, N0 = N + 2 := ⟨N0 - 2, by omega⟩
   have HNN := zh (And.intro hN1 (And.intro hN2 (And.intro hN3 hN4)))
   have HLE := zh hleft
   have HFEW := zh HC.out.few
   have HND := zh HC.out.nod
   have hlow := HC.out.nod.low
   clear hN1 hN2 hN3 hN4 hleft HC HLV HLS hof
   go_upto_region 14 with fail
   go_cut [] from 17 to 111 (fun wx => Hid (NodS w wx bd nn1 l2 false nb (.string a) (.string b) (.int .i64 z) (.int .i64 m) (.slice o1 k1 c1) (.slice o2 k2 c2) (.slice o3 k3 c3)) /\ Hid (Nod wx (fun b => w.heap.size < b /\ b ≠ nb) [.string a, .string b, .int .i64 z, .int .i64 m, .slice o1 k1 c1, .slice o2 k2 c2, .slice o3 k3 c3] x))
   case first =>
    go_wp2
    ·go_meet
     case rel => exact ⟨HND.out.toks (HD0.out _ _ _ (by omega) (by omega)), HLE.out.keep fun k hk _ => ⟨Below.heap_setCell _ _ _ _ (by show k ≠ bd; omega), hk⟩⟩
    ·go_meet
     case rel => exact ⟨HND.out.toks (HD.out _ _ _ rfl (by omega) (by omega)), HLE.out.keep fun k hk _ => ⟨Below.heap_setCell _ _ _ _ (by show k ≠ bd; omega), hk⟩⟩
   case rest =>
   obtain ⟨HND2, HLE2⟩ := hcut
   clear HND HLE e0 e1 e2 f0 f1 f2 HD HD0 hk hkc hkm hb hbl i0 i1 i0n hkn
   have HB1 := zh (BinS.new HND2.out HLE2.out tx)
   obtain ⟨p1, hp1⟩ : ∃ p, isT 1 wOn l2 = p := ⟨_, rfl⟩
   obtain ⟨p2, hp2⟩ : ∃ p, isT 1 wIgn l2 = p := ⟨_, rfl⟩
   have HP1 := zh hp1
   have HP2 := zh hp2
   have HI1 := zh (zby bd l2 nn1 false 1 ⟨#[111, 110]⟩ _ HB1.out.nod.pre.rd)
   have HI2 := zh (zby bd l2 nn1 false 1 ⟨#[105, 103, 110, 111, 114, 105, 110, 103]⟩ _ HB1.out.nod.pre.rd)
   rw [show (⟨#[111, 110]⟩ : ByteArray).data.toList = wOn from rfl, hp1, Bool.not_false, Bool.true_and] at HI1
   rw [show (⟨#[105, 103, 110, 111, 114, 105, 110, 103]⟩ : ByteArray).data.toList = wIgn from rfl, hp2, Bool.not_false, Bool.true_and] at HI2
   obtain ⟨xb, hxb⟩ : ∃ xb, wc.heap.size = xb := ⟨_, rfl⟩
   have HXB := zh (show nb < xb by rw [<- hxb]; exact HND2.out.lt)
   clear hp1 hp2
   go_upto_region 16 with fail
   go_cut [86] from 17 to 111 (fun u86 wx => u86 = .bool (p1 || p2) /\ Hid (BinS w wx bd nn1 l2 false nb xb x a b z m o1 k1 c1 o2 k2 c2 o3 k3 c3 tx (.int .i64 0) (.slice none 0 0) (.slice none 0 0)))
   case first =>
    cases p1 with
    | true =>
      go_wp2_with fail
      refine HI1.out.mono ?_
      rintro e w2 ⟨rfl, rfl⟩
      go_wp2
      go_meet
      case rel => exact ⟨rfl, by rw [<- hxb]; exact HB1.out⟩
    | false =>
      go_wp2_with fail
      refine HI1.out.mono ?_
      rintro e w2 ⟨rfl, rfl⟩
      go_wp2_with fail
      refine HI2.out.mono ?_
      rintro e w2 ⟨rfl, rfl⟩
      go_wp2
      go_meet
      case rel => exact ⟨rfl, by rw [<- hxb]; exact HB1.out⟩
   case rest =>
   obtain ⟨rfl, HB2⟩ := hcut
   clear HI1 HI2 HB1 HND2 HLE2
   go_upto_if 86 with fail
   go_cut [] from 17 to 111 (fun wx => ∃ (mm : Nat) (on : Option Addr) (kn cn : Nat) (lm : List Tq) (b2 : Bool), Hid (BinS w wx bd nn1 lm b2 nb xb x a b z m o1 k1 c1 o2 k2 c2 o3 k3 c3 tx (.int .i64 (mm : Nat)) (.slice on kn cn) (.slice none 0 0)) /\ Hid (NamR wx xb (zbu wOn wIgn l2) mm on kn cn lm b2) /\ Hid (b2 = false -> lm.length <= l2.length))
   case first =>
    cases hpp : (p1 || p2) with
    | false =>
      have HMO := zh (zhq HP1.out HP2.out hpp)
      clear hpp
      go_wp2
      go_meet
      case rel => exact ⟨0, none, 0, 0, l2, false, HB2, ⟨fun h => by rw [HMO.out] at h; (cases h), fun m ns y h => by rw [HMO.out] at h; injection h with h; injection h with h1 h2; injection h1 with h1 h3; subst h1; subst h2; subst h3; exact ⟨rfl, rfl, rfl, rfl, Nat.le_refl _, .inl rfl⟩⟩, fun _ => Nat.le_refl _⟩
    | true =>
      have HMO := zh (zis (by decide) HP1.out HP2.out hpp)
      obtain ⟨v, tt, rfl⟩ := zit HP1.out HP2.out hpp
      obtain ⟨⟨q0, q1, q2, q3, q4, q5, q6⟩, f0, f1, f2, f3, f4, f5, f6⟩ := (show Box7 _ _ _ _ _ _ _ _ _ from HB2.out.box).reads
      have HB3 := zh (HB2.out.set3 (.int .i64 1))
      have HI2 := zh (zby bd (v :: tt) nn1 false 1 ⟨#[105, 103, 110, 111, 114, 105, 110, 103]⟩ _ HB3.out.nod.pre.rd)
      rw [show (⟨#[105, 103, 110, 111, 114, 105, 110, 103]⟩ : ByteArray).data.toList = wIgn from rfl, HP2.out, Bool.not_false, Bool.true_and] at HI2
      clear hpp
      go_wp2_with fail
      refine HI2.out.mono ?_
      rintro e w2 ⟨rfl, rfl⟩
      go_upto_if 89 with fail
      go_cut [] from 17 to 111 (fun wx => Hid (BinS w wx bd nn1 (v :: tt) false nb xb x a b z m o1 k1 c1 o2 k2 c2 o3 k3 c3 tx (.int .i64 ((if p2 then 2 else 1 : Nat) : Nat)) (.slice none 0 0) (.slice none 0 0)))
      case first =>
       cases p2 with
       | false =>
         go_wp2
         go_meet
         case rel => exact HB3.out
       | true =>
         have HB4 := zh (HB3.out.set3 (.int .i64 2))
         go_wp2
         go_meet
         case rel => exact HB4.out
      case rest =>
      have HB5 := zh (Hid.out hcut)
      obtain ⟨mm, hmm⟩ : ∃ mm : Nat, (if p2 then 2 else 1 : Nat) = mm := ⟨_, rfl⟩
      rw [hmm] at HB5 HMO
      clear hcut q0 q1 q2 q3 q4 q5 q6 f0 f1 f2 f3 f4 f5 f6 HI2 HB3 hmm
      obtain ⟨bb, off, kk, cc, hk, hkc, hkm, hb, hbl, hrow, -, -, -, HD, HD0⟩ := HB5.out.nod.pre.rd.head
      obtain ⟨⟨e0, e1, e2⟩, f0, f1, f2⟩ := zav hrow
      have HD := zh HD
      have HD0 := zh HD0
      have i0 : (0 : Int) < kk := by omega
      have i1 : (1 : Int) <= kk := by omega
      have hkn : (kk : Int) <= 1000000 := by omega
      clear hrow
      go_upto_region 20 with fail
      go_cut [] from 17 to 111 (fun wx => Hid (BinS w wx bd nn1 tt false nb xb x a b z m o1 k1 c1 o2 k2 c2 o3 k3 c3 tx (.int .i64 (mm : Nat)) (.slice none 0 0) (.slice none 0 0)))
      case first =>
       go_wp2
       ·go_meet
        case rel => exact HB5.out.toks (HD0.out _ _ _ (by omega) (by omega))
       ·go_meet
        case rel => exact HB5.out.toks (HD.out _ _ _ rfl (by omega) (by omega))
      case rest =>
      have HB6 := zh (Hid.out hcut)
      have HNM := zh (zfs bd tt nn1 wc HB6.out.nod.pre.rd)
      have hxb6 := HB6.out.lt
      clear hcut e0 e1 e2 f0 f1 f2 HD HD0 hk hkc hkm hb hbl i0 i1 hkn
      go_wp2_with fail
      refine HNM.out.mono ?_
      intro e w2 hn
      obtain ⟨on, kn, cn, lm, b2, rfl, hr2, hg2, hle2, hnr⟩ := ziq (mm := mm) hn hxb6
      have HB7 := zh ((HB6.out.call hr2 hg2).set4 (.slice on kn cn))
      have HNR := zh hnr
      obtain ⟨⟨q0, q1, q2, q3, q4, q5, q6⟩, f0, f1, f2, f3, f4, f5, f6⟩ := (show Box7 _ _ _ _ _ _ _ _ _ from (HB6.out.call hr2 hg2).box).reads
      have HLE := zh hle2
      clear hn hr2 hg2 hle2 hnr
      go_wp2
      go_meet
      case rel =>
       refine ⟨mm, on, kn, cn, lm, b2, HB7.out, ?_, fun hb => by have := HLE.out hb; simp only [List.length_cons]; omega⟩
       rw [HMO.out]
       exact HNR.out.keep fun k hk _ => Below.heap_setCell _ _ _ _ (by show k ≠ xb; omega)
   case rest =>
   obtain ⟨mm, on, kn, cn, lm, b2, HB8, HNR, HLM⟩ := hcut
   clear HB2
   obtain ⟨hQ1, hQ2, hQ3, hQ4⟩ := HQ.out
   obtain ⟨hN1, hN2, hN3, hN4⟩ := HNN.out
   have hfew1 := HFEW.out.1 rfl
   simp only [List.length_cons] at hfew1
   obtain ⟨RC, hRC⟩ : ∃ RC, orB b2 (chainGo N (t + 1) lm) = RC := ⟨_, rfl⟩
   have HCH : Hid (∀ W, Rdd W bd lm nn1 b2 -> Calls Tryz.prog 22 #[.pointer (some ⟨bd, 0, none⟩), .int .i64 q1] W (DEnd W bd nn1 lm b2 RC)) := fun W hr => by
    rw [<- hRC]
    cases hb : b2 with
    | true =>
      rw [hb] at hr
      exact zfu (t := t + 1) (by omega) (by omega) hQ1 bd lm nn1 W hr
    | false =>
      rw [hb] at hr
      have h3 := HLM.out hb
      have h4 := HL.out.2
      exact HCC.out N (by omega) (t + 1) lm false (by omega) (by omega) (by omega) W bd nn1 q1 hQ1 (by omega) hr
   obtain ⟨R1, hR1⟩ : ∃ R1, zbu wOn wIgn l2 = R1 := ⟨_, rfl⟩
   rw [hR1] at HNR
   have HST := zh (bin_step HT1.out hN3 hR1 HNR.out.no (fun m ns y h => ⟨(HNR.out.yes m ns y h).1, (HNR.out.yes m ns y h).2.1, (HNR.out.yes m ns y h).2.2.1⟩) hRC)
   have HNUM := zh (show nn1 = nn + countE x /\ nn1 + (l2.length + 1) <= nn + l.length /\ N + 2 <= n /\ 9 * (l2.length + 1) + 1 <= N + 2 from ⟨hN4, hfew1, hN1, hN2⟩)
   have HGT := zh (fun y k (h : chainGo N (t + 1) lm = some (y, k)) => (zhJ N).1 _ _ _ _ h)
   clear hQ1 hQ2 hQ3 hQ4 hN1 hN2 hN3 hN4 hfew1 hRC hR1
   go_upto_region 22 with fail
   go_cut [] from 17 to 111 (fun wx => ∃ (kb : Nat) (ds : List Value) (l' : List Tq) (nn' : Nat) (b' : Bool), Hid (BinS w wx bd nn' l' b' nb xb x a b z m o1 k1 c1 o2 k2 c2 o3 k3 c3 tx (.int .i64 (mm : Nat)) (.slice on kn cn) (.slice (some ⟨kb, 0, none⟩) 2 2)) /\ Hid (NamR wx xb R1 mm on kn cn lm b2) /\
    Hid (((b' = false -> nn' + l'.length <= nn1 + lm.length) /\ nn' <= nn1 + lm.length + 1 /\ (b2 = true -> nn' <= nn1)) /\ (RC = none -> b' = true) /\ ∀ y k, RC = some (y, k) -> b' = false /\ l' = k /\ nn' = nn1 + countE y /\ za2 wx (fun b => w.heap.size < b /\ b ≠ nb) (some ⟨kb, 0, none⟩) 7 [[.string a, .string b, .int .i64 z, .int .i64 m, .slice o1 k1 c1, .slice o2 k2 c2, .slice o3 k3 c3], ds] /\ Nod wx (fun b => w.heap.size < b /\ b ≠ nb) [.string a, .string b, .int .i64 z, .int .i64 m, .slice o1 k1 c1, .slice o2 k2 c2, .slice o3 k3 c3] x /\ Nod wx (fun b => w.heap.size < b /\ b ≠ nb) ds y))
   case first =>
    obtain ⟨⟨q0, q1', q2, q3, q4, q5, q6⟩, -⟩ := (show Box7 _ _ _ _ _ _ _ _ _ from HB8.out.nod.box).reads
    have HCA := zh (HCH.out wc.drew HB8.out.drew.nod.pre.rd)
    have sA : wc.cell? ⟨nb, 0, none⟩ = some (.string a) /\ wc.cell? ⟨nb, 1, none⟩ = some (.string b) /\ wc.cell? ⟨nb, 2, none⟩ = some (.int .i64 z) /\ wc.cell? ⟨nb, 3, none⟩ = some (.int .i64 m) /\ wc.cell? ⟨nb, 4, none⟩ = some (.slice o1 k1 c1) /\ wc.cell? ⟨nb, 5, none⟩ = some (.slice o2 k2 c2) /\ wc.cell? ⟨nb, 6, none⟩ = some (.slice o3 k3 c3) := ⟨q0, q1', q2, q3, q4, q5, q6⟩
    have sD : wc.drew.cell? ⟨nb, 0, none⟩ = some (.string a) /\ wc.drew.cell? ⟨nb, 1, none⟩ = some (.string b) /\ wc.drew.cell? ⟨nb, 2, none⟩ = some (.int .i64 z) /\ wc.drew.cell? ⟨nb, 3, none⟩ = some (.int .i64 m) /\ wc.drew.cell? ⟨nb, 4, none⟩ = some (.slice o1 k1 c1) /\ wc.drew.cell? ⟨nb, 5, none⟩ = some (.slice o2 k2 c2) /\ wc.drew.cell? ⟨nb, 6, none⟩ = some (.slice o3 k3 c3) := sA
    have hlow2 := HB8.out.nod.low
    have hxl := HB8.out.lt
    go_region_held3 (fun W => W.cell? ⟨nb, 0, none⟩ = some (.string a) /\ W.cell? ⟨nb, 1, none⟩ = some (.string b) /\ W.cell? ⟨nb, 2, none⟩ = some (.int .i64 z) /\ W.cell? ⟨nb, 3, none⟩ = some (.int .i64 m) /\ W.cell? ⟨nb, 4, none⟩ = some (.slice o1 k1 c1) /\ W.cell? ⟨nb, 5, none⟩ = some (.slice o2 k2 c2) /\ W.cell? ⟨nb, 6, none⟩ = some (.slice o3 k3 c3)) (first | with_reducible exact sA | with_reducible exact sD | with_reducible exact rA | with_reducible exact rB _ | with_reducible exact rC _ _) (first
     | (go_at_call 22; go_fit HCA.out; rintro e w3 ⟨ra, rb, rz, rm, p1, j1, d1, p2, j2, d2, p3, j3, d3, rfl, hg, l', nn', b', hR, hle, hN, hS⟩; have hb9 := HB8.out.drew.call hR hg; have hlt3 := hb9.lt; obtain ⟨⟨x0, x1, x2, x3, x4, x5, x6⟩, y0, y1, y2, y3, y4, y5, y6⟩ := (show Box7 _ _ _ _ _ _ _ _ _ from hb9.box).reads; have rA := (show Box7 _ _ _ _ _ _ _ _ _ from hb9.nod.box).reads.1; have rB := fun o => (show Box7 _ _ _ _ _ _ _ _ _ from (hb9.alloc o).nod.box).reads.1; have rC := fun v o => (show Box7 _ _ _ _ _ _ _ _ _ from ((hb9.set6 v).alloc o).nod.box).reads.1))
    have hfar9 := hb9.far
    have hb10 := zh ((hb9.set6 (.slice (some ⟨w3.heap.size, 0, none⟩) 2 2)).alloc (Obj.cells #[.string a, .string b, .int .i64 z, .int .i64 m, .slice o1 k1 c1, .slice o2 k2 c2, .slice o3 k3 c3, .string ra, .string rb, .int .i64 rz, .int .i64 rm, .slice p1 j1 d1, .slice p2 j2 d2, .slice p3 j3 d3] 27))
    have hK := zh (fun y k (h : RC = some (y, k)) => bin_kids hb9 (hS y k h).2.2.2 (fun _ hk => Nat.lt_of_lt_of_le hxl hk) (.slice (some ⟨w3.heap.size, 0, none⟩) 2 2))
    have hnr := zh (HNR.out.keep (w' := (w3.setCell ⟨xb, 6, none⟩ (.slice (some ⟨w3.heap.size, 0, none⟩) 2 2)).alloc (Obj.cells #[.string a, .string b, .int .i64 z, .int .i64 m, .slice o1 k1 c1, .slice o2 k2 c2, .slice o3 k3 c3, .string ra, .string rb, .int .i64 rz, .int .i64 rm, .slice p1 j1 d1, .slice p2 j2 d2, .slice p3 j3 d3] 27)) fun k hk hkl => (Below.heap_alloc _ _ _ (by rw [World.size_setCell]; exact Nat.lt_of_lt_of_le hkl hg.size)).trans ((Below.heap_setCell _ _ _ _ (by show k ≠ xb; omega)).trans (hg.block k hkl (by simp; omega))))
    have HE := zh (And.intro hle (And.intro hN hS))
    clear hg hR hle hN hS hb9 rA rB rC x0 x1 x2 x3 x4 x5 x6 y0 y1 y2 y3 y4 y5 y6 q0 q1' q2 q3 q4 q5 q6 sA sD
    go_wp2
    go_meet
    case rel =>
     refine ⟨w3.heap.size, [.string ra, .string rb, .int .i64 rz, .int .i64 rm, .slice p1 j1 d1, .slice p2 j2 d2, .slice p3 j3 d3], l', nn', b', hb10.out, hnr.out, HE.out.1, HE.out.2.1, fun y k hr => ?_⟩
     obtain ⟨g1, g2, g3, -⟩ := HE.out.2.2 y k hr
     obtain ⟨v1, v2, v3⟩ := hK.out y k hr
     exact ⟨g1, g2, g3, v1, v2, v3⟩
   case rest =>
   obtain ⟨kb, ds, l', nn', b', HB11, HNR11, HE⟩ := hcut
   clear HB8 HNR HCH
   have hbd : nn' <= nn + l.length := by
    have h1 := HNUM.out
    cases hb : b2 with
    | true => have := HE.out.1.2.2 hb; omega
    | false => have := HE.out.1.2.1; have := HLM.out hb; omega
   have HBD := zh hbd
   have HNDC := zh (zcR bd l' nn' b' wc HB11.out.nod.pre.rd (by have := HL.out.2; omega) ⟨#[98, 105, 110]⟩ tx 0 (mm : Nat) on kn cn none 0 0 (some ⟨kb, 0, none⟩) 2 2)
   obtain ⟨⟨x0, x1, x2, x3, x4, x5, x6⟩, y0, y1, y2, y3, y4, y5, y6⟩ := (show Box7 _ _ _ _ _ _ _ _ _ from HB11.out.box).reads
   clear hbd
   go_wp2_with fail
   refine HNDC.out.mono ?_
   rintro e w6 ⟨rfl, hr6, hg6⟩
   have HN6 := zh ((HB11.out.nod.call hr6 hg6).put7 (.string ⟨#[98, 105, 110]⟩) (.string tx) (.int .i64 0) (.int .i64 (mm : Nat)) (.slice on kn cn) (.slice none 0 0) (.slice (some ⟨kb, 0, none⟩) 2 2))
   obtain ⟨⟨q0, q1', q2, q3, q4, q5, q6⟩, f0, f1, f2, f3, f4, f5, f6⟩ := (show Box7 _ _ _ _ _ _ _ _ _ from (HB11.out.nod.call hr6 hg6).box).reads
   have HKP := zh (fun k (hk : w.heap.size < k /\ k ≠ nb) (hkl : k < wc.heap.size) => (show (put7 w6 nb (.string ⟨#[98, 105, 110]⟩) (.string tx) (.int .i64 0) (.int .i64 (mm : Nat)) (.slice on kn cn) (.slice none 0 0) (.slice (some ⟨kb, 0, none⟩) 2 2)).heap[k]? = wc.heap[k]? from (za1 w6 nb _ _ _ _ _ _ _ k hk.2).trans (hg6.block k hkl (by simp; omega))))
   have HCN : Hid (ChS w (put7 w6 nb (.string ⟨#[98, 105, 110]⟩) (.string tx) (.int .i64 0) (.int .i64 (mm : Nat)) (.slice on kn cn) (.slice none 0 0) (.slice (some ⟨kb, 0, none⟩) 2 2)) bd nn nb l n t T l' b' (nn' + 1) ⟨#[98, 105, 110]⟩ tx 0 (mm : Nat) on kn cn none 0 0 (some ⟨kb, 0, none⟩) 2 2) := by
    have h1 := HNUM.out
    refine ⟨HN6.out, ⟨fun hb => ?_, by have := HBD.out; omega⟩, fun hb => ?_, fun hb => ?_⟩
    ·have h2 := HE.out.1.1 hb
     have hb2 : b2 = false := by
      cases h : b2 with
      | false => rfl
      | true =>
        cases hr : RC with
        | none => have := HE.out.2.1 hr; rw [hb] at this; cases this
        | some p =>
          obtain ⟨ns, -, h3, -⟩ := HST.out.2 p.1 p.2 hr
          rw [h] at h3; cases h3
     have h3 := HLM.out hb2
     omega
    ·cases hr : RC with
     | none => exact HST.out.1 hr
     | some p =>
       have := (HE.out.2.2 p.1 p.2 hr).1
       rw [hb] at this; cases this
    ·cases hr : RC with
     | none => have := HE.out.2.1 hr; rw [hb] at this; cases this
     | some p =>
       obtain ⟨y, k⟩ := p
       obtain ⟨g1, g2, g3, g4, g5, g6⟩ := HE.out.2.2 y k hr
       obtain ⟨ns, e1, e2, e3, e4⟩ := HST.out.2 y k hr
       obtain ⟨-, -, -, n1, n2, n3⟩ := HNR11.out.yes _ _ _ e1
       have h5 := HGT.out y k e4
       have h6 := HLM.out e2
       have hlw := HB11.out.nod.low
       have hfr := HB11.out.far
       refine ⟨N + 1, .bin tx mm ns x y, by omega, by rw [g2]; omega, ?_, by simp only [countE]; omega, ?_⟩
       ·rw [g2, <- e3, <- HTX.out]
       ·exact (nod_2 ⟨n1, n2⟩ (n3.keep (Q := fun k => w.heap.size < k /\ k ≠ nb) fun k hk _ => ⟨rfl, by omega, by omega⟩) g4 g5 g6).keep fun k hk hkl => ⟨HKP.out k hk hkl, hk⟩
   have HLE9 := zh (show b' = false -> l'.length < l2.length + 1 from fun hb => by
    have h2 := HE.out.1.1 hb
    cases hr : RC with
    | none => have := HE.out.2.1 hr; rw [hb] at this; cases this
    | some p =>
      obtain ⟨y, k⟩ := p
      obtain ⟨ns, e1, e2, e3, e4⟩ := HST.out.2 y k hr
      have h5 := HGT.out y k e4
      have h6 := HLM.out e2
      rw [(HE.out.2.2 y k hr).2.1]; omega)
   clear hr6 hg6 x0 x1 x2 x3 x4 x5 x6 y0 y1 y2 y3 y4 y5 y6 HN6 HKP
   go_wp2
   go_roundg (if b' then 0 else l'.length + 1)
   case measure =>
    have hgk : gk = l2.length + 2 := by rw [hkx]; simp
    cases hb : b' with
    | true => simp; omega
    | false => have := HLE9.out hb; simp; omega
   case rel => exact ⟨l', b', nn' + 1, ⟨#[98, 105, 110]⟩, tx, 0, (mm : Nat), on, kn, cn, none, 0, 0, some ⟨kb, 0, none⟩, 2, 2, rfl, HCN.out⟩
  ·have jof : (((lv : Int) - 1) == q) = false := by simp [hof]
   have jof2 : (((lv : Int) - 1) != q) = true := by simp [hof]
   have HNE := zh (show (false : Bool) = false -> levelT (s :: l2) ≠ t from fun _ => by rw [HLT.out]; have := HQ.out; omega)
   obtain ⟨⟨q0, q1, q2, q3, q4, q5, q6⟩, -⟩ := HC.out.nod.box.reads
   obtain ⟨⟨r0, r1, r2, r3, r4, r5, r6⟩, g0, g1, g2, g3, g4, g5, g6⟩ := HC.out.nod.pre.box.reads
   go_wp2
   refine bodyPost_ret (v := .agg #[.string a, .string b, .int .i64 z, .int .i64 m, .slice o1 k1 c1, .slice o2 k2 c2, .slice o3 k3 c3]) (by simp [results, Tryz.results22, go_sem, r0, r1, r2, r3, r4, r5, r6]) rfl ?_
   exact HC.out.fin (fun _ => HNE.out trivial) _ _ _ _ _ _ _
end Go.Proofs.YtbcemjhaecelnaaGreatDoor.Drd
end
