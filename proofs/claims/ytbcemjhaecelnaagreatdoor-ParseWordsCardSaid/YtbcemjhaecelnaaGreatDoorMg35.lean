import Derived.Test.YtbcemjhaecelnaaGreatDoorMg34
section
set_option maxHeartbeats 8000000
set_option maxRecDepth 100000
namespace Go.Proofs.YtbcemjhaecelnaaGreatDoor.Drd
open Go.RowKit Go.Lib Par Sto
theorem zis {a b : List UInt8} (hab : a ≠ b) {l : List Tq} {p1 p2 : Bool} (h1 : isT 1 a l = p1) (h2 : isT 1 b l = p2) (h : (p1 || p2) = true) :
 zbu a b l = if isT 5 [40] l.tail then (zbe zaZ [41] l.tail.tail).map fun p => ((if p2 then 2 else 1, p.1), p.2) else none := by
 unfold zbu
 rw [h1, h2]
 cases p2 with
 | false =>
   rw [Bool.or_false] at h
   subst h
   rfl
 | true =>
   have : p1 = false := by
    cases p1 with
    | false => rfl
    | true =>
      cases l with
      | nil => cases h1
      | cons x t =>
        simp [isT] at h1 h2
        exact absurd (h1.2.symm.trans h2.2) hab
   subst this
   rfl
theorem zhq {a b : List UInt8} {l : List Tq} {p1 p2 : Bool} (h1 : isT 1 a l = p1) (h2 : isT 1 b l = p2) (h : (p1 || p2) = false) : zbu a b l = some ((0, []), l) := by
 obtain ⟨rfl, rfl⟩ := Bool.or_eq_false_iff.1 h
 unfold zbu
 rw [h1, h2]
 simp
theorem zit {a b : List UInt8} {l : List Tq} {p1 p2 : Bool} (h1 : isT 1 a l = p1) (h2 : isT 1 b l = p2) (h : (p1 || p2) = true) : ∃ x t, l = x :: t := by
 cases l with
 | nil => simp [isT] at h1 h2; subst h1; subst h2; cases h
 | cons x t => exact ⟨x, t, rfl⟩
theorem dagg_of (n : Nat) (hC : zdM n) : ziK (n + 2) := by
 intro s l hs1 hag hl w bd nn hnn h
 have hfar := h.lt
 have HS0 := zh (PreS.start h)
 have HTK := zh (zfM bd s l nn 1 hs1 _ HS0.out.rd)
 have htz : (⟨s.2.toArray⟩ : ByteArray).size <= 1000 := by
  have := ((h.ok s (by simp)).toTokOk).few
  show s.2.toArray.size <= 1000
  simpa using this
 obtain ⟨tx, htx⟩ : ∃ tx : ByteArray, tx = ⟨s.2.toArray⟩ := ⟨_, rfl⟩
 have HTX := zh (show tx = bz s.2 from htx)
 rw [<- htx] at HTK htz
 have HCG := zh hC
 obtain ⟨p1, hp1⟩ : ∃ p, isT 1 wBy l = p := ⟨_, rfl⟩
 obtain ⟨p2, hp2⟩ : ∃ p, isT 1 za0 l = p := ⟨_, rfl⟩
 have HP1 := zh hp1
 have HP2 := zh hp2
 have HL := zh (And.intro hl hnn)
 clear h htx hC hs1 hag hp1 hp2 hl hnn
 go_enter Tryz.func97, Tryz.ntmps97
 go_wp2_with fail
 refine HTK.out.mono ?_
 rintro e w1 ⟨rfl, hr1, hg1⟩
 have HS1 := zh (HS0.out.call hr1 hg1)
 have hbig1 := HS1.out.big
 clear hr1 hg1
 have HN1 := zh (NodS.new HS1.out (.string ⟨#[97, 103, 103]⟩) (.string tx) (.int .i64 0) (.int .i64 0) (.slice none 0 0) (.slice none 0 0) (.slice none 0 0))
 have HI1 := zh (zby bd l nn false 1 ⟨#[98, 121]⟩ _ HN1.out.pre.rd)
 have HI2 := zh (zby bd l nn false 1 ⟨#[119, 105, 116, 104, 111, 117, 116]⟩ _ HN1.out.pre.rd)
 rw [show (⟨#[98, 121]⟩ : ByteArray).data.toList = wBy from rfl, HP1.out, Bool.not_false, Bool.true_and] at HI1
 rw [show (⟨#[119, 105, 116, 104, 111, 117, 116]⟩ : ByteArray).data.toList = za0 from rfl, HP2.out, Bool.not_false, Bool.true_and] at HI2
 obtain ⟨nb, hnb⟩ : ∃ nb, w1.heap.size = nb := ⟨_, rfl⟩
 go_upto_region 2 with fail
 go_cut [12] from 4 (fun u12 wx => u12 = .bool (p1 || p2) /\ Hid (NodS w wx bd nn l false nb (.string ⟨#[97, 103, 103]⟩) (.string tx) (.int .i64 0) (.int .i64 0) (.slice none 0 0) (.slice none 0 0) (.slice none 0 0)))
 case first =>
  cases p1 with
  | true =>
    go_wp2_with fail
    refine HI1.out.mono ?_
    rintro e w2 ⟨rfl, rfl⟩
    go_wp2
    go_meet
    case rel => exact ⟨rfl, by rw [<- hnb]; exact HN1.out⟩
  | false =>
    go_wp2_with fail
    refine HI1.out.mono ?_
    rintro e w2 ⟨rfl, rfl⟩
    go_wp2_with fail
    refine HI2.out.mono ?_
    rintro e w2 ⟨rfl, rfl⟩
    go_wp2
    go_meet
    case rel => exact ⟨rfl, by rw [<- hnb]; exact HN1.out⟩
 case rest =>
 obtain ⟨rfl, HN2⟩ := hcut
 clear HI1 HI2 HN1
 go_upto_if 12 with fail
 go_cut [] from 4 (fun wx => ∃ (mm : Nat) (on : Option Addr) (kn cn : Nat) (l2 : List Tq) (b2 : Bool), Hid (NodS w wx bd nn l2 b2 nb (.string ⟨#[97, 103, 103]⟩) (.string tx) (.int .i64 0) (.int .i64 (mm : Nat)) (.slice on kn cn) (.slice none 0 0) (.slice none 0 0)) /\ Hid (NamR wx nb (zbu wBy za0 l) mm on kn cn l2 b2) /\ Hid (b2 = false -> l2.length <= l.length))
 case first =>
  cases hpp : (p1 || p2) with
  | false =>
    have HMO := zh (zhq HP1.out HP2.out hpp)
    clear hpp
    go_wp2
    go_meet
    case rel => exact ⟨0, none, 0, 0, l, false, HN2, ⟨fun h => by rw [HMO.out] at h; (cases h), fun m ns y h => by rw [HMO.out] at h; injection h with h; injection h with h1 h2; injection h1 with h1 h3; subst h1; subst h2; subst h3; exact ⟨rfl, rfl, rfl, rfl, Nat.le_refl _, .inl rfl⟩⟩, fun _ => Nat.le_refl _⟩
  | true =>
    have HMO := zh (zis (by decide) HP1.out HP2.out hpp)
    obtain ⟨x, t, rfl⟩ := zit HP1.out HP2.out hpp
    obtain ⟨⟨q0, q1, q2, q3, q4, q5, q6⟩, f0, f1, f2, f3, f4, f5, f6⟩ := HN2.out.box.reads
    have HN3 := zh (HN2.out.set3 (.int .i64 1))
    have HI2 := zh (zby bd (x :: t) nn false 1 ⟨#[119, 105, 116, 104, 111, 117, 116]⟩ _ HN3.out.pre.rd)
    rw [show (⟨#[119, 105, 116, 104, 111, 117, 116]⟩ : ByteArray).data.toList = za0 from rfl, HP2.out, Bool.not_false, Bool.true_and] at HI2
    clear hpp
    go_wp2_with fail
    refine HI2.out.mono ?_
    rintro e w2 ⟨rfl, rfl⟩
    go_upto_if 15 with fail
    go_cut [] from 13 (fun wx => Hid (NodS w wx bd nn (x :: t) false nb (.string ⟨#[97, 103, 103]⟩) (.string tx) (.int .i64 0) (.int .i64 ((if p2 then 2 else 1 : Nat) : Nat)) (.slice none 0 0) (.slice none 0 0) (.slice none 0 0)))
    case first =>
     cases p2 with
     | false =>
       go_wp2
       go_meet
       case rel => exact HN3.out
     | true =>
       have HN4 := zh (HN3.out.set3 (.int .i64 2))
       go_wp2
       go_meet
       case rel => exact HN4.out
    case rest =>
    have HN5 := zh (Hid.out hcut)
    obtain ⟨mm, hmm⟩ : ∃ mm : Nat, (if p2 then 2 else 1 : Nat) = mm := ⟨_, rfl⟩
    rw [hmm] at HN5 HMO
    clear hcut q0 q1 q2 q3 q4 q5 q6 f0 f1 f2 f3 f4 f5 f6 HI2 HN3 hmm
    obtain ⟨bb, off, k, c, hk, hkc, hkm, hb, hbl, hrow, d0, ⟨dz, d1⟩, d2, HD, HD0⟩ := HN5.out.pre.rd.head
    obtain ⟨⟨c0, c1, c2⟩, f0, f1, f2⟩ := zav hrow
    have HD := zh HD
    have HD0 := zh HD0
    have i0 : (0 : Int) < k := by omega
    have i1 : (1 : Int) <= k := by omega
    have hkn : (k : Int) <= 1000000 := by omega
    clear hrow d0 d1 d2
    go_upto_region 6 with fail
    go_cut [] from 13 (fun wx => Hid (NodS w wx bd nn t false nb (.string ⟨#[97, 103, 103]⟩) (.string tx) (.int .i64 0) (.int .i64 (mm : Nat)) (.slice none 0 0) (.slice none 0 0) (.slice none 0 0)))
    case first =>
     go_wp2
     ·go_meet
      case rel => exact HN5.out.toks (HD0.out _ _ _ (by omega) (by omega))
     ·go_meet
      case rel => exact HN5.out.toks (HD.out _ _ _ rfl (by omega) (by omega))
    case rest =>
    have HN6 := zh (Hid.out hcut)
    have HNM := zh (zfs bd t nn wc HN6.out.pre.rd)
    have hnb6 := HN6.out.lt
    clear hcut c0 c1 c2 f0 f1 f2 HD HD0 hk hkc hkm hb hbl i0 i1 hkn
    go_wp2_with fail
    refine HNM.out.mono ?_
    intro e w2 hn
    obtain ⟨on, kn, cn, l2, b2, rfl, hr2, hg2, hle2, hnr⟩ := ziq (mm := mm) hn hnb6
    have HN7 := zh ((HN6.out.call hr2 hg2).set4 (.slice on kn cn))
    have HNR := zh hnr
    obtain ⟨⟨q0, q1, q2, q3, q4, q5, q6⟩, f0, f1, f2, f3, f4, f5, f6⟩ := (HN6.out.call hr2 hg2).box.reads
    have HLE := zh hle2
    clear hn hr2 hg2 hle2 hnr
    go_wp2
    go_meet
    case rel =>
     refine ⟨mm, on, kn, cn, l2, b2, HN7.out, ?_, fun hb => by have := HLE.out hb; simp only [List.length_cons]; omega⟩
     rw [HMO.out]
     exact HNR.out.keep fun k hk _ => Below.heap_setCell _ _ _ _ (by show k ≠ nb; omega)
 case rest =>
 obtain ⟨mm, on, kn, cn, l2, b2, HN8, HNR, HLE⟩ := hcut
 clear HN2
 obtain ⟨R1, hR1⟩ : ∃ R1, zbu wBy za0 l = R1 := ⟨_, rfl⟩
 have HR1 := zh hR1
 rw [hR1] at HNR
 clear hR1
 have HSG := zh (sign_any bd l2 nn b2 ⟨#[40]⟩ wc HN8.out.pre.rd)
 go_wp2_with fail
 refine HSG.out.mono ?_
 rintro e w2 ⟨rfl, hr2, hg2⟩
 have HN9 := zh (HN8.out.call hr2 hg2)
 have HNR9 := zh (HNR.out.keep (w' := w2) fun k hk hkl => hg2.block k hkl (by have := HN8.out.low; simp; omega))
 clear hr2 hg2
 obtain ⟨l3, hl3⟩ : ∃ l3, resS [40] b2 l2 = l3 := ⟨_, rfl⟩
 obtain ⟨b3, hb3⟩ : ∃ b3, badS [40] b2 l2 = b3 := ⟨_, rfl⟩
 rw [hl3, hb3] at HN9
 have HL3 := zh (And.intro hl3 hb3)
 clear hl3 hb3 HSG
 obtain ⟨nu, hnu⟩ : ∃ nu, zdv s.2 = nu := ⟨_, rfl⟩
 have HNU := zh hnu
 have htk : (tx.toList == [116, 111, 112, 107] || tx.toList == [113, 117, 97, 110, 116, 105, 108, 101]) = nu := by
  rw [ByteArray.toList_eq, HTX.out]; exact hnu
 clear hnu
 go_upto_region 9 with fail
 go_cut [37] from 4 (fun u37 wx => u37 = .bool nu /\ wx = w2)
 case first =>
  obtain ⟨⟨q0, q1, q2, q3, q4, q5, q6⟩, f0, f1, f2, f3, f4, f5, f6⟩ := HN9.out.box.reads
  cases ht1 : (tx.toList == [116, 111, 112, 107]) with
  | true =>
    obtain rfl : true = nu := by rw [<- htk, ht1]; rfl
    clear htk
    go_wp2
    go_meet
    case rel => exact ⟨rfl, rfl⟩
  | false =>
    have ht2 : (tx.toList == [113, 117, 97, 110, 116, 105, 108, 101]) = nu := by rw [<- htk, ht1]; rfl
    clear htk
    go_wp2
    go_meet
    case rel => exact ⟨rfl, rfl⟩
 case rest =>
 obtain ⟨rfl, rfl⟩ := hcut
 clear htk
 go_upto_if 37 with fail
 go_cut [] from 4 (fun wx => ∃ (kk : Nat) (l4 : List Tq) (b4 : Bool), Hid (NodS w wx bd nn l4 b4 nb (.string ⟨#[97, 103, 103]⟩) (.string tx) (.int .i64 (kk : Nat)) (.int .i64 (mm : Nat)) (.slice on kn cn) (.slice none 0 0) (.slice none 0 0)) /\ Hid (NamR wx nb R1 mm on kn cn l2 b2) /\ Hid (NumR s.2 b3 l3 kk l4 b4) /\ Hid (l4.length <= l3.length))
 case first =>
  cases nu with
  | false =>
    go_wp2
    go_meet
    case rel => exact ⟨0, l3, b3, HN9.out, HNR9.out, ⟨fun h => ⟨h, by unfold zdD; rw [HNU.out, if_neg (by simp)]⟩, fun h => .inl h⟩, Nat.le_refl _⟩
  | true =>
    have HTA := zh (take_any bd l3 nn b3 2 wc HN9.out.pre.rd)
    have HDV := zh (fun W => zd3 l3 HN9.out.pre.rd.ok 2 (.inl rfl) b3 W)
    obtain ⟨sp, hsp⟩ : ∃ sp, bz (txtK 2 b3 l3) = sp := ⟨_, rfl⟩
    obtain ⟨z, hz⟩ : ∃ z, valL (txtK 2 b3 l3) = z := ⟨_, rfl⟩
    rw [hsp] at HTA HDV
    rw [hz] at HDV
    have HZ := zh hz
    clear hsp hz
    go_wp2_with fail
    refine HTA.out.mono ?_
    rintro e w3 ⟨rfl, hr3, hg3⟩
    have HNA := zh (HN9.out.call hr3 hg3)
    have HNRA := zh (HNR9.out.keep (w' := w3) fun k hk hkl => hg3.block k hkl (by have := HN9.out.low; simp; omega))
    clear hr3 hg3
    go_wp2_with fail
    refine (HDV.out _).mono ?_
    rintro e w4 ⟨rfl, rfl⟩
    obtain ⟨⟨q0, q1, q2, q3, q4, q5, q6⟩, f0, f1, f2, f3, f4, f5, f6⟩ := HNA.out.box.reads
    have HNB := zh (HNA.out.set2 (.int .i64 (z : Nat)))
    have HSH := zh (sign_any bd _ nn _ ⟨#[44]⟩ _ HNB.out.pre.rd)
    have HNRB := zh (HNRA.out.keep (w' := w3.setCell ⟨nb, 2, none⟩ (.int .i64 (z : Nat))) fun k hk _ => Below.heap_setCell _ _ _ _ (by show k ≠ nb; omega))
    go_wp2_with fail
    refine HSH.out.mono ?_
    rintro e w5 ⟨rfl, hr5, hg5⟩
    have HNC := zh (HNB.out.call hr5 hg5)
    have HNRC := zh (HNRB.out.keep (w' := w5) fun k hk hkl => hg5.block k hkl (by have := HN9.out.low; simp; omega))
    clear hr5 hg5 q0 q1 q2 q3 q4 q5 q6 f0 f1 f2 f3 f4 f5 f6
    go_wp2
    go_meet
    case rel =>
     refine ⟨z, _, _, HNC.out, HNRC.out, ⟨fun h => ?_, fun h => ?_⟩, Nat.le_trans (zdi _ _ _) (zaX _ _ _)⟩
     ·have h44 : badK 2 b3 l3 = false /\ isT 5 [44] (resK 2 b3 l3) = true := by
       have h' : (badK 2 b3 l3 || !isT 5 [44] (resK 2 b3 l3)) = false := h
       simpa using h'
      obtain ⟨g1, g2⟩ := zfN h44.1
      refine ⟨g1, ?_⟩
      unfold zdD
      rw [HNU.out, if_pos rfl, g2]
      simp only [h44.2, if_true]
      rw [HZ.out]
      have h'' : badS [44] (badK 2 b3 l3) (resK 2 b3 l3) = false := h
      show some (z, _) = some (z, resS [44] (badK 2 b3 l3) (resK 2 b3 l3))
      unfold resS
      rw [h'', if_neg (by simp)]
     ·cases b3 with
      | true => exact .inl rfl
      | false =>
        refine .inr ?_
        unfold zdD
        rw [HNU.out, if_pos rfl]
        cases h2 : badK 2 false l3 with
        | true => rw [zir h2]
        | false =>
          obtain ⟨g1, g2⟩ := zfN h2
          have h' : (badK 2 false l3 || !isT 5 [44] (resK 2 false l3)) = true := h
          rw [h2, Bool.false_or, Bool.not_eq_true'] at h'
          rw [g2]
          simp only [h', if_neg Bool.false_ne_true]
 case rest =>
 obtain ⟨kk, l4, b4, HN10, HNR10, HNUR, HL4⟩ := hcut
 clear HN8 HN9 HNR9 HNR
 have hl42 : b4 = false -> l4.length + 1 <= l.length /\ b2 = false /\ isT 5 [40] l2 = true := fun hb => by
  have h3 := (HNUR.out.yes hb).1
  have e3 := HL3.out.2
  rw [h3] at e3
  have h40 : b2 = false /\ isT 5 [40] l2 = true := by
   have e4 : (b2 || !isT 5 [40] l2) = false := e3
   simpa using e4
  have h5 := zaw h40.2
  have h6 : l3 = l2.tail := by
   rw [<- HL3.out.1]; unfold resS; rw [show badS [40] b2 l2 = false from e3, if_neg (by simp)]
  have h7 := HL4.out
  have h8 := HLE.out h40.1
  rw [h6] at h7
  exact ⟨by omega, h40⟩
 have HCC : Hid (Calls Tryz.prog 22 #[.pointer (some ⟨bd, 0, none⟩), .int .i64 0] wc (DEnd wc bd nn l4 b4 (orB b4 (chainGo n 1 l4)))) := by
  cases hb : b4 with
  | true =>
    rw [hb] at HN10
    exact (zdj bd l4 nn wc HN10.out.pre.rd).mono fun e w' hz => zeG hz
  | false =>
    rw [hb] at HN10
    have h3 := (hl42 hb).1
    obtain ⟨hl, hnn⟩ := HL.out
    exact HCG.out 1 l4 false (by omega) (by omega) (by omega) wc bd nn 0 rfl (by omega) HN10.out.pre.rd
 have HLL := zh hl42
 clear hl42
 obtain ⟨RC, hRC⟩ : ∃ RC, orB b4 (chainGo n 1 l4) = RC := ⟨_, rfl⟩
 rw [hRC] at HCC
 have HRC := zh hRC
 clear hRC
 go_upto_region 12 with fail
 go_cut [] from 4 (fun wx => ∃ (kb : Nat) (cs : List Value) (l' : List Tq) (nn' : Nat) (b' : Bool), Hid (NodS w wx bd nn' l' b' nb (.string ⟨#[97, 103, 103]⟩) (.string tx) (.int .i64 (kk : Nat)) (.int .i64 (mm : Nat)) (.slice on kn cn) (.slice none 0 0) (.slice (some ⟨kb, 0, none⟩) 1 1)) /\ Hid (NamR wx nb R1 mm on kn cn l2 b2) /\
  Hid (((b' = false -> nn' + l'.length <= nn + l4.length) /\ nn' <= nn + l4.length + 1 /\ (b4 = true -> nn' <= nn)) /\ (RC = none -> b' = true) /\ ∀ x y, RC = some (x, y) -> b' = false /\ l' = y /\ nn' = nn + countE x /\ za2 wx (fun b => nb < b) (some ⟨kb, 0, none⟩) 7 [cs] /\ Nod wx (fun b => nb < b) cs x))
 case first =>
  have hnbl := HN10.out.lt
  go_wp2_with fail
  refine HCC.out.mono ?_
  rintro e w3 ⟨a, b, z, m, o1, k1, c1, o2, k2, c2, o3, k3, c3, rfl, hg, l', nn', b', hR, hle, hN, hS⟩
  have HNA := zh (HN10.out.call hR hg)
  have HNRA := zh (HNR10.out.keep (w' := w3) fun k hk hkl => hg.block k hkl (by have := HN10.out.low; simp; omega))
  have hnb3 := HNA.out.lt
  have HKS := zh (fun x y (h : RC = some (x, y)) => by
   have := zio (w2 := w3.setCell ⟨nb, 6, none⟩ (.slice (some ⟨w3.heap.size, 0, none⟩) 1 1)) (B := nb) ((hS x y h).2.2.2.keep (Q := fun k => wc.heap.size <= k) fun k hk _ => ⟨Below.heap_setCell _ _ _ _ (by show k ≠ nb; omega), hk⟩) (fun k hk => by omega) (by simpa using hnb3)
   rw [World.size_setCell] at this
   exact this)
  have HE := zh (And.intro hle (And.intro hN hS))
  clear hg hR hle hN hS
  obtain ⟨⟨q0, q1, q2, q3, q4, q5, q6⟩, f0, f1, f2, f3, f4, f5, f6⟩ := HNA.out.box.reads
  go_wp2
  go_meet
  case rel =>
   refine ⟨w3.heap.size, [.string a, .string b, .int .i64 z, .int .i64 m, .slice o1 k1 c1, .slice o2 k2 c2, .slice o3 k3 c3], l', nn', b', ((HNA.out.set6 _).alloc _), ?_, HE.out.1, HE.out.2.1, fun x y hr => ?_⟩
   ·exact HNRA.out.keep fun k hk hkl => (Below.heap_alloc _ _ _ (by simpa using hkl)).trans (Below.heap_setCell _ _ _ _ (by show k ≠ nb; omega))
   ·obtain ⟨g1, g2, g3, g4⟩ := HE.out.2.2 x y hr
    obtain ⟨v1, v2⟩ := HKS.out x y hr
    exact ⟨g1, g2, g3, v1, v2⟩
 case rest =>
 obtain ⟨kb, cs, l', nn', b', HN11, HNR11, HE⟩ := hcut
 clear HN10 HNR10 HCC
 have HSH := zh (sign_any bd l' nn' b' ⟨#[41]⟩ wc HN11.out.pre.rd)
 rw [show (⟨#[41]⟩ : ByteArray).data.toList = [41] from rfl] at HSH
 go_wp2_with fail
 refine HSH.out.mono ?_
 rintro e w5 ⟨rfl, hr5, hg5⟩
 have HN12 := zh (HN11.out.call hr5 hg5)
 have hlow := HN11.out.low
 have HNR12 := zh (HNR11.out.keep (w' := w5) fun k hk hkl => hg5.block k hkl (by simp; omega))
 have HE2 := zh (fun x y (h : RC = some (x, y)) => (show za2 w5 (fun b => nb < b) (some ⟨kb, 0, none⟩) 7 [cs] /\ Nod w5 (fun b => nb < b) cs x from ⟨(HE.out.2.2 x y h).2.2.2.1.keep fun k hk hkl => ⟨hg5.block k hkl (by simp; omega), hk⟩, (HE.out.2.2 x y h).2.2.2.2.keep fun k hk hkl => ⟨hg5.block k hkl (by simp; omega), hk⟩⟩))
 have hbd : nn' <= nn + l.length + 1 := by
  cases hb : b4 with
  | true => have := HE.out.1.2.2 hb; omega
  | false => have := HE.out.1.2.1; have := (HLL.out hb).1; omega
 have hbd2 : nn' <= 1000000000 := by have h1 := HL.out; omega
 have HBD := zh hbd
 have HND := zh (zcR bd (resS [41] b' l') nn' (badS [41] b' l') w5 HN12.out.pre.rd hbd2 ⟨#[97, 103, 103]⟩ tx (kk : Nat) (mm : Nat) on kn cn none 0 0 (some ⟨kb, 0, none⟩) 1 1)
 obtain ⟨⟨q0, q1, q2, q3, q4, q5, q6⟩, f0, f1, f2, f3, f4, f5, f6⟩ := HN12.out.box.reads
 clear hr5 hg5 hbd hbd2
 go_wp2_with fail
 refine HND.out.mono ?_
 rintro e w6 ⟨rfl, hr6, hg6⟩
 have HR6 := zh hr6
 have HG6 := zh hg6
 have HB6 := zh (show Box7 w6 w.heap.size (.string ⟨#[]⟩) (.string ⟨#[]⟩) (.int .i64 0) (.int .i64 0) (.slice none 0 0) (.slice none 0 0) (.slice none 0 0) from zaa HN12.out.pre.box hg6 (by omega))
 clear hr6 hg6 q0 q1 q2 q3 q4 q5 q6 f0 f1 f2 f3 f4 f5 f6
 obtain ⟨⟨q0, q1, q2, q3, q4, q5, q6⟩, f0, f1, f2, f3, f4, f5, f6⟩ := HB6.out.reads
 go_wp2
 refine bodyPost_ret (v := .agg #[.string ⟨#[97, 103, 103]⟩, .string tx, .int .i64 (kk : Nat), .int .i64 (mm : Nat), .slice on kn cn, .slice none 0 0, .slice (some ⟨kb, 0, none⟩) 1 1]) (by simp [results, Tryz.results97, go_sem, q0, q1, q2, q3, q4, q5, q6]) rfl ?_
 have hlow2 : bd < w.heap.size := hfar
 rcases agg_all (l' := l') HR1.out HNR12.out.no (fun m ns y h => ⟨(HNR12.out.yes m ns y h).1, (HNR12.out.yes m ns y h).2.1, (HNR12.out.yes m ns y h).2.2.1⟩) HL3.out.1 HL3.out.2 HNUR.out HRC.out HE.out.2.1 (fun x y h => ⟨(HE.out.2.2 x y h).1, (HE.out.2.2 x y h).2.1⟩) with ⟨g1, g2⟩ | ⟨g1, x0, ns, g2, g3, g4, g5, g6⟩
 ·rw [g2]
  refine zaR hfar HN12.out.pre.grow HN12.out.pre.big HG6.out HR6.out ⟨fun hb => ?_, ?_⟩ _ _ _ _ _ _ _ _ _ _ _ _ _ (fun _ => g1) (fun x y hr => by cases hr) _ _ _ _ _ _ _
  ·rw [show badS [41] b' l' = true from g1] at hb; cases hb
  ·have := HBD.out; simp only [List.length_cons]; omega
 ·rw [g2]
  obtain ⟨h1, h2, h3, h4, h5⟩ := HE.out.2.2 x0 l' g3
  obtain ⟨v1, v2⟩ := HE2.out x0 l' g3
  obtain ⟨-, -, -, n1, n2, n3⟩ := HNR12.out.yes _ _ _ g4
  have hlen := (HLL.out g5).1
  have hle := HE.out.1.1 g6
  have hres := zdi [41] b' l'
  refine zaR hfar HN12.out.pre.grow HN12.out.pre.big HG6.out HR6.out ⟨fun _ => ?_, ?_⟩ _ _ _ _ _ _ _ _ _ _ _ _ _ (fun hr => by cases hr) (fun x y hr => ?_) _ _ _ _ _ _ _
  ·simp only [List.length_cons]; omega
  ·have := HBD.out; simp only [List.length_cons]; omega
  ·injection hr with hr; injection hr with e1 e2; subst e1; subst e2
   refine ⟨g1, rfl, by simp only [countE]; omega, ?_⟩
   have hq : ∀ k, nb < k -> w.heap.size < k := fun k hk => by omega
   exact ziJ (fun x => .agg (bz s.2) kk mm ns x) (x := x0) ⟨rfl, HTX.out.symm, rfl, rfl, rfl, rfl, rfl⟩ ⟨n1, n2⟩ (n3.keep fun k hk _ => ⟨rfl, hq k hk⟩) (v1.keep fun k hk _ => ⟨rfl, hq k hk⟩) (v2.keep fun k hk _ => ⟨rfl, hq k hk⟩)
end Go.Proofs.YtbcemjhaecelnaaGreatDoor.Drd
end
