import Derived.Test.YtbcemjhaecelnaaGreatDoorMg35
import Derived.Deep.RegionHeld3
import Derived.Deep.DeepFit
import Derived.Deep.RegionWith
section
set_option maxHeartbeats 8000000
set_option maxRecDepth 100000
namespace Go.Proofs.YtbcemjhaecelnaaGreatDoor.Drd
open Go.RowKit Go.Lib Par Sto
structure TokS (w wx : World) (bd nn : Nat) (l : List Tq) (b : Bool) (kd : Nat) (dz : Int) (tx : ByteArray) : Prop where
 pre : PreS w wx bd nn l b
 tok : wx.heap[w.heap.size + 1]? = some (.cells #[.int .i64 (kd : Nat), .int .i64 dz, .string tx] 78 (0, 0))
theorem TokS.call {w wx w' : World} {bd nn nn' : Nat} {l l' : List Tq} {b b' : Bool} {kd : Nat} {dz : Int} {tx : ByteArray} (h : TokS w wx bd nn l b kd dz tx) (hr : Rdd w' bd l' nn' b') (hg : wx.grownBy w' (some bd)) : TokS w w' bd nn' l' b' kd dz tx :=
 have hf := h.pre.far
 ⟨h.pre.call hr hg, zaa h.tok hg (by omega)⟩
theorem TokS.lt {w wx : World} {bd nn : Nat} {l : List Tq} {b : Bool} {kd : Nat} {dz : Int} {tx : ByteArray} (h : TokS w wx bd nn l b kd dz tx) : w.heap.size + 1 < wx.heap.size := (Array.getElem?_eq_some_iff.1 h.tok).1
theorem TokS.start {w : World} {bd nn : Nat} {l : List Tq} {b : Bool} (h : Rdd w bd l nn b) (kd : Nat) (dz : Int) (tx : ByteArray) : TokS w ((w.alloc (Obj.cells #[.string ⟨#[]⟩, .string ⟨#[]⟩, .int .i64 0, .int .i64 0, .slice none 0 0, .slice none 0 0, .slice none 0 0] 27)).alloc (Obj.cells #[.int .i64 (kd : Nat), .int .i64 dz, .string tx] 78)) bd nn l b kd dz tx := by
 refine ⟨(PreS.start h).alloc _, ?_⟩
 have : ((w.alloc (Obj.cells #[.string ⟨#[]⟩, .string ⟨#[]⟩, .int .i64 0, .int .i64 0, .slice none 0 0, .slice none 0 0, .slice none 0 0] 27)).alloc (Obj.cells #[.int .i64 (kd : Nat), .int .i64 dz, .string tx] 78)).heap[(w.alloc (Obj.cells #[.string ⟨#[]⟩, .string ⟨#[]⟩, .int .i64 0, .int .i64 0, .slice none 0 0, .slice none 0 0, .slice none 0 0] 27)).heap.size]? = some (Obj.cells #[.int .i64 (kd : Nat), .int .i64 dz, .string tx] 78) := Array.getElem?_push_size
 rwa [World.size_alloc] at this
theorem TokS.toks {w wx : World} {bd nn : Nat} {l t : List Tq} {b : Bool} {kd : Nat} {dz : Int} {tx : ByteArray} {v : Value} (h : TokS w wx bd nn l b kd dz tx) (hr : Rdd (wx.setCell ⟨bd, 0, none⟩ v) bd t nn b) : TokS w (wx.setCell ⟨bd, 0, none⟩ v) bd nn t b kd dz tx :=
 h.call hr (grown_set _ _ _ _)
theorem PreS.drew {w wx : World} {bd nn : Nat} {l : List Tq} {b : Bool} (h : PreS w wx bd nn l b) : PreS w wx.drew bd nn l b := h.call (h.rd.below (Below.refl _ _).drew) ⟨rfl, rfl, rfl, Nat.le_refl _, fun _ _ _ => rfl⟩
theorem NodS.drew {w wx : World} {bd nn : Nat} {l : List Tq} {b : Bool} {nb : Nat} {a0 a1 a2 a3 a4 a5 a6 : Value} (h : NodS w wx bd nn l b nb a0 a1 a2 a3 a4 a5 a6) : NodS w wx.drew bd nn l b nb a0 a1 a2 a3 a4 a5 a6 := h.call (h.pre.rd.below (Below.refl _ _).drew) ⟨rfl, rfl, rfl, Nat.le_refl _, fun _ _ _ => rfl⟩
theorem NodS.put7 {w wx : World} {bd nn : Nat} {l : List Tq} {b : Bool} {nb : Nat} {a0 a1 a2 a3 a4 a5 a6 : Value} (h : NodS w wx bd nn l b nb a0 a1 a2 a3 a4 a5 a6) (b0 b1 b2 b3 b4 b5 b6 : Value) : NodS w (put7 wx nb b0 b1 b2 b3 b4 b5 b6) bd nn l b nb b0 b1 b2 b3 b4 b5 b6 :=
 ⟨((((((h.pre.setNew h.low 0 b0).setNew h.low 1 b1).setNew h.low 2 b2).setNew h.low 3 b3).setNew h.low 4 b4).setNew h.low 5 b5).setNew h.low 6 b6, zfI h.box b0 b1 b2 b3 b4 b5 b6, h.low⟩
theorem zd5 {w : World} {a : Addr} {v : Value} (h : w.cell? a = some v) : a.block < w.heap.size := World.block_lt_of_cell? _ _ h
def zgz (r : Option (Ex × List Tq)) : Option (Ex × List Tq) := match r with
 | none => none
 | some (x, m) => if isT 5 [41] m then some (x, m.tail) else none
theorem zg0 {r0 : Option (Ex × List Tq)} {b' : Bool} {l' : List Tq} (h1 : r0 = none -> b' = true) (h2 : ∀ x y, r0 = some (x, y) -> b' = false /\ l' = y) :
 (badS [41] b' l' = true /\ zgz r0 = none) \/ (badS [41] b' l' = false /\ b' = false /\ ∃ x0, r0 = some (x0, l') /\ zgz r0 = some (x0, resS [41] b' l')) := by
 cases hr : r0 with
 | none => exact .inl ⟨by rw [h1 hr]; rfl, rfl⟩
 | some p =>
   obtain ⟨x, y⟩ := p
   obtain ⟨rfl, rfl⟩ := h2 _ _ hr
   cases h41 : isT 5 [41] l' with
   | false => exact .inl ⟨by show (false || !isT 5 [41] l') = true; rw [h41]; rfl, by show (if isT 5 [41] l' then _ else _) = _; rw [h41]; rfl⟩
   | true =>
     have e : badS [41] false l' = false := by show (false || !isT 5 [41] l') = false; rw [h41]; rfl
     exact .inr ⟨e, rfl, x, rfl, by show (if isT 5 [41] l' then _ else _) = _; rw [h41, if_pos rfl]; unfold resS; rw [e, if_neg (by simp)]⟩
theorem zhs {k : Nat} {x : Tq} {t : List Tq} (h : x.1 = k) : txtK k false (x :: t) = x.2 := by
 unfold txtK badK; simp [isK, h, zd2]
theorem sel_is {x : Tq} {t : List Tq} (hw : TokW x) (n : Nat) (h40 : isT 5 [40] (x :: t) = false) (h2 : x.1 ≠ 2) (ha : ¬ (x.1 = 1 /\ aggB x.2 = true)) (hf : ¬ (x.1 = 1 /\ fnS x.2 = true)) : zaz (n + 1) (x :: t) = selD (x :: t) := by
 rw [zaz, if_neg (by rw [h40]; simp), if_neg h2]
 unfold selD selT selR zdU
 by_cases h1 : x.1 = 1
 ·have ha' : aggB x.2 = false := by cases h : aggB x.2 with | false => rfl | true => exact absurd ⟨h1, h⟩ ha
  have hf' : fnS x.2 = false := by cases h : fnS x.2 with | false => rfl | true => exact absurd ⟨h1, h⟩ hf
  rw [if_pos h1, if_neg (by rw [ha']; simp), if_neg (by rw [hf']; simp)]
  have ho : ownB x.2 = resB x.2 := by rw [own_is, ha', hf']; simp
  cases hr : resB x.2 with
  | true =>
    have h123 : isT 5 [123] (x :: t) = false := by simp [isT, h1]
    simp only [h1, ho, hr, beq_self_eq_true, Bool.not_true, Bool.and_false, Bool.false_eq_true, if_false, if_true, List.isEmpty_nil]
    unfold selP zb0
    rw [h123]
    simp
  | false =>
    simp only [h1, ho, hr, beq_self_eq_true, Bool.not_false, Bool.and_true, Bool.false_eq_true, if_false, if_true, zd2, List.tail_cons]
    have hne : x.2.isEmpty = false := by
     cases hx : x.2 with
     | nil => exact absurd hx (hw.wd h1)
     | cons a b => rfl
    rw [hne]; rfl
 ·rw [if_neg h1]
  have e : (x.1 == 1) = false := by simp [h1]
  simp only [e, Bool.false_and, Bool.false_eq_true, if_false, List.isEmpty_nil, Bool.not_true]
theorem dprim_of (hM : zhz) (n : Nat) (hC : ∀ k, k <= n -> zdM k) (hA : ziK n) : zip (n + 1) := by
 intro l hl w bd nn hnn h
 have hfar := h.lt
 cases l with
 | nil =>
   have HD := zh h
   obtain ⟨o, c, h1, -⟩ := h
   obtain ⟨⟨c0, c1, c2⟩, f0, f1, f2⟩ := zav h1
   simp only [List.length_nil] at c0
   clear h1
   have hT : zaz (n + 1) [] = none := by rw [zaz]
   rw [hT]
   go_enter Tryz.func73, Tryz.ntmps73
   go_wp2
   refine bodyPost_ret (v := .agg zck.toArray) (by simp [results, Tryz.results73, go_sem, zck]) rfl ?_
   exact ⟨_, _, _, _, _, _, _, _, _, _, _, _, _, rfl, grown_alloc (grown_set _ _ _ _) _, [], nn, true, (HD.out.setBad true).alloc _, ⟨fun h => (by cases h), by omega, fun h => (by cases h)⟩, fun _ => rfl, fun _ _ h => by cases h⟩
 | cons x t =>
 have HW := zh (h.ok x (by simp))
 have HSEL := zh (fun W (hr : Rdd W bd (x :: t) nn false) => dsel_any hM bd (x :: t) nn (by simp only [List.length_cons] at hnn; omega) W hr)
 simp only [List.length_cons] at hl hnn
 have HL := zh (And.intro hl hnn)
 have HCC := zh hC
 have HAA := zh hA
 obtain ⟨b, off, k, c, hk, hkc, hkm, hb, hbl, hrow, d0, ⟨dz, d1⟩, d2, -, -⟩ := h.head
 obtain ⟨⟨c0, c1, c2⟩, f0, f1, f2⟩ := zav hrow
 obtain ⟨tx, htx⟩ : ∃ tx : ByteArray, tx = ⟨x.2.toArray⟩ := ⟨_, rfl⟩
 rw [<- htx] at d2
 have HTX := zh (show tx = bz x.2 from htx)
 obtain ⟨kd, hkd⟩ : ∃ kd, x.1 = kd := ⟨_, rfl⟩
 rw [hkd] at d0
 have HKD := zh hkd
 have HST := zh (TokS.start h kd dz tx)
 have i0 : (0 : Int) < k := by omega
 have i1 : (1 : Int) <= k := by omega
 have hkn : (k : Int) <= 1000000 := by omega
 have i0n : 0 < k := by omega
 obtain ⟨T, hT⟩ : ∃ T, zaz (n + 1) (x :: t) = T := ⟨_, rfl⟩
 rw [hT]
 have HT := zh hT
 clear h hl hnn hC hA hrow htx hkd hk hkm hM hT
 go_enter Tryz.func73, Tryz.ntmps73
 go_upto_region 4 with fail
 go_cut [3] from 6 (fun u3 wx => u3 = .pointer (some ⟨w.heap.size + 1, 0, none⟩) /\ Hid (TokS w wx bd nn (x :: t) false kd dz tx))
 case first =>
  go_wp2
  go_meet
  case rel => exact ⟨rfl, HST.out⟩
 case rest =>
 obtain ⟨rfl, HT1⟩ := hcut
 clear HST c0 c1 c2 f0 f1 f2 d0 d1 d2 hb hbl hkc i0 i1 hkn i0n
 obtain ⟨⟨t0, t1, t2⟩, -⟩ := zav HT1.out.tok
 by_cases hn2 : kd = 2
 ·subst hn2
  have h40 : isT 5 [40] (x :: t) = false := by simp [isT, HKD.out]
  have hT : some (Ex.num (valL x.2), t) = T := by rw [<- HT.out, zaz, if_neg (by rw [h40]; simp), if_pos HKD.out]
  have HDV := zh (fun W => zd3 (x :: t) HT1.out.pre.rd.ok 2 (.inl rfl) false W)
  rw [zhs HKD.out, <- HTX.out] at HDV
  obtain ⟨z, hz⟩ : ∃ z, valL x.2 = z := ⟨_, rfl⟩
  rw [hz] at HDV hT
  have HTT := zh hT
  obtain ⟨b2, off2, k2, c2, hk, hkc, hkm, hb, hbl, hrow, -, -, -, HD, HD0⟩ := HT1.out.pre.rd.head
  obtain ⟨⟨c0, c1, c2⟩, f0, f1, f2⟩ := zav hrow
  have HD := zh HD
  have HD0 := zh HD0
  have i0 : (0 : Int) < k2 := by omega
  have i1 : (1 : Int) <= k2 := by omega
  have hkn : (k2 : Int) <= 1000000 := by omega
  clear hrow hz hT h40
  go_upto_region 6 with fail
  go_cut [] from 6 (fun wx => Hid (TokS w wx bd nn t false 2 dz tx))
  case first =>
   go_wp2
   ·go_meet
    case rel => exact HT1.out.toks (HD0.out _ _ _ (by omega) (by omega))
   ·go_meet
    case rel => exact HT1.out.toks (HD.out _ _ _ rfl (by omega) (by omega))
  case rest =>
  have HT2 := zh (Hid.out hcut)
  clear hcut c0 c1 c2 f0 f1 f2 HD HD0 hk hkc hkm hb hbl i0 i1 hkn t0 t1 t2
  obtain ⟨⟨t0, t1, t2⟩, -⟩ := zav HT2.out.tok
  have HND := zh (zcR bd t nn false wc HT2.out.pre.rd (by have := HL.out.2; omega) ⟨#[110, 117, 109]⟩ ⟨#[]⟩ (z : Nat) 0 none 0 0 none 0 0 none 0 0)
  go_wp2_with fail
  refine (HDV.out _).mono ?_
  rintro e w1 ⟨rfl, rfl⟩
  go_wp2_with fail
  refine HND.out.mono ?_
  rintro e w4 ⟨rfl, hr4, hg4⟩
  have HR4 := zh hr4
  have HG4 := zh hg4
  have HB4 := zh (show Box7 w4 w.heap.size (.string ⟨#[]⟩) (.string ⟨#[]⟩) (.int .i64 0) (.int .i64 0) (.slice none 0 0) (.slice none 0 0) (.slice none 0 0) from zaa HT2.out.pre.box hg4 (by omega))
  clear hr4 hg4
  obtain ⟨⟨q0, q1, q2, q3, q4, q5, q6⟩, f0, f1, f2, f3, f4, f5, f6⟩ := HB4.out.reads
  go_wp2
  refine bodyPost_ret (v := .agg #[.string ⟨#[110, 117, 109]⟩, .string ⟨#[]⟩, .int .i64 (z : Nat), .int .i64 0, .slice none 0 0, .slice none 0 0, .slice none 0 0]) (by simp [results, Tryz.results73, go_sem, q0, q1, q2, q3, q4, q5, q6]) rfl ?_
  rw [<- HTT.out]
  refine zaR hfar HT2.out.pre.grow HT2.out.pre.big HG4.out HR4.out ⟨fun _ => by simp only [List.length_cons]; omega, by simp only [List.length_cons]; omega⟩ _ _ _ _ _ _ _ _ _ _ _ _ _ (fun hr => by cases hr) (fun x y hr => ?_) _ _ _ _ _ _ _
  injection hr with hr; injection hr with e1 e2; subst e1; subst e2
  exact ⟨rfl, rfl, rfl, .mk (.num z) _ _ none none none 0 0 0 0 0 0 [] rfl rfl ⟨rfl, Nat.le_refl _⟩ rfl rfl rfl (.inl rfl) (.inl rfl) (.inl rfl) (fun j cs y h => by simp at h)⟩
 have j2 : ((kd : Int) == 2) = false := by simp; omega
 have j2' : ¬ (kd : Int) = 2 := by omega
 have HIS := zh (zby bd (x :: t) nn false 5 ⟨#[40]⟩ wc HT1.out.pre.rd)
 rw [show (⟨#[40]⟩ : ByteArray).data.toList = [40] from rfl, Bool.not_false, Bool.true_and] at HIS
 cases h40 : isT 5 [40] (x :: t) with
 | true =>
   rw [h40] at HIS
   obtain ⟨m, rfl⟩ : ∃ m, n = m + 1 := ⟨n - 1, by have := HL.out.1; omega⟩
   have hT : zgz (chainGo m 1 t) = T := by
    rw [<- HT.out, zaz, if_pos h40, zan]
    cases chainGo m 1 t with
    | none => rfl
    | some p => rfl
   have HSG := zh (zdh bd (x :: t) nn ⟨#[40]⟩ h40 wc HT1.out.pre.rd)
   rw [List.tail_cons] at HSG
   have HCH := zh (HCC.out m (by omega) 1 t false (by omega) (by omega) (by have := HL.out.1; omega))
   rw [zcG] at HCH
   generalize chainGo m 1 t = r0 at HCH hT
   have HTT := zh hT
   clear hT h40
   go_wp2_with fail
   refine HIS.out.mono ?_
   rintro e w1 ⟨rfl, rfl⟩
   go_wp2_with fail
   refine HSG.out.mono ?_
   rintro e w1 ⟨rfl, hr1, hg1⟩
   have HS2 := zh (HT1.out.pre.call hr1 hg1)
   have HCW := zh (HCH.out w1 bd nn 0 rfl (by have := HL.out.2; omega) HS2.out.rd)
   have hbig2 := HS2.out.big
   clear hr1 hg1 t0 t1 t2
   go_wp2_with fail
   refine HCW.out.mono ?_
   rintro e w3 ⟨a, b, z, m, o1, k1, c1, o2, k2, c2, o3, k3, c3, rfl, hg, l', nn', b', hR, hle, hN, hS⟩
   have HS3 := zh (HS2.out.call hR hg)
   have HE := zh (And.intro hle (And.intro hN hS))
   have HSB := zh (HS3.out.alloc (Obj.cells #[.string a, .string b, .int .i64 z, .int .i64 m, .slice o1 k1 c1, .slice o2 k2 c2, .slice o3 k3 c3] 27))
   have HSH := zh (sign_any bd l' nn' b' ⟨#[41]⟩ _ HSB.out.rd)
   have HBN := zh (zal w3 (.string a) (.string b) (.int .i64 z) (.int .i64 m) (.slice o1 k1 c1) (.slice o2 k2 c2) (.slice o3 k3 c3))
   have hbig3 := HS3.out.big
   clear hg hR hle hN hS
   go_wp2_with fail
   refine HSH.out.mono ?_
   rintro e w5 ⟨rfl, hr5, hg5⟩
   have HS5 := zh (HSB.out.call hr5 hg5)
   have HB5 := zh (show Box7 w5 w3.heap.size (.string a) (.string b) (.int .i64 z) (.int .i64 m) (.slice o1 k1 c1) (.slice o2 k2 c2) (.slice o3 k3 c3) from zaa HBN.out hg5 (by omega))
   have HG5 := zh (grown_trans (grown_alloc (grown_refl w3 (some bd)) (Obj.cells #[.string a, .string b, .int .i64 z, .int .i64 m, .slice o1 k1 c1, .slice o2 k2 c2, .slice o3 k3 c3] 27)) hg5)
   clear hr5 hg5
   obtain ⟨⟨q0, q1, q2, q3, q4, q5, q6⟩, f0, f1, f2, f3, f4, f5, f6⟩ := HS5.out.box.reads
   obtain ⟨⟨p0, p1, p2, p3, p4, p5, p6⟩, -⟩ := HB5.out.reads
   go_wp2
   refine bodyPost_ret (v := .agg #[.string a, .string b, .int .i64 z, .int .i64 m, .slice o1 k1 c1, .slice o2 k2 c2, .slice o3 k3 c3]) (by simp [results, Tryz.results73, go_sem, q0, q1, q2, q3, q4, q5, q6]) rfl ?_
   rw [<- HTT.out]
   obtain ⟨hle, hN, hS⟩ := HE.out
   have hrl := zdi [41] b' l'
   rcases zg0 hN (fun x y h => ⟨(hS x y h).1, (hS x y h).2.1⟩) with ⟨g1, g2⟩ | ⟨g1, g5, x0, g2, g3⟩
   ·rw [g2]
    refine zaR hfar HS3.out.grow HS3.out.big HG5.out HS5.out.rd ⟨fun hb => ?_, ?_⟩ _ _ _ _ _ _ _ _ _ _ _ _ _ (fun _ => g1) (fun x y hr => by cases hr) _ _ _ _ _ _ _
    ·rw [show badS [41] b' l' = true from g1] at hb; cases hb
    ·have := hle.2.1; simp only [List.length_cons]; omega
   ·rw [g3]
    obtain ⟨h1, h2, h3, h4⟩ := hS x0 l' g2
    have := hle.1 g5
    refine zaR hfar HS3.out.grow HS3.out.big HG5.out HS5.out.rd ⟨fun _ => ?_, ?_⟩ _ _ _ _ _ _ _ _ _ _ _ _ _ (fun hr => by cases hr) (fun x y hr => ?_) _ _ _ _ _ _ _
    ·simp only [List.length_cons]; omega
    ·have := hle.2.1; simp only [List.length_cons]; omega
    ·injection hr with hr; injection hr with e1 e2; subst e1; subst e2
     exact ⟨g1, rfl, h3, h4.keep fun k hk _ => ⟨rfl, Nat.lt_of_lt_of_le hbig2 hk⟩⟩
 | false =>
 rw [h40] at HIS
 by_cases hag : kd = 1 /\ aggB x.2 = true
 ·obtain ⟨rfl, hag⟩ := hag
  obtain ⟨m, rfl⟩ : ∃ m, n = m := ⟨n, rfl⟩
  have hTT : zaz (n + 1) (x :: t) = zbj n x.2 t := by
   rw [zaz, if_neg (by rw [h40]; simp), if_neg (by rw [HKD.out]; decide), if_pos HKD.out, if_pos hag]
  have hT := hTT.symm.trans HT.out
  have HAG := zh (HAA.out x t HKD.out hag (by have := HL.out.1; omega) wc bd nn (by have := HL.out.2; omega) HT1.out.pre.rd)
  have HAW := zh (fun W => zem tx W)
  rw [HTX.out, show (bz x.2).data.toList = x.2 from rfl, hag] at HAW
  rw [<- HTX.out] at HAW
  rw [hT] at HAG
  clear hTT hT h40 hag j2 j2'
  go_wp2_with fail
  refine HIS.out.mono ?_
  rintro e w1 ⟨rfl, rfl⟩
  go_wp2_with fail
  refine (HAW.out _).mono ?_
  rintro e w1 ⟨rfl, rfl⟩
  go_wp2_with fail
  refine HAG.out.mono ?_
  rintro e w2 ⟨a, b, z, m, o1, k1, c1, o2, k2, c2, o3, k3, c3, rfl, hg, l', nn', b', hR, hle, hN, hS⟩
  have HSC := zh (HT1.out.pre.call hR hg)
  have HBG := zh HT1.out.pre.big
  have HE := zh (And.intro hle (And.intro hN hS))
  clear hg hR hle hN hS
  obtain ⟨⟨q0, q1, q2, q3, q4, q5, q6⟩, f0, f1, f2, f3, f4, f5, f6⟩ := HSC.out.box.reads
  go_wp2
  refine bodyPost_ret (v := .agg #[.string a, .string b, .int .i64 z, .int .i64 m, .slice o1 k1 c1, .slice o2 k2 c2, .slice o3 k3 c3]) (by simp [results, Tryz.results73, go_sem, q0, q1, q2, q3, q4, q5, q6]) rfl ?_
  obtain ⟨hle, hN, hS⟩ := HE.out
  refine zaR hfar HSC.out.grow HSC.out.big (grown_refl _ _) HSC.out.rd ⟨hle.1, hle.2.1⟩ _ _ _ _ _ _ _ _ _ _ _ _ _ hN (fun x y hr => ?_) _ _ _ _ _ _ _
  obtain ⟨g1, g2, g3, g4⟩ := hS x y hr
  exact ⟨g1, g2, g3, g4.keep fun k hk _ => ⟨rfl, Nat.lt_of_lt_of_le HBG.out hk⟩⟩
 by_cases hfn : kd = 1 /\ fnS x.2 = true
 ·obtain ⟨rfl, hfn⟩ := hfn
  obtain ⟨m, rfl⟩ : ∃ m, n = m + 2 := ⟨n - 2, by have := HL.out.1; omega⟩
  have hag' : aggB x.2 = false := by cases h : aggB x.2 with | false => rfl | true => exact absurd ⟨rfl, h⟩ hag
  obtain ⟨l3, hl3⟩ : ∃ l3, resS [40] false t = l3 := ⟨_, rfl⟩
  obtain ⟨b3, hb3⟩ : ∃ b3, badS [40] false t = b3 := ⟨_, rfl⟩
  have hlen : b3 = false -> l3.length + 1 = t.length /\ isT 5 [40] t = true := fun hb => by
   have e : badS [40] false t = false := hb3.trans hb
   have e2 : isT 5 [40] t = true := by have e3 : (false || !isT 5 [40] t) = false := e; simpa using e3
   rw [<- hl3]; unfold resS; rw [e, if_neg (by simp)]
   exact ⟨zaw e2, e2⟩
  have hT : (zgz (orB b3 (chainGo m 1 l3))).map (fun p => (Ex.fn (bz x.2) p.1, p.2)) = T := by
   rw [<- HT.out, zaz, if_neg (by rw [h40]; simp), if_neg (by rw [HKD.out]; decide), if_pos HKD.out, if_neg (by rw [hag']; simp), if_pos hfn, fnGo]
   cases hb : b3 with
   | true =>
     have e3 : (false || !isT 5 [40] t) = true := hb3.trans hb
     rw [if_neg (by simpa using e3)]; rfl
   | false =>
     obtain ⟨e1, e2⟩ := hlen hb
     have e4 : t.tail = l3 := by
      rw [<- hl3]; unfold resS; rw [hb3.trans hb, if_neg (by simp)]
     rw [if_pos e2, e4, zan, zcG]
     cases chainGo m 1 l3 with
     | none => rfl
     | some p =>
       obtain ⟨y, q⟩ := p
       cases h41 : isT 5 [41] q <;> simp [zgz, h41]
  have HAW := zh (fun W => zem tx W)
  have HFW := zh (fun W => zgK tx W)
  rw [show tx.data.toList = x.2 by rw [HTX.out]; rfl, hag'] at HAW
  rw [show tx.data.toList = x.2 by rw [HTX.out]; rfl, hfn] at HFW
  obtain ⟨RC, hRC⟩ : ∃ RC, orB b3 (chainGo m 1 l3) = RC := ⟨_, rfl⟩
  have HCH : Hid (∀ W, Rdd W bd l3 nn b3 -> Calls Tryz.prog 22 #[.pointer (some ⟨bd, 0, none⟩), .int .i64 0] W (DEnd W bd nn l3 b3 RC)) := fun W hr => by
   rw [<- hRC]
   cases hb : b3 with
   | true =>
     rw [hb] at hr
     exact (zdj bd l3 nn W hr).mono fun e w' hz => zeG hz
   | false =>
     rw [hb] at hr
     have h3 := (hlen hb).1
     obtain ⟨hl, hnn⟩ := HL.out
     exact HCC.out m (by omega) 1 l3 false (by omega) (by omega) (by omega) W bd nn 0 rfl (by omega) hr
  rw [hRC, <- HTX.out] at hT
  have HTT := zh hT
  have HLL := zh hlen
  have HRN := zh (show b3 = true -> RC = none from fun hb => by rw [<- hRC, hb]; rfl)
  obtain ⟨b2, off2, k2, c2, hk, hkc, hkm, hb, hbl, hrow, -, -, -, HD, HD0⟩ := HT1.out.pre.rd.head
  obtain ⟨⟨c0, c1, c2⟩, f0, f1, f2⟩ := zav hrow
  have HD := zh HD
  have HD0 := zh HD0
  have i0 : (0 : Int) < k2 := by omega
  have i1 : (1 : Int) <= k2 := by omega
  have hkn : (k2 : Int) <= 1000000 := by omega
  have HLB := zh (And.intro hl3 hb3)
  clear hrow hT h40 hfn hag hag' hlen hRC hl3 hb3
  go_wp2_with fail
  refine HIS.out.mono ?_
  rintro e w1 ⟨rfl, rfl⟩
  go_wp2_with fail
  refine (HAW.out _).mono ?_
  rintro e w1 ⟨rfl, rfl⟩
  go_wp2_with fail
  refine (HFW.out _).mono ?_
  rintro e w1 ⟨rfl, rfl⟩
  go_upto_region 16 with fail
  go_cut [] from 6 (fun wx => Hid (TokS w wx bd nn t false 1 dz tx))
  case first =>
   go_wp2
   ·go_meet
    case rel => exact HT1.out.toks (HD0.out _ _ _ (by omega) (by omega))
   ·go_meet
    case rel => exact HT1.out.toks (HD.out _ _ _ rfl (by omega) (by omega))
  case rest =>
  have HT2 := zh (Hid.out hcut)
  clear hcut c0 c1 c2 f0 f1 f2 HD HD0 hk hkc hkm hb hbl i0 i1 hkn t0 t1 t2
  have HSG := zh (sign_any bd t nn false ⟨#[40]⟩ wc HT2.out.pre.rd)
  rw [show (⟨#[40]⟩ : ByteArray).data.toList = [40] from rfl, HLB.out.1, HLB.out.2] at HSG
  go_wp2_with fail
  refine HSG.out.mono ?_
  rintro e w2 ⟨rfl, hr2, hg2⟩
  have HT3 := zh (HT2.out.call hr2 hg2)
  clear hr2 hg2
  go_upto_region 18 with fail
  go_cut [5] from 6 (fun u5 wx => ∃ (fb kb : Nat) (cs : List Value) (l' : List Tq) (nn' : Nat) (b' : Bool), u5 = .pointer (some ⟨fb, 0, none⟩) /\ Hid (NodS w wx bd nn' l' b' fb (.string ⟨#[102, 110]⟩) (.string tx) (.int .i64 0) (.int .i64 0) (.slice none 0 0) (.slice none 0 0) (.slice (some ⟨kb, 0, none⟩) 1 1)) /\
   Hid (((b' = false -> nn' + l'.length <= nn + l3.length) /\ nn' <= nn + l3.length + 1 /\ (b3 = true -> nn' <= nn)) /\ (RC = none -> b' = true) /\ ∀ x y, RC = some (x, y) -> b' = false /\ l' = y /\ nn' = nn + countE x /\ za2 wx (fun b => w.heap.size < b) (some ⟨kb, 0, none⟩) 7 [cs] /\ Nod wx (fun b => w.heap.size < b) cs x))
  case first =>
   obtain ⟨⟨t0, t1, t2⟩, -⟩ := zav HT3.out.tok
   have HCA := zh (HCH.out w2.drew (HT3.out.pre.rd.below (Below.refl _ _).drew))
   have hlt := HT3.out.lt
   have HTF := zh (fun W3 (hg : w2.drew.grownBy W3 (some bd)) => (zav (zaa (show w2.drew.heap[w.heap.size + 1]? = _ from HT3.out.tok) hg (by omega))).1.2.2)
   have HPA := zh (HT3.out.pre.drew)
   have HNB := zh (NodS.new HT3.out.pre (.string ⟨#[]⟩) (.string ⟨#[]⟩) (.int .i64 0) (.int .i64 0) (.slice none 0 0) (.slice none 0 0) (.slice none 0 0)).drew
   have HCB := zh (HCH.out (w2.alloc (Obj.cells #[.string ⟨#[]⟩, .string ⟨#[]⟩, .int .i64 0, .int .i64 0, .slice none 0 0, .slice none 0 0, .slice none 0 0] 27)).drew HNB.out.pre.rd)
   have t3 : (w2.alloc (Obj.cells #[.string ⟨#[]⟩, .string ⟨#[]⟩, .int .i64 0, .int .i64 0, .slice none 0 0, .slice none 0 0, .slice none 0 0] 27)).cell? ⟨w.heap.size + 1, 2, none⟩ = some (.string tx) := (World.cell?_of_block (a := ⟨w.heap.size + 1, 2, none⟩) (Below.heap_alloc w2 _ (w.heap.size + 1) hlt)).trans t2
   have HTG := zh (fun W3 (hg : (w2.alloc (Obj.cells #[.string ⟨#[]⟩, .string ⟨#[]⟩, .int .i64 0, .int .i64 0, .slice none 0 0, .slice none 0 0, .slice none 0 0] 27)).drew.grownBy W3 (some bd)) => (zav (zaa (show (w2.alloc (Obj.cells #[.string ⟨#[]⟩, .string ⟨#[]⟩, .int .i64 0, .int .i64 0, .slice none 0 0, .slice none 0 0, .slice none 0 0] 27)).drew.heap[w.heap.size + 1]? = _ from (Below.heap_alloc w2 _ (w.heap.size + 1) hlt).trans HT3.out.tok) hg (by omega))).1.2.2)
   have hbd2 : w.heap.size < w2.heap.size := HT3.out.pre.big
   have t2d : w2.drew.cell? ⟨w.heap.size + 1, 2, none⟩ = some (.string tx) := t2
   have t3d : (w2.alloc (Obj.cells #[.string ⟨#[]⟩, .string ⟨#[]⟩, .int .i64 0, .int .i64 0, .slice none 0 0, .slice none 0 0, .slice none 0 0] 27)).drew.cell? ⟨w.heap.size + 1, 2, none⟩ = some (.string tx) := t3
   go_region_held3 (fun W => W.cell? ⟨w.heap.size + 1, 2, none⟩ = some (.string tx)) (first | with_reducible exact t2 | with_reducible exact t3 | with_reducible exact t2d | with_reducible exact t3d | with_reducible exact r2 | with_reducible exact r3 _ | with_reducible exact r4 _ _ | with_reducible exact r5 _ _ _ _ _ _ _ _) (first
    | (go_at_call 22; go_fit HCA.out; rintro e w3 ⟨a, b, z, m, o1, k1, c1, o2, k2, c2, o3, k3, c3, rfl, hg, l', nn', b', hR, hle, hN, hS⟩; have r2 := HTF.out _ hg; have r3 := fun o => (World.cell?_of_block (a := ⟨w.heap.size + 1, 2, none⟩) (Below.heap_alloc w3 o (w.heap.size + 1) (zd5 r2))).trans r2; have r4 := fun o o2 => (World.cell?_of_block (a := ⟨w.heap.size + 1, 2, none⟩) (Below.heap_alloc (w3.alloc o) o2 (w.heap.size + 1) (zd5 (r3 o)))).trans (r3 o); have r5 := fun (_v0 _v1 _v2 _v3 _v4 _v5 _v6 : Value) (_o : Obj) => r2; have hp3 := HPA.out.call hR hg; have hnd := fun x y (h : RC = some (x, y)) => (hS x y h).2.2.2.keep (w' := w3) (Q := fun k => w.heap.size < k) fun k hk _ => ⟨rfl, Nat.lt_of_lt_of_le hbd2 hk⟩; have hn3 := trivial)
    | (go_at_call 22; go_fit HCB.out; rintro e w3 ⟨a, b, z, m, o1, k1, c1, o2, k2, c2, o3, k3, c3, rfl, hg, l', nn', b', hR, hle, hN, hS⟩; have r2 := HTG.out _ hg; have r3 := fun o => (World.cell?_of_block (a := ⟨w.heap.size + 1, 2, none⟩) (Below.heap_alloc w3 o (w.heap.size + 1) (zd5 r2))).trans r2; have r4 := fun o o2 => (World.cell?_of_block (a := ⟨w.heap.size + 1, 2, none⟩) (Below.heap_alloc (w3.alloc o) o2 (w.heap.size + 1) (zd5 (r3 o)))).trans (r3 o); have hn3 := HNB.out.call hR hg; have hlt3 := hn3.lt; obtain ⟨⟨q0, q1, q2, q3, q4, q5, q6⟩, f0, f1, f2, f3, f4, f5, f6⟩ := hn3.box.reads; have r5 := fun (v0 v1 v2 v3 v4 v5 v6 : Value) (o : Obj) => (show ((put7 w3 w2.heap.size v0 v1 v2 v3 v4 v5 v6).alloc o).cell? ⟨w.heap.size + 1, 2, none⟩ = some (.string tx) from (World.cell?_of_block (a := ⟨w.heap.size + 1, 2, none⟩) ((Below.heap_alloc _ o (w.heap.size + 1) (by rw [zcE]; exact zd5 r2)).trans (za1 w3 w2.heap.size v0 v1 v2 v3 v4 v5 v6 (w.heap.size + 1) (by omega)))).trans r2); have hp3 := hn3.pre; have hnd := fun x y (h : RC = some (x, y)) => (hS x y h).2.2.2.keep (w' := w3) (Q := fun k => w2.heap.size < k) fun k hk _ => ⟨rfl, by simp at hk; omega⟩))
   ·have HK := zh (fun x y (h : RC = some (x, y)) => zio (hnd x y h) (B := w.heap.size) (fun k hk => hk) hp3.big)
    have HN := zh (NodS.new (hp3.alloc (Obj.cells #[.string a, .string b, .int .i64 z, .int .i64 m, .slice o1 k1 c1, .slice o2 k2 c2, .slice o3 k3 c3] 27)) (.string ⟨#[102, 110]⟩) (.string tx) (.int .i64 0) (.int .i64 0) (.slice none 0 0) (.slice none 0 0) (.slice (some ⟨w3.heap.size, 0, none⟩) 1 1))
    rw [World.size_alloc] at HN
    have HE := zh (And.intro hle (And.intro hN hS))
    clear hg hR hle hN hS hnd hn3 hp3 r2 r3 r4 r5
    go_wp2
    go_meet
    case rel =>
     refine ⟨_, _, [.string a, .string b, .int .i64 z, .int .i64 m, .slice o1 k1 c1, .slice o2 k2 c2, .slice o3 k3 c3], l', nn', b', rfl, HN.out, HE.out.1, HE.out.2.1, fun x y hr => ?_⟩
     obtain ⟨g1, g2, g3, -⟩ := HE.out.2.2 x y hr
     obtain ⟨v1, v2⟩ := HK.out x y hr
     exact ⟨g1, g2, g3, v1.keep fun k hk hl => ⟨Below.heap_alloc _ _ _ hl, hk⟩, v2.keep fun k hk hl => ⟨Below.heap_alloc _ _ _ hl, hk⟩⟩
   ·have HK := zh (fun x y (h : RC = some (x, y)) => zio (w2 := w3.alloc (Obj.cells #[.string ⟨#[102, 110]⟩, .string tx, .int .i64 0, .int .i64 0, .slice none 0 0, .slice none 0 0, .slice (some ⟨w3.heap.size + 1, 0, none⟩) 1 1] 27)) ((hnd x y h).keep (Q := fun k => w.heap.size < k) fun k hk hl => ⟨Below.heap_alloc _ _ _ hl, hk⟩) (B := w.heap.size) (fun k hk => hk) (by have := hp3.big; simp; omega))
    simp only [World.size_alloc] at HK
    have HN := zh ((NodS.new hp3 (.string ⟨#[102, 110]⟩) (.string tx) (.int .i64 0) (.int .i64 0) (.slice none 0 0) (.slice none 0 0) (.slice (some ⟨w3.heap.size + 1, 0, none⟩) 1 1)).alloc (Obj.cells #[.string a, .string b, .int .i64 z, .int .i64 m, .slice o1 k1 c1, .slice o2 k2 c2, .slice o3 k3 c3] 27))
    have HE := zh (And.intro hle (And.intro hN hS))
    clear hg hR hle hN hS hnd hn3 hp3 r2 r3 r4 r5
    go_wp2
    go_meet
    case rel =>
     refine ⟨_, _, [.string a, .string b, .int .i64 z, .int .i64 m, .slice o1 k1 c1, .slice o2 k2 c2, .slice o3 k3 c3], l', nn', b', rfl, HN.out, HE.out.1, HE.out.2.1, fun x y hr => ?_⟩
     obtain ⟨g1, g2, g3, -⟩ := HE.out.2.2 x y hr
     obtain ⟨v1, v2⟩ := HK.out x y hr
     exact ⟨g1, g2, g3, v1, v2⟩
   ·have HN0 := zh (hn3.put7 (.string ⟨#[102, 110]⟩) (.string tx) (.int .i64 0) (.int .i64 0) (.slice none 0 0) (.slice none 0 0) (.slice (some ⟨w3.heap.size, 0, none⟩) 1 1))
    have HN := zh (HN0.out.alloc (Obj.cells #[.string a, .string b, .int .i64 z, .int .i64 m, .slice o1 k1 c1, .slice o2 k2 c2, .slice o3 k3 c3] 27))
    have HK := zh (fun x y (h : RC = some (x, y)) => zio (w2 := put7 w3 w2.heap.size (.string ⟨#[102, 110]⟩) (.string tx) (.int .i64 0) (.int .i64 0) (.slice none 0 0) (.slice none 0 0) (.slice (some ⟨w3.heap.size, 0, none⟩) 1 1)) (zba (Q := fun k => w.heap.size < k) (hnd x y h) (fun k hk => ⟨by omega, by omega⟩) _ _ _ _ _ _ _) (B := w.heap.size) (fun k hk => hk) (by have := hp3.big; rw [zcE]; omega))
    simp only [zcE] at HK
    have HE := zh (And.intro hle (And.intro hN hS))
    clear hg hR hle hN hS hnd hn3 hp3 r2 r3 r4 r5 q0 q1 q2 q3 q4 q5 q6 f0 f1 f2 f3 f4 f5 f6
    go_wp2
    go_meet
    case rel =>
     refine ⟨_, _, [.string a, .string b, .int .i64 z, .int .i64 m, .slice o1 k1 c1, .slice o2 k2 c2, .slice o3 k3 c3], l', nn', b', rfl, HN.out, HE.out.1, HE.out.2.1, fun x y hr => ?_⟩
     obtain ⟨g1, g2, g3, -⟩ := HE.out.2.2 x y hr
     obtain ⟨v1, v2⟩ := HK.out x y hr
     exact ⟨g1, g2, g3, v1, v2⟩
  case rest =>
  obtain ⟨fb, kb, cs, l', nn', b', rfl, HN11, HE⟩ := hcut
  have HSH := zh (sign_any bd l' nn' b' ⟨#[41]⟩ wc HN11.out.pre.rd)
  rw [show (⟨#[41]⟩ : ByteArray).data.toList = [41] from rfl] at HSH
  go_wp2_with fail
  refine HSH.out.mono ?_
  rintro e w5 ⟨rfl, hr5, hg5⟩
  have HN12 := zh (HN11.out.call hr5 hg5)
  have HE2 := zh (fun x y (h : RC = some (x, y)) => (show za2 w5 (fun b => w.heap.size < b) (some ⟨kb, 0, none⟩) 7 [cs] /\ Nod w5 (fun b => w.heap.size < b) cs x from ⟨(HE.out.2.2 x y h).2.2.2.1.keep fun k hk hkl => ⟨hg5.block k hkl (by simp; omega), hk⟩, (HE.out.2.2 x y h).2.2.2.2.keep fun k hk hkl => ⟨hg5.block k hkl (by simp; omega), hk⟩⟩))
  have hbd : nn' <= nn + t.length + 1 := by
   cases hb : b3 with
   | true => have := HE.out.1.2.2 hb; omega
   | false => have := HE.out.1.2.1; have := (HLL.out hb).1; omega
  have HBD := zh hbd
  have HND := zh (zcR bd (resS [41] b' l') nn' (badS [41] b' l') w5 HN12.out.pre.rd (by have := HL.out.2; omega) ⟨#[102, 110]⟩ tx 0 0 none 0 0 none 0 0 (some ⟨kb, 0, none⟩) 1 1)
  obtain ⟨⟨q0, q1, q2, q3, q4, q5, q6⟩, f0, f1, f2, f3, f4, f5, f6⟩ := HN12.out.box.reads
  clear hr5 hg5 hbd
  go_wp2_with fail
  refine HND.out.mono ?_
  rintro e w6 ⟨rfl, hr6, hg6⟩
  have HR6 := zh hr6
  have HG6 := zh hg6
  have HB6 := zh (show Box7 w6 w.heap.size (.string ⟨#[]⟩) (.string ⟨#[]⟩) (.int .i64 0) (.int .i64 0) (.slice none 0 0) (.slice none 0 0) (.slice none 0 0) from zaa HN12.out.pre.box hg6 (by omega))
  clear hr6 hg6 q0 q1 q2 q3 q4 q5 q6 f0 f1 f2 f3 f4 f5 f6
  obtain ⟨⟨q0, q1, q2, q3, q4, q5, q6⟩, f0, f1, f2, f3, f4, f5, f6⟩ := HB6.out.reads
  go_wp2
  refine bodyPost_ret (v := .agg #[.string ⟨#[102, 110]⟩, .string tx, .int .i64 0, .int .i64 0, .slice none 0 0, .slice none 0 0, .slice (some ⟨kb, 0, none⟩) 1 1]) (by simp [results, Tryz.results73, go_sem, q0, q1, q2, q3, q4, q5, q6]) rfl ?_
  rw [<- HTT.out]
  rcases zg0 HE.out.2.1 (fun x y h => ⟨(HE.out.2.2 x y h).1, (HE.out.2.2 x y h).2.1⟩) with ⟨g1, g2⟩ | ⟨g1, g5, x0, g2, g3⟩
  ·rw [g2]
   refine zaR hfar HN12.out.pre.grow HN12.out.pre.big HG6.out HR6.out ⟨fun hb => ?_, ?_⟩ _ _ _ _ _ _ _ _ _ _ _ _ _ (fun _ => g1) (fun x y hr => by cases hr) _ _ _ _ _ _ _
   ·rw [show badS [41] b' l' = true from g1] at hb; cases hb
   ·have := HBD.out; simp only [List.length_cons]; omega
  ·rw [g3]
   obtain ⟨h1, h2, h3, -⟩ := HE.out.2.2 x0 l' g2
   obtain ⟨v1, v2⟩ := HE2.out x0 l' g2
   have hb3f : b3 = false := by
    cases hb : b3 with
    | false => rfl
    | true => rw [HRN.out hb] at g2; cases g2
   have hlen := (HLL.out hb3f).1
   have hle := HE.out.1.1 g5
   have hres := zdi [41] b' l'
   refine zaR hfar HN12.out.pre.grow HN12.out.pre.big HG6.out HR6.out ⟨fun _ => ?_, ?_⟩ _ _ _ _ _ _ _ _ _ _ _ _ _ (fun hr => by cases hr) (fun x y hr => ?_) _ _ _ _ _ _ _
   ·simp only [List.length_cons]; omega
   ·have := HBD.out; simp only [List.length_cons]; omega
   ·injection hr with hr; injection hr with e1 e2; subst e1; subst e2
    refine ⟨g1, rfl, by simp only [countE]; omega, ?_⟩
    exact ziJ (fun q => .fn tx q) (x := x0) (nn := 0) (mm := 0) (kn := 0) (cn := 0) ⟨rfl, rfl, rfl, rfl, rfl, rfl, rfl⟩ ⟨rfl, Nat.le_refl _⟩ (.inl rfl) v1 v2
 have hTT := sel_is (t := t) HW.out n h40 (by rw [HKD.out]; exact hn2) (by rw [HKD.out]; exact hag) (by rw [HKD.out]; exact hfn)
 have hcnt : ∀ y m, selD (x :: t) = some (y, m) -> countE y + m.length <= (x :: t).length := fun y m hy => (zhp (n + 1)).2.2.2.2.1 _ _ _ (hTT.trans hy)
 have hT := hTT.symm.trans HT.out
 have HSL := zh ((HSEL.out wc HT1.out.pre.rd).mono fun e w' hd => dend_of hd hcnt)
 rw [hT] at HSL
 clear hTT hT hcnt h40
 by_cases hk1 : kd = 1
 ·subst hk1
  have ha' : aggB x.2 = false := by cases h : aggB x.2 with | false => rfl | true => exact absurd ⟨rfl, h⟩ hag
  have hf' : fnS x.2 = false := by cases h : fnS x.2 with | false => rfl | true => exact absurd ⟨rfl, h⟩ hfn
  have HAW := zh (fun W => zem tx W)
  have HFW := zh (fun W => zgK tx W)
  rw [show tx.data.toList = x.2 by rw [HTX.out]; rfl, ha'] at HAW
  rw [show tx.data.toList = x.2 by rw [HTX.out]; rfl, hf'] at HFW
  clear ha' hf' hag hfn
  go_wp2_with fail
  refine HIS.out.mono ?_
  rintro e w1 ⟨rfl, rfl⟩
  go_wp2_with fail
  refine (HAW.out _).mono ?_
  rintro e w1 ⟨rfl, rfl⟩
  go_wp2_with fail
  refine (HFW.out _).mono ?_
  rintro e w1 ⟨rfl, rfl⟩
  go_wp2_with fail
  refine HSL.out.mono ?_
  rintro e w2 ⟨a, b, z, m, o1, k1, c1, o2, k2, c2, o3, k3, c3, rfl, hg, l', nn', b', hR, hle, hN, hS⟩
  have HSC := zh (HT1.out.pre.call hR hg)
  have HBG := zh HT1.out.pre.big
  have HE := zh (And.intro hle (And.intro hN hS))
  clear hg hR hle hN hS
  obtain ⟨⟨q0, q1, q2, q3, q4, q5, q6⟩, f0, f1, f2, f3, f4, f5, f6⟩ := HSC.out.box.reads
  go_wp2
  refine bodyPost_ret (v := .agg #[.string a, .string b, .int .i64 z, .int .i64 m, .slice o1 k1 c1, .slice o2 k2 c2, .slice o3 k3 c3]) (by simp [results, Tryz.results73, go_sem, q0, q1, q2, q3, q4, q5, q6]) rfl ?_
  obtain ⟨hle, hN, hS⟩ := HE.out
  refine zaR hfar HSC.out.grow HSC.out.big (grown_refl _ _) HSC.out.rd ⟨hle.1, hle.2.1⟩ _ _ _ _ _ _ _ _ _ _ _ _ _ hN (fun x y hr => ?_) _ _ _ _ _ _ _
  obtain ⟨g1, g2, g3, g4⟩ := hS x y hr
  exact ⟨g1, g2, g3, g4.keep fun k hk _ => ⟨rfl, Nat.lt_of_lt_of_le HBG.out hk⟩⟩
 ·have j1 : ((kd : Int) == 1) = false := by simp; omega
  have j1' : ¬ (kd : Int) = 1 := by omega
  clear hag hfn
  go_wp2_with fail
  refine HIS.out.mono ?_
  rintro e w1 ⟨rfl, rfl⟩
  go_wp2_with fail
  refine HSL.out.mono ?_
  rintro e w2 ⟨a, b, z, m, o1, k1, c1, o2, k2, c2, o3, k3, c3, rfl, hg, l', nn', b', hR, hle, hN, hS⟩
  have HSC := zh (HT1.out.pre.call hR hg)
  have HBG := zh HT1.out.pre.big
  have HE := zh (And.intro hle (And.intro hN hS))
  clear hg hR hle hN hS
  obtain ⟨⟨q0, q1, q2, q3, q4, q5, q6⟩, f0, f1, f2, f3, f4, f5, f6⟩ := HSC.out.box.reads
  go_wp2
  refine bodyPost_ret (v := .agg #[.string a, .string b, .int .i64 z, .int .i64 m, .slice o1 k1 c1, .slice o2 k2 c2, .slice o3 k3 c3]) (by simp [results, Tryz.results73, go_sem, q0, q1, q2, q3, q4, q5, q6]) rfl ?_
  obtain ⟨hle, hN, hS⟩ := HE.out
  refine zaR hfar HSC.out.grow HSC.out.big (grown_refl _ _) HSC.out.rd ⟨hle.1, hle.2.1⟩ _ _ _ _ _ _ _ _ _ _ _ _ _ hN (fun x y hr => ?_) _ _ _ _ _ _ _
  obtain ⟨g1, g2, g3, g4⟩ := hS x y hr
  exact ⟨g1, g2, g3, g4.keep fun k hk _ => ⟨rfl, Nat.lt_of_lt_of_le HBG.out hk⟩⟩
end Go.Proofs.YtbcemjhaecelnaaGreatDoor.Drd
end
