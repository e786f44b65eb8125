import Derived.Test.YtbcemjhaecelnaaGreatDoorMg39
import Derived.Test.YtbcemjhaecelnaaGreatDoorMg43
import Derived.Deep.CutRange
import Derived.Deep.Cut
import Derived.Deep.DeepFit
section
set_option maxHeartbeats 16000000
set_option maxRecDepth 100000
namespace Go.Proofs.YtbcemjhaecelnaaGreatDoor.Drd
open Go.RowKit Go.Lib Par Sto
theorem zr {n : Nat} : n <= n := Nat.le_refl n
theorem dread_err (s : ByteArray) (k : Int) (hk : k ≠ 0) (w : World) (hW : Calls Tryz.prog 21 #[.string s] (w.alloc (Obj.cells #[.string ⟨#[]⟩, .string ⟨#[]⟩, .int .i64 0, .int .i64 0, .slice none 0 0, .slice none 0 0, .slice none 0 0, .int .i64 0, .int .i64 0, .int .i64 0] 29)) fun e w' => e = .returned (.tuple #[.slice none 0 0, .int .i64 k]) /\ Below (w.alloc (Obj.cells #[.string ⟨#[]⟩, .string ⟨#[]⟩, .int .i64 0, .int .i64 0, .slice none 0 0, .slice none 0 0, .slice none 0 0, .int .i64 0, .int .i64 0, .int .i64 0] 29)).heap.size (w.alloc (Obj.cells #[.string ⟨#[]⟩, .string ⟨#[]⟩, .int .i64 0, .int .i64 0, .slice none 0 0, .slice none 0 0, .slice none 0 0, .int .i64 0, .int .i64 0, .int .i64 0] 29)) w') :
 Calls Tryz.prog 8 #[.string s] w fun e w' => e = .returned (.tuple #[.agg #[.string ⟨#[]⟩, .string ⟨#[]⟩, .int .i64 0, .int .i64 0, .slice none 0 0, .slice none 0 0, .slice none 0 0, .int .i64 0, .int .i64 0, .int .i64 0], .int .i64 k]) /\ Below w.heap.size w w' := by
 have HW := zh hW
 have HB := zh (zaS w (.string ⟨#[]⟩) (.string ⟨#[]⟩) (.int .i64 0) (.int .i64 0) (.slice none 0 0) (.slice none 0 0) (.slice none 0 0) (.int .i64 0) (.int .i64 0) (.int .i64 0))
 have HG := zh (show Below w.heap.size w (w.alloc (Obj.cells #[.string ⟨#[]⟩, .string ⟨#[]⟩, .int .i64 0, .int .i64 0, .slice none 0 0, .slice none 0 0, .slice none 0 0, .int .i64 0, .int .i64 0, .int .i64 0] 29)) from (Below.refl _ _).alloc zr _)
 have hk2 : (k == 0) = false := by simp [hk]
 have hk3 : (k != 0) = true := by simp [hk]
 clear hW
 go_enter Tryz.func8, Tryz.ntmps8
 go_wp2_with fail
 refine HW.out.mono ?_
 rintro e w1 ⟨rfl, b1⟩
 have HB1 := zh ((b1.block w.heap.size (by simp)).trans HB.out)
 have HG1 := zh (HG.out.trans (b1.mono (by simp)))
 have hsz1 : w.heap.size < w1.heap.size := Nat.lt_of_lt_of_le (by simp) b1.size
 clear b1
 obtain ⟨⟨q0, q1, q2, q3, q4, q5, q6, q7, q8, q9⟩, f0, f1, f2, f3, f4, f5, f6, f7, f8, f9⟩ := (show zbb w1 w.heap.size _ _ _ _ _ _ _ _ _ _ from HB1.out).reads
 go_wp2
 refine bodyPost_ret (v := .tuple #[.agg #[.string ⟨#[]⟩, .string ⟨#[]⟩, .int .i64 0, .int .i64 0, .slice none 0 0, .slice none 0 0, .slice none 0 0, .int .i64 0, .int .i64 0, .int .i64 0], .int .i64 k]) (by simp [results, Tryz.results8, go_sem, q0, q1, q2, q3, q4, q5, q6, q7, q8, q9]) rfl ?_
 exact ⟨rfl, (((((((((((HG1.out.setCell zr _).setCell zr _).setCell zr _).setCell zr _).setCell zr _).setCell zr _).setCell zr _).setCell zr _).setCell zr _).setCell zr _))⟩
theorem dread_toks (hM : zhz) (s : ByteArray) (hz : ¬ 600 < s.size) (ws : List Wd) (hws : lexL s.data.toList = some ws) (w : World) :
 Calls Tryz.prog 8 #[.string s] w fun e w' => ReadEnd w s e w' /\ Below w.heap.size w w' := by
 have HB := zh (zaS w (.string ⟨#[]⟩) (.string ⟨#[]⟩) (.int .i64 0) (.int .i64 0) (.slice none 0 0) (.slice none 0 0) (.slice none 0 0) (.int .i64 0) (.int .i64 0) (.int .i64 0))
 have HG := zh (show Below w.heap.size w (w.alloc (Obj.cells #[.string ⟨#[]⟩, .string ⟨#[]⟩, .int .i64 0, .int .i64 0, .slice none 0 0, .slice none 0 0, .slice none 0 0, .int .i64 0, .int .i64 0, .int .i64 0] 29)) from (Below.refl _ _).alloc zr _)
 have htk := zdf (by rw [<- Lib.size_eq]; omega) hws
 rw [<- Lib.size_eq] at htk
 have hwd := lexL_wd hws
 have HW := zh ((zeM s (w.alloc (Obj.cells #[.string ⟨#[]⟩, .string ⟨#[]⟩, .int .i64 0, .int .i64 0, .slice none 0 0, .slice none 0 0, .slice none 0 0, .int .i64 0, .int .i64 0, .int .i64 0] 29)) (by omega)).mono (R' := fun e w' => (∃ v, e = .returned (.tuple #[v, .int .i64 0]) /\ w'.ownsRow (w.alloc (Obj.cells #[.string ⟨#[]⟩, .string ⟨#[]⟩, .int .i64 0, .int .i64 0, .slice none 0 0, .slice none 0 0, .slice none 0 0, .int .i64 0, .int .i64 0, .int .i64 0] 29)).heap.size 78 3 v ws.length (zcU ws)) /\ Below (w.alloc (Obj.cells #[.string ⟨#[]⟩, .string ⟨#[]⟩, .int .i64 0, .int .i64 0, .slice none 0 0, .slice none 0 0, .slice none 0 0, .int .i64 0, .int .i64 0, .int .i64 0] 29)).heap.size (w.alloc (Obj.cells #[.string ⟨#[]⟩, .string ⟨#[]⟩, .int .i64 0, .int .i64 0, .slice none 0 0, .slice none 0 0, .slice none 0 0, .int .i64 0, .int .i64 0, .int .i64 0] 29)) w') (fun e w' ⟨h1, h2⟩ => ⟨by
  unfold zaU at h1
  rw [if_neg (by rw [<- Lib.size_eq]; omega), hws] at h1
  exact h1, h2⟩))
 obtain ⟨r1, hr1⟩ : ∃ r1, chainGo (9 * (ws.map tq).length + 9) 1 (ws.map tq) = r1 := ⟨_, rfl⟩
 have HR1 := zh hr1
 have HRL := zh (show zbk s.data.toList = zf8 (ws.map tq) by unfold zbk; rw [hws])
 have HTK := zh (show ws.length <= 600 /\ ∀ x ∈ ws, TokW (tq x) from ⟨by omega, fun x hx => ⟨htk.2 x hx, hwd x hx⟩⟩)
 have HZ := zh hz
 have HMM := zh hM
 clear htk hwd hws hr1 hz hM
 go_enter Tryz.func8, Tryz.ntmps8
 go_wp2_with fail
 refine HW.out.mono ?_
 rintro e w1 ⟨⟨v, rfl, hown⟩, b1⟩
 have HB1 := zh ((b1.block w.heap.size (by simp)).trans HB.out)
 have HG1 := zh (HG.out.trans (b1.mono (by simp)))
 have hsz1 : w.heap.size < w1.heap.size := Nat.lt_of_lt_of_le (by simp) b1.size
 obtain ⟨ow, cw, rfl, hrd⟩ := rdd_start hown (by have := HTK.out.1; omega) HTK.out.2
 obtain ⟨nw, hnw⟩ : ∃ n, ws.length = n := ⟨_, rfl⟩
 rw [hnw] at hrd ⊢
 obtain ⟨l0, hl0⟩ : ∃ l0, ws.map tq = l0 := ⟨_, rfl⟩
 have hll : l0.length <= 600 := by rw [<- hl0, List.length_map]; exact HTK.out.1
 rw [hl0] at hrd HR1 HRL
 have HRD := zh (hrd.alloc (Obj.cells #[.string ⟨#[]⟩, .string ⟨#[]⟩, .int .i64 0, .int .i64 0, .slice none 0 0, .slice none 0 0, .slice none 0 0, .int .i64 0, .int .i64 (-1), .int .i64 (-1)] 29))
 have HCH := zh (dexpr_any HMM.out l0 _ w1.heap.size 0 (by omega) HRD.out)
 rw [HR1.out] at HCH
 have HRB := zh (show zbb ((w1.alloc (Obj.cells #[.slice ow nw cw, .int .i64 0, .bool false] 52)).alloc (Obj.cells #[.string ⟨#[]⟩, .string ⟨#[]⟩, .int .i64 0, .int .i64 0, .slice none 0 0, .slice none 0 0, .slice none 0 0, .int .i64 0, .int .i64 (-1), .int .i64 (-1)] 29)) w.heap.size (.string ⟨#[]⟩) (.string ⟨#[]⟩) (.int .i64 0) (.int .i64 0) (.slice none 0 0) (.slice none 0 0) (.slice none 0 0) (.int .i64 0) (.int .i64 0) (.int .i64 0) from (Below.heap_alloc _ _ _ (by simp; omega)).trans ((Below.heap_alloc _ _ _ hsz1).trans HB1.out))
 have HQB := zh (show zbb ((w1.alloc (Obj.cells #[.slice ow nw cw, .int .i64 0, .bool false] 52)).alloc (Obj.cells #[.string ⟨#[]⟩, .string ⟨#[]⟩, .int .i64 0, .int .i64 0, .slice none 0 0, .slice none 0 0, .slice none 0 0, .int .i64 0, .int .i64 (-1), .int .i64 (-1)] 29)) (w1.heap.size + 1) (.string ⟨#[]⟩) (.string ⟨#[]⟩) (.int .i64 0) (.int .i64 0) (.slice none 0 0) (.slice none 0 0) (.slice none 0 0) (.int .i64 0) (.int .i64 (-1)) (.int .i64 (-1)) from by
  have := zaS (w1.alloc (Obj.cells #[.slice ow nw cw, .int .i64 0, .bool false] 52)) (.string ⟨#[]⟩) (.string ⟨#[]⟩) (.int .i64 0) (.int .i64 0) (.slice none 0 0) (.slice none 0 0) (.slice none 0 0) (.int .i64 0) (.int .i64 (-1)) (.int .i64 (-1))
  rwa [World.size_alloc] at this)
 have HGB := zh (show Below w.heap.size w ((w1.alloc (Obj.cells #[.slice ow nw cw, .int .i64 0, .bool false] 52)).alloc (Obj.cells #[.string ⟨#[]⟩, .string ⟨#[]⟩, .int .i64 0, .int .i64 0, .slice none 0 0, .slice none 0 0, .slice none 0 0, .int .i64 0, .int .i64 (-1), .int .i64 (-1)] 29)) from (HG1.out.alloc (by omega) _).alloc (by simp; omega) _)
 obtain ⟨bd, hbd⟩ : ∃ bd, w1.heap.size = bd := ⟨_, rfl⟩
 have hfar : w.heap.size < bd := by omega
 have HBD := zh hbd
 rw [hbd] at HCH HRD HQB
 clear hrd hown b1 hnw hl0
 go_upto_region 6 with fail
 go_cut [] from 9 (fun wx => ∃ (l1 : List Tq) (nn : Nat) (b1 : Bool) (a tx : ByteArray) (z m : Int) (o1 : Option Addr) (k1 c1 : Nat) (o2 : Option Addr) (k2 c2 : Nat) (o3 : Option Addr) (k3 c3 : Nat), Hid (RdQ w wx bd (bd + 1) r1 l1 nn b1 a tx z m o1 k1 c1 o2 k2 c2 o3 k3 c3 0 (-1) (-1)) /\ Hid (nn <= 100000 /\ (r1 = none -> b1 = true) /\ ∀ x y, r1 = some (x, y) -> b1 = false /\ l1 = y /\ nn = countE x))
 case first =>
  go_wp2_with fail
  go_fit HCH.out
  rintro e w2 ⟨a, b, z, m, o1, k1, c1, o2, k2, c2, o3, k3, c3, rfl, hg, l', nn', b', hR, hle, hN, hS⟩
  have HRB2 := zh (show zbb w2 w.heap.size (.string ⟨#[]⟩) (.string ⟨#[]⟩) (.int .i64 0) (.int .i64 0) (.slice none 0 0) (.slice none 0 0) (.slice none 0 0) (.int .i64 0) (.int .i64 0) (.int .i64 0) from zaa HRB.out hg (by omega))
  have HQB2 := zh (show zbb w2 (bd + 1) (.string ⟨#[]⟩) (.string ⟨#[]⟩) (.int .i64 0) (.int .i64 0) (.slice none 0 0) (.slice none 0 0) (.slice none 0 0) (.int .i64 0) (.int .i64 (-1)) (.int .i64 (-1)) from zaa HQB.out hg (by omega))
  have hsz2 := hg.size
  simp only [World.size_alloc] at hsz2
  have hb2 : Below w.heap.size w w2 := ⟨hg.os.trans HGB.out.os, hg.tape.trans HGB.out.tape, hg.output.trans HGB.out.output, Nat.le_trans HGB.out.size hg.size, fun j hj => (hg.block j (Nat.lt_of_lt_of_le hj HGB.out.size) (by simp; omega)).trans (HGB.out.block j hj)⟩
  have HRQ := zh (RdQ.root (r1 := r1) hR HRB2.out HQB2.out hb2 hfar (fun x y he => (hS x y he).2.2.2.keep (w' := w2) (Q := fun k => bd + 1 < k) fun k hk _ => ⟨rfl, by
   have hk2 : ((w1.alloc (Obj.cells #[.slice ow nw cw, .int .i64 0, .bool false] 52)).alloc (Obj.cells #[.string ⟨#[]⟩, .string ⟨#[]⟩, .int .i64 0, .int .i64 0, .slice none 0 0, .slice none 0 0, .slice none 0 0, .int .i64 0, .int .i64 (-1), .int .i64 (-1)] 29)).heap.size <= k := hk
   rw [World.size_alloc, World.size_alloc, HBD.out] at hk2
   exact hk2⟩))
  have HE := zh (show nn' <= 100000 /\ (r1 = none -> b' = true) /\ ∀ x y, r1 = some (x, y) -> b' = false /\ l' = y /\ nn' = countE x from ⟨by have := hle.2.1; omega, hN, fun x y h => ⟨(hS x y h).1, (hS x y h).2.1, by have := (hS x y h).2.2.1; omega⟩⟩)
  obtain ⟨⟨q0, q1, q2, q3, q4, q5, q6, q7, q8, q9⟩, f0, f1, f2, f3, f4, f5, f6, f7, f8, f9⟩ := HQB2.out.reads
  clear hg hR hle hN hS
  go_wp2
  go_meet
  case rel => exact ⟨l', nn', b', a, b, z, m, o1, k1, c1, o2, k2, c2, o3, k3, c3, HRQ.out, HE.out⟩
 case rest =>
 obtain ⟨l1, nn, b1, a, tx, z, m, o1, k1, c1, o2, k2, c2, o3, k3, c3, HQ1, HE1⟩ := hcut
 clear HCH HRB HQB HGB HRD HB1 HG1 hbd hsz1
 have HI1 := zh (zby bd l1 nn b1 1 ⟨#[111, 114, 100, 101, 114]⟩ wc HQ1.out.rd)
 rw [show (⟨#[111, 114, 100, 101, 114]⟩ : ByteArray).data.toList = zdw from rfl] at HI1
 obtain ⟨p1, hp1⟩ : ∃ p, (!b1 && isT 1 zdw l1) = p := ⟨_, rfl⟩
 rw [hp1] at HI1
 have HP1 := zh hp1
 clear hp1
 go_wp2_with fail
 refine HI1.out.mono ?_
 rintro e w2 ⟨rfl, rfl⟩
 go_upto_if 25 with fail
 go_cut [] from 9 (fun wx => ∃ (od : Nat) (l2 : List Tq) (b2 : Bool), Hid (RdQ w wx bd (bd + 1) r1 l2 nn b2 a tx z m o1 k1 c1 o2 k2 c2 o3 k3 c3 (od : Nat) (-1) (-1)) /\ Hid (StR b1 (zbE l1) od l2 b2))
 case first =>
  cases p1 with
  | false =>
    have HST := zh (show StR b1 (zbE l1) 0 l1 b1 from ⟨fun h => ⟨h, by
     have := HP1.out
     rw [h, Bool.not_false, Bool.true_and] at this
     unfold zbE; rw [if_neg (by rw [this]; simp)]⟩, fun h => .inl h⟩)
    go_wp2
    go_meet
    case rel => exact ⟨0, l1, b1, HQ1.out, HST.out⟩
  | true =>
    obtain ⟨hb1, ht1⟩ := (by simpa using HP1.out : b1 = false /\ isT 1 zdw l1 = true)
    subst hb1
    obtain ⟨x, t, rfl, hx1, hx2⟩ := zen ht1
    have HOP := zh (show zbE (x :: t) = if isT 1 wAsc t then some (1, t.tail) else if isT 1 zde t then some (2, t.tail) else none by unfold zbE; rw [if_pos ht1]; rfl)
    clear ht1 hx1 hx2
    obtain ⟨bb, off, kk, cc, hk, hkc, hkm, hb, hbl, hrow, -, -, -, HD, HD0⟩ := HQ1.out.rd.head
    obtain ⟨⟨e0, e1, e2⟩, f0, f1, f2⟩ := zav hrow
    have HD := zh HD
    have HD0 := zh HD0
    have i0 : (0 : Int) < kk := by omega
    have i1 : (1 : Int) <= kk := by omega
    have hkn : (kk : Int) <= 1000000 := by omega
    clear hrow
    go_upto_region 8 with fail
    go_cut [] from 9 (fun wx => Hid (RdQ w wx bd (bd + 1) r1 t nn false a tx z m o1 k1 c1 o2 k2 c2 o3 k3 c3 0 (-1) (-1)))
    case first =>
     go_wp2
     ·go_meet
      case rel => exact HQ1.out.toks (HD0.out _ _ _ (by omega) (by omega))
     ·go_meet
      case rel => exact HQ1.out.toks (HD.out _ _ _ rfl (by omega) (by omega))
    case rest =>
    have HQ2 := zh (Hid.out hcut)
    clear hcut e0 e1 e2 f0 f1 f2 HD HD0 hk hkc hkm hb hbl i0 i1 hkn
    have HTA := zh (take_any bd t nn false 1 wc HQ2.out.rd)
    obtain ⟨u, hu⟩ : ∃ u, bz (txtK 1 false t) = u := ⟨_, rfl⟩
    rw [hu] at HTA
    have HU := zh hu
    clear hu
    go_wp2_with fail
    refine HTA.out.mono ?_
    rintro e w3 ⟨rfl, hr3, hg3⟩
    have HQ3 := zh (HQ2.out.call hr3 hg3)
    clear hr3 hg3
    obtain ⟨⟨q0, q1, q2, q3, q4, q5, q6, q7, q8, q9⟩, f0, f1, f2, f3, f4, f5, f6, f7, f8, f9⟩ := HQ3.out.box.reads
    have HW3 := zh (word_take t)
    have y1 : (u.toList == [97, 115, 99]) = (txtK 1 false t == wAsc) := by rw [zao, <- HU.out]; rfl
    have y2 : (u.toList == [100, 101, 115, 99]) = (txtK 1 false t == zde) := by rw [zao, <- HU.out]; rfl
    obtain ⟨d1, hd1⟩ : ∃ d, (txtK 1 false t == wAsc) = d := ⟨_, rfl⟩
    obtain ⟨d2, hd2⟩ : ∃ d, (txtK 1 false t == zde) = d := ⟨_, rfl⟩
    rw [hd1] at y1
    rw [hd2] at y2
    have HD1 := zh hd1
    have HD2 := zh hd2
    clear hd1 hd2
    cases d1 with
    | true =>
      have HQ4 := zh (HQ3.out.set7 1)
      have HS4 := zh (show StR false (zbE (x :: t)) 1 (resK 1 false t) (badK 1 false t) from by
       obtain ⟨g1, g2, g3⟩ := HW3.out.1 HD1.out
       rw [HOP.out, g1, if_pos rfl, g2, g3]
       exact ⟨fun _ => ⟨rfl, rfl⟩, fun h => by cases h⟩)
      go_wp2
      go_meet
      case rel => exact ⟨1, _, _, HQ4.out, HS4.out⟩
    | false =>
    cases d2 with
    | true =>
      have HQ4 := zh (HQ3.out.set7 2)
      have HS4 := zh (show StR false (zbE (x :: t)) 2 (resK 1 false t) (badK 1 false t) from by
       obtain ⟨g1, g2, g3⟩ := HW3.out.2.1 HD2.out
       have g0 := HW3.out.2.2.1 HD1.out
       rw [HOP.out, g0, if_neg (by simp), g1, if_pos rfl, g2, g3]
       exact ⟨fun _ => ⟨rfl, rfl⟩, fun h => by cases h⟩)
      go_wp2
      go_meet
      case rel => exact ⟨2, _, _, HQ4.out, HS4.out⟩
    | false =>
      have HQ4 := zh (HQ3.out.bad true)
      have HS4 := zh (show StR false (zbE (x :: t)) 0 (resK 1 false t) true from by
       have g0 := HW3.out.2.2.1 HD1.out
       have g1 := HW3.out.2.2.2 HD2.out
       rw [HOP.out, g0, if_neg (by simp), g1, if_neg (by simp)]
       exact ⟨fun h => (by cases h), fun _ => .inr rfl⟩)
      obtain ⟨ov, cv, g1, -⟩ := HQ3.out.rd
      obtain ⟨⟨e0, e1, e2⟩, h0, h1, h2⟩ := zav g1
      clear g1
      go_wp2
      go_meet
      case rel => exact ⟨0, _, _, HQ4.out, HS4.out⟩
 case rest =>
 obtain ⟨od, l2, b2, HQ2, HS2⟩ := hcut
 clear HQ1 HI1
 have HI2 := zh (zby bd l2 nn b2 1 ⟨#[108, 105, 109, 105, 116]⟩ wc HQ2.out.rd)
 rw [show (⟨#[108, 105, 109, 105, 116]⟩ : ByteArray).data.toList = zbD from rfl] at HI2
 obtain ⟨p2, hp2⟩ : ∃ p, (!b2 && isT 1 zbD l2) = p := ⟨_, rfl⟩
 rw [hp2] at HI2
 have HP2 := zh hp2
 clear hp2
 go_wp2_with fail
 refine HI2.out.mono ?_
 rintro e w2 ⟨rfl, rfl⟩
 go_upto_if 46 with fail
 go_cut [] from 9 (fun wx => ∃ (li : Int) (l3 : List Tq) (b3 : Bool), Hid (RdQ w wx bd (bd + 1) r1 l3 nn b3 a tx z m o1 k1 c1 o2 k2 c2 o3 k3 c3 (od : Nat) li (-1)) /\ Hid (StR b2 (zcy zbD l2) li l3 b3))
 case first =>
  cases p2 with
  | false =>
    have HST := zh (show StR b2 (zcy zbD l2) (-1) l2 b2 from ⟨fun h => ⟨h, by
     have := HP2.out
     rw [h, Bool.not_false, Bool.true_and] at this
     unfold zcy; rw [if_neg (by rw [this]; simp)]⟩, fun h => .inl h⟩)
    go_wp2
    go_meet
    case rel => exact ⟨-1, l2, b2, HQ2.out, HST.out⟩
  | true =>
    obtain ⟨hb1, ht1⟩ := (by simpa using HP2.out : b2 = false /\ isT 1 zbD l2 = true)
    subst hb1
    obtain ⟨x, t, rfl, hx1, hx2⟩ := zen ht1
    have HOP := zh (show zcy zbD (x :: t) = (numP 2 t).map fun p => ((p.1 : Int), p.2) by unfold zcy; rw [if_pos ht1]; simp only [List.tail_cons]; cases numP 2 t <;> rfl)
    clear ht1 hx1 hx2
    obtain ⟨bb, off, kk, cc, hk, hkc, hkm, hb, hbl, hrow, -, -, -, HD, HD0⟩ := HQ2.out.rd.head
    obtain ⟨⟨e0, e1, e2⟩, f0, f1, f2⟩ := zav hrow
    have HD := zh HD
    have HD0 := zh HD0
    have i0 : (0 : Int) < kk := by omega
    have i1 : (1 : Int) <= kk := by omega
    have hkn : (kk : Int) <= 1000000 := by omega
    clear hrow
    go_upto_region 16 with fail
    go_cut [] from 9 (fun wx => Hid (RdQ w wx bd (bd + 1) r1 t nn false a tx z m o1 k1 c1 o2 k2 c2 o3 k3 c3 (od : Nat) (-1) (-1)))
    case first =>
     go_wp2
     ·go_meet
      case rel => exact HQ2.out.toks (HD0.out _ _ _ (by omega) (by omega))
     ·go_meet
      case rel => exact HQ2.out.toks (HD.out _ _ _ rfl (by omega) (by omega))
    case rest =>
    have HQA := zh (Hid.out hcut)
    clear hcut e0 e1 e2 f0 f1 f2 HD HD0 hk hkc hkm hb hbl i0 i1 hkn
    have HTA := zh (take_any bd t nn false 2 wc HQA.out.rd)
    have HDV := zh (fun W => zd3 t HQA.out.rd.ok 2 (.inl rfl) false W)
    obtain ⟨u, hu⟩ : ∃ u, bz (txtK 2 false t) = u := ⟨_, rfl⟩
    obtain ⟨v, hv⟩ : ∃ v, valL (txtK 2 false t) = v := ⟨_, rfl⟩
    rw [hu] at HTA HDV
    rw [hv] at HDV
    have HV := zh hv
    clear hu hv
    go_wp2_with fail
    refine HTA.out.mono ?_
    rintro e w3 ⟨rfl, hr3, hg3⟩
    have HQB := zh (HQA.out.call hr3 hg3)
    clear hr3 hg3
    go_wp2_with fail
    refine (HDV.out _).mono ?_
    rintro e w4 ⟨rfl, rfl⟩
    obtain ⟨⟨q0, q1, q2, q3, q4, q5, q6, q7, q8, q9⟩, f0, f1, f2, f3, f4, f5, f6, f7, f8, f9⟩ := HQB.out.box.reads
    have HQC := zh (HQB.out.set8 (v : Nat))
    have HST := zh (show StR false (zcy zbD (x :: t)) ((v : Nat) : Int) (resK 2 false t) (badK 2 false t) from ⟨fun h => ⟨rfl, by rw [HOP.out, (zfN h).2, <- HV.out]; rfl⟩, fun h => .inr (by rw [HOP.out, zir h]; rfl)⟩)
    go_wp2
    go_meet
    case rel => exact ⟨((v : Nat) : Int), _, _, HQC.out, HST.out⟩
 case rest =>
 obtain ⟨li, l3, b3, HQ21, HS21⟩ := hcut
 clear HQ2 HI2
 have HI3 := zh (zby bd l3 nn b3 1 ⟨#[111, 102, 102, 115, 101, 116]⟩ wc HQ21.out.rd)
 rw [show (⟨#[111, 102, 102, 115, 101, 116]⟩ : ByteArray).data.toList = zbd from rfl] at HI3
 obtain ⟨p3, hp3⟩ : ∃ p, (!b3 && isT 1 zbd l3) = p := ⟨_, rfl⟩
 rw [hp3] at HI3
 have HP3 := zh hp3
 clear hp3
 go_wp2_with fail
 refine HI3.out.mono ?_
 rintro e w2 ⟨rfl, rfl⟩
 go_upto_if 60 with fail
 go_cut [] from 9 (fun wx => ∃ (ob : Int) (l4 : List Tq) (b4 : Bool), Hid (RdQ w wx bd (bd + 1) r1 l4 nn b4 a tx z m o1 k1 c1 o2 k2 c2 o3 k3 c3 (od : Nat) li ob) /\ Hid (StR b3 (zcy zbd l3) ob l4 b4))
 case first =>
  cases p3 with
  | false =>
    have HST := zh (show StR b3 (zcy zbd l3) (-1) l3 b3 from ⟨fun h => ⟨h, by
     have := HP3.out
     rw [h, Bool.not_false, Bool.true_and] at this
     unfold zcy; rw [if_neg (by rw [this]; simp)]⟩, fun h => .inl h⟩)
    go_wp2
    go_meet
    case rel => exact ⟨-1, l3, b3, HQ21.out, HST.out⟩
  | true =>
    obtain ⟨hb1, ht1⟩ := (by simpa using HP3.out : b3 = false /\ isT 1 zbd l3 = true)
    subst hb1
    obtain ⟨x, t, rfl, hx1, hx2⟩ := zen ht1
    have HOP := zh (show zcy zbd (x :: t) = (numP 2 t).map fun p => ((p.1 : Int), p.2) by unfold zcy; rw [if_pos ht1]; simp only [List.tail_cons]; cases numP 2 t <;> rfl)
    clear ht1 hx1 hx2
    obtain ⟨bb, off, kk, cc, hk, hkc, hkm, hb, hbl, hrow, -, -, -, HD, HD0⟩ := HQ21.out.rd.head
    obtain ⟨⟨e0, e1, e2⟩, f0, f1, f2⟩ := zav hrow
    have HD := zh HD
    have HD0 := zh HD0
    have i0 : (0 : Int) < kk := by omega
    have i1 : (1 : Int) <= kk := by omega
    have hkn : (kk : Int) <= 1000000 := by omega
    clear hrow
    go_upto_region 19 with fail
    go_cut [] from 9 (fun wx => Hid (RdQ w wx bd (bd + 1) r1 t nn false a tx z m o1 k1 c1 o2 k2 c2 o3 k3 c3 (od : Nat) li (-1)))
    case first =>
     go_wp2
     ·go_meet
      case rel => exact HQ21.out.toks (HD0.out _ _ _ (by omega) (by omega))
     ·go_meet
      case rel => exact HQ21.out.toks (HD.out _ _ _ rfl (by omega) (by omega))
    case rest =>
    have HQA := zh (Hid.out hcut)
    clear hcut e0 e1 e2 f0 f1 f2 HD HD0 hk hkc hkm hb hbl i0 i1 hkn
    have HTA := zh (take_any bd t nn false 2 wc HQA.out.rd)
    have HDV := zh (fun W => zd3 t HQA.out.rd.ok 2 (.inl rfl) false W)
    obtain ⟨u, hu⟩ : ∃ u, bz (txtK 2 false t) = u := ⟨_, rfl⟩
    obtain ⟨v, hv⟩ : ∃ v, valL (txtK 2 false t) = v := ⟨_, rfl⟩
    rw [hu] at HTA HDV
    rw [hv] at HDV
    have HV := zh hv
    clear hu hv
    go_wp2_with fail
    refine HTA.out.mono ?_
    rintro e w3 ⟨rfl, hr3, hg3⟩
    have HQB := zh (HQA.out.call hr3 hg3)
    clear hr3 hg3
    go_wp2_with fail
    refine (HDV.out _).mono ?_
    rintro e w4 ⟨rfl, rfl⟩
    obtain ⟨⟨q0, q1, q2, q3, q4, q5, q6, q7, q8, q9⟩, f0, f1, f2, f3, f4, f5, f6, f7, f8, f9⟩ := HQB.out.box.reads
    have HQC := zh (HQB.out.set9 (v : Nat))
    have HST := zh (show StR false (zcy zbd (x :: t)) ((v : Nat) : Int) (resK 2 false t) (badK 2 false t) from ⟨fun h => ⟨rfl, by rw [HOP.out, (zfN h).2, <- HV.out]; rfl⟩, fun h => .inr (by rw [HOP.out, zir h]; rfl)⟩)
    go_wp2
    go_meet
    case rel => exact ⟨((v : Nat) : Int), _, _, HQC.out, HST.out⟩
 case rest =>
 obtain ⟨ob, l4, b4, HQ31, HS31⟩ := hcut
 clear HQ21 HI3
 have HFIN := zh (read_steps HR1.out HE1.out.2.1 HE1.out.2.2 HS2.out HS21.out HS31.out)
 obtain ⟨n4, hn4⟩ : ∃ n, l4.length = n := ⟨_, rfl⟩
 have HN4 := zh hn4
 obtain ⟨ov, cv, g1, -⟩ := HQ31.out.rd
 rw [hn4] at g1
 obtain ⟨⟨e0, e1, e2⟩, -⟩ := zav g1
 obtain ⟨⟨q0, q1, q2, q3, q4, q5, q6, q7, q8, q9⟩, -⟩ := HQ31.out.box.reads
 obtain ⟨⟨s0, s1, s2, s3, s4, s5, s6, s7, s8, s9⟩, t0, t1, t2, t3, t4, t5, t6, t7, t8, t9⟩ := HQ31.out.res.reads
 have HBE := zh HQ31.out.below
 have HND := zh HQ31.out.nod
 have HUP := zh (And.intro HQ31.out.far HQ31.out.up)
 clear g1 hn4
 go_upto_region 21 with fail
 go_cut [101] from 9 (fun u101 wx => u101 = .bool (b4 || decide (0 < n4) || decide (200 < nn) || decide (2000 < li) || decide (2000 < ob)) /\ wx = wc)
 case first =>
  cases b4 with
  | true =>
    go_wp2
    go_meet
    case rel => exact ⟨by simp, rfl⟩
  | false =>
  by_cases y1 : 0 < n4
  ·have y1' : (0 : Int) < n4 := by omega
   have HY := zh (decide_eq_true y1)
   clear y1
   go_wp2
   go_meet
   case rel => exact ⟨by rw [HY.out]; simp, rfl⟩
  have y1' : ¬ (0 : Int) < n4 := by omega
  have HY1 := zh (decide_eq_false y1)
  clear y1
  by_cases y2 : 200 < nn
  ·have y2' : (200 : Int) < nn := by omega
   have HY := zh (decide_eq_true y2)
   clear y2
   go_wp2
   go_meet
   case rel => exact ⟨by rw [HY.out]; simp, rfl⟩
  have y2' : ¬ (200 : Int) < nn := by omega
  have HY2 := zh (decide_eq_false y2)
  clear y2
  by_cases y3 : 2000 < li
  ·have HY := zh (decide_eq_true y3)
   go_wp2
   go_meet
   case rel => exact ⟨by rw [HY.out]; simp, rfl⟩
  have HY3 := zh (decide_eq_false y3)
  by_cases y4 : 2000 < ob
  ·have HY := zh (decide_eq_true y4)
   go_wp2
   go_meet
   case rel => exact ⟨by rw [HY.out]; simp, rfl⟩
  have HY4 := zh (decide_eq_false y4)
  go_wp2
  go_meet
  case rel => exact ⟨by rw [HY1.out, HY2.out, HY3.out, HY4.out]; rfl, rfl⟩
 case rest =>
 obtain ⟨rfl, rfl⟩ := hcut
 cases hbad : (b4 || decide (0 < n4) || decide (200 < nn) || decide (2000 < li) || decide (2000 < ob)) with
 | true =>
   have HNO := zh (show zbk s.data.toList = none from by
    rw [HRL.out]
    rcases HFIN.out with ⟨-, h⟩ | ⟨h1, h2, h3, h4, h5, -⟩
    ·exact h
    ·have : n4 = 0 := by rw [<- HN4.out, h2]; rfl
     rw [h1, this, decide_eq_false (by omega), decide_eq_false (by omega), decide_eq_false (by omega), decide_eq_false (by omega)] at hbad
     cases hbad)
   clear hbad
   go_wp2
   refine bodyPost_ret (v := .tuple #[.agg #[.string ⟨#[]⟩, .string ⟨#[]⟩, .int .i64 0, .int .i64 0, .slice none 0 0, .slice none 0 0, .slice none 0 0, .int .i64 0, .int .i64 0, .int .i64 0], .int .i64 2]) (by simp [results, Tryz.results8, go_sem, s0, s1, s2, s3, s4, s5, s6, s7, s8, s9]) rfl ?_
   exact ⟨read_none HZ.out HNO.out rfl, ((((((((((HBE.out.setCell zr _).setCell zr _).setCell zr _).setCell zr _).setCell zr _).setCell zr _).setCell zr _).setCell zr _).setCell zr _).setCell zr _)⟩
 | false =>
   simp only [Bool.or_eq_false_iff, decide_eq_false_iff_not] at hbad
   have HYES := zh (show ∃ x, r1 = some (x, l1) /\ zbk s.data.toList = some ⟨x, od, li, ob⟩ from by
    rw [HRL.out]
    rcases HFIN.out with ⟨h, -⟩ | ⟨-, -, -, -, -, h⟩
    ·obtain ⟨⟨⟨⟨g1, g2⟩, g3⟩, g4⟩, g5⟩ := hbad
     rcases h with h | h | h | h | h
     ·rw [g1] at h; cases h
     ·exact absurd (List.eq_nil_of_length_eq_zero (by rw [HN4.out]; omega)) h
     ·exact absurd h g3
     ·exact absurd h g4
     ·exact absurd h g5
    ·exact h)
   clear hbad
   go_wp2
   refine bodyPost_ret (v := .tuple #[.agg #[.string a, .string tx, .int .i64 z, .int .i64 m, .slice o1 k1 c1, .slice o2 k2 c2, .slice o3 k3 c3, .int .i64 (od : Nat), .int .i64 li, .int .i64 ob], .int .i64 0]) (by simp [results, Tryz.results8, go_sem, s0, s1, s2, s3, s4, s5, s6, s7, s8, s9]) rfl ?_
   obtain ⟨x, hx, hrl⟩ := HYES.out
   refine ⟨zgq HZ.out hrl ⟨_, rfl, zeC (HND.out x l1 hx) (fun k hk => ⟨by have := HUP.out; omega, by have := HUP.out; omega⟩) _ _ _ _ _ _ _ _ _ _⟩, ((((((((((HBE.out.setCell zr _).setCell zr _).setCell zr _).setCell zr _).setCell zr _).setCell zr _).setCell zr _).setCell zr _).setCell zr _).setCell zr _)⟩
end Go.Proofs.YtbcemjhaecelnaaGreatDoor.Drd
end
