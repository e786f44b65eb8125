import Derived.Test.YtbcemjhaecelnaaGreatDoorMg17
import Derived.Test.YtbcemjhaecelnaaGreatDoorMg13
import Derived.Test.YtbcemjhaecelnaaGreatDoorMg15
section
set_option maxHeartbeats 4000000
set_option maxRecDepth 100000
section
namespace Go.Proofs.YtbcemjhaecelnaaGreatDoor.Par
open Go.RowKit Go.Lib
open Go.Proofs.YtbcemjhaecelnaaGreatDoor.Sto
def ModeEnd (w : World) (bd : Nat) (r : Option ((Nat × List ByteArray) × List Tq)) (e : Ending) (w' : World) : Prop := match r with
 | none => (∃ m o n c, e = .returned (.tuple #[.int .i64 m, .slice o n c, .bool false])) /\ w.grownBy w' (some bd)
 | some ((mode, xs), m) => (∃ o n c, e = .returned (.tuple #[.int .i64 (mode : Nat), .slice o n c, .bool true]) /\ (xs.length = n /\ n <= c) /\ za2 w' (fun b => w.heap.size <= b) o 1 (xs.map encN)) /\ Rd w' bd m /\ w.grownBy w' (some bd)
theorem zfF.to {_w0 w w' : World} {bd : Nat} {r : Option (List ByteArray × List Tq)} {e : Ending} (h : zfF w bd r e w') : (∃ o n c b, e = .returned (.tuple #[.slice o n c, .bool b]) /\ b = r.isSome) := by
 cases r with
 | none => obtain ⟨⟨o, n, c, rfl⟩, _⟩ := h; exact ⟨o, n, c, false, rfl, rfl⟩
 | some p => obtain ⟨⟨o, c, rfl, _⟩, _⟩ := h; exact ⟨o, _, c, true, rfl, rfl⟩
theorem zeh (bd : Nat) (l : List Tq) (a b : ByteArray) (w : World) (h : Rd w bd l) :
 Calls Tryz.prog 114 #[.pointer (some ⟨bd, 0, none⟩), .string a, .string b] w (ModeEnd w bd (zbu a.data.toList b.data.toList l)) := by
 obtain ⟨T, hT⟩ : ∃ T, zbu a.data.toList b.data.toList l = T := ⟨_, rfl⟩
 rw [hT]
 unfold zbu at hT
 cases ha : isT 1 a.data.toList l with
 | true =>
   rw [if_pos ha] at hT
   have HA := zh (zcM bd l a ha w h)
   cases hp : isT 5 [40] l.tail with
   | false =>
     rw [if_neg (by rw [hp]; simp)] at hT
     have HT := zh hT
     have HP := zh (fun W (hr : Rd W bd l.tail) => zbR bd l.tail ⟨#[40]⟩ hp W hr)
     clear h ha hT hp
     go_enter Tryz.func114, Tryz.ntmps114
     go_wp2_with fail
     refine HA.out.mono ?_
     rintro e w1 ⟨rfl, hr, hg⟩
     have HG := zh hg
     have HPP := zh (HP.out w1 hr)
     clear hr hg
     go_wp2_with fail
     refine HPP.out.mono ?_
     rintro e w2 ⟨rfl, rfl⟩
     go_wp2
     go_ret3
     rw [<- HT.out]
     exact ⟨⟨_, _, _, _, rfl⟩, HG.out⟩
   | true =>
     rw [if_pos hp] at hT
     have HP := zh (fun W (hr : Rd W bd l.tail) => za9 bd l.tail ⟨#[40]⟩ hp W hr)
     have HN := zh (fun W (hr : Rd W bd l.tail.tail) => zgn bd l.tail.tail ⟨#[41]⟩ W hr)
     obtain ⟨N, hN⟩ : ∃ N, zbe zaZ [41] l.tail.tail = N := ⟨_, rfl⟩
     rw [show (⟨#[41]⟩ : ByteArray).data.toList = [41] from rfl, hN] at HN
     rw [hN] at hT
     have HT := zh hT
     clear h ha hT hp hN
     go_enter Tryz.func114, Tryz.ntmps114
     go_wp2_with fail
     refine HA.out.mono ?_
     rintro e w1 ⟨rfl, hr, hg⟩
     have HG := zh hg
     have HPP := zh (HP.out w1 hr)
     clear hr hg
     go_wp2_with fail
     refine HPP.out.mono ?_
     rintro e w2 ⟨rfl, hr, hg⟩
     have HG2 := zh (grown_trans HG.out hg)
     have HNN := zh (HN.out w2 hr)
     clear hr hg
     go_wp2_with fail
     refine HNN.out.mono ?_
     rintro e w3 hne
     have HZ := zh HG2.out.size
     cases N with
     | none =>
       obtain ⟨⟨o, n, c, rfl⟩, hg3⟩ := hne
       have HG3 := zh hg3
       clear hg3
       go_wp2
       go_ret3
       rw [<- HT.out]
       exact ⟨⟨_, _, _, _, rfl⟩, grown_trans HG2.out HG3.out⟩
     | some p =>
       obtain ⟨xs, m⟩ := p
       obtain ⟨⟨o, c, rfl, hcp, hs3⟩, hr3, hg3⟩ := hne; have HCP := zh hcp; clear hcp
       have HE := zh (And.intro (hs3.keep (w' := w3) (Q := fun b => w.heap.size <= b) (fun b hb _ => ⟨rfl, Nat.le_trans HZ.out hb⟩)) (And.intro hr3 (grown_trans HG2.out hg3)))
       clear hr3 hg3 hs3
       go_wp2
       go_ret3
       rw [<- HT.out]
       exact ⟨⟨_, _, _, rfl, ⟨rfl, HCP.out⟩, HE.out.1⟩, HE.out.2⟩
 | false =>
   rw [if_neg (by rw [ha]; simp)] at hT
   have HA := zh (zdF bd l a ha w h)
   cases hb : isT 1 b.data.toList l with
   | true =>
     rw [if_pos hb] at hT
     have HB := zh (zcM bd l b hb w h)
     cases hp : isT 5 [40] l.tail with
     | false =>
       rw [if_neg (by rw [hp]; simp)] at hT
       have HT := zh hT
       have HP := zh (fun W (hr : Rd W bd l.tail) => zbR bd l.tail ⟨#[40]⟩ hp W hr)
       clear h ha hb hT hp
       go_enter Tryz.func114, Tryz.ntmps114
       go_wp2_with fail
       refine HA.out.mono ?_
       rintro e w1 ⟨rfl, rfl⟩
       go_wp2_with fail
       refine HB.out.mono ?_
       rintro e w1 ⟨rfl, hr, hg⟩
       have HG := zh hg
       have HPP := zh (HP.out w1 hr)
       clear hr hg
       go_wp2_with fail
       refine HPP.out.mono ?_
       rintro e w2 ⟨rfl, rfl⟩
       go_wp2
       go_ret3
       rw [<- HT.out]
       exact ⟨⟨_, _, _, _, rfl⟩, HG.out⟩
     | true =>
       rw [if_pos hp] at hT
       have HP := zh (fun W (hr : Rd W bd l.tail) => za9 bd l.tail ⟨#[40]⟩ hp W hr)
       have HN := zh (fun W (hr : Rd W bd l.tail.tail) => zgn bd l.tail.tail ⟨#[41]⟩ W hr)
       obtain ⟨N, hN⟩ : ∃ N, zbe zaZ [41] l.tail.tail = N := ⟨_, rfl⟩
       rw [show (⟨#[41]⟩ : ByteArray).data.toList = [41] from rfl, hN] at HN
       rw [hN] at hT
       have HT := zh hT
       clear h ha hb hT hp hN
       go_enter Tryz.func114, Tryz.ntmps114
       go_wp2_with fail
       refine HA.out.mono ?_
       rintro e w1 ⟨rfl, rfl⟩
       go_wp2_with fail
       refine HB.out.mono ?_
       rintro e w1 ⟨rfl, hr, hg⟩
       have HG := zh hg
       have HPP := zh (HP.out w1 hr)
       clear hr hg
       go_wp2_with fail
       refine HPP.out.mono ?_
       rintro e w2 ⟨rfl, hr, hg⟩
       have HG2 := zh (grown_trans HG.out hg)
       have HNN := zh (HN.out w2 hr)
       clear hr hg
       go_wp2_with fail
       refine HNN.out.mono ?_
       rintro e w3 hne
       have HZ := zh HG2.out.size
       cases N with
       | none =>
         obtain ⟨⟨o, n, c, rfl⟩, hg3⟩ := hne
         have HG3 := zh hg3
         clear hg3
         go_wp2
         go_ret3
         rw [<- HT.out]
         exact ⟨⟨_, _, _, _, rfl⟩, grown_trans HG2.out HG3.out⟩
       | some p =>
         obtain ⟨xs, m⟩ := p
         obtain ⟨⟨o, c, rfl, hcp, hs3⟩, hr3, hg3⟩ := hne; have HCP := zh hcp; clear hcp
         have HE := zh (And.intro (hs3.keep (w' := w3) (Q := fun b => w.heap.size <= b) (fun b hb _ => ⟨rfl, Nat.le_trans HZ.out hb⟩)) (And.intro hr3 (grown_trans HG2.out hg3)))
         clear hr3 hg3 hs3
         go_wp2
         go_ret3
         rw [<- HT.out]
         exact ⟨⟨_, _, _, rfl, ⟨rfl, HCP.out⟩, HE.out.1⟩, HE.out.2⟩
   | false =>
     rw [if_neg (by rw [hb]; simp)] at hT
     have HB := zh (zdF bd l b hb w h)
     have HT := zh hT
     have HR := zh h
     clear h ha hb hT
     go_enter Tryz.func114, Tryz.ntmps114
     go_wp2_with fail
     refine HA.out.mono ?_
     rintro e w1 ⟨rfl, rfl⟩
     go_wp2_with fail
     refine HB.out.mono ?_
     rintro e w1 ⟨rfl, rfl⟩
     go_wp2
     go_ret3
     rw [<- HT.out]
     exact ⟨⟨none, 0, 0, rfl, ⟨rfl, Nat.le_refl _⟩, .inl rfl⟩, HR.out, grown_refl _ _⟩
end Go.Proofs.YtbcemjhaecelnaaGreatDoor.Par
end
section
namespace Go.Proofs.YtbcemjhaecelnaaGreatDoor.Par
open Go.RowKit Go.Lib
open Go.Proofs.YtbcemjhaecelnaaGreatDoor.Sto
theorem grown_setNew {a b : World} {r : Option Nat} (h : a.grownBy b r) {k : Nat} (hk : a.heap.size <= k) (i : Nat) (u : Value) : a.grownBy (b.setCell ⟨k, i, none⟩ u) r :=
 ⟨h.os, h.tape, h.output, by simpa [World.setCell] using h.size, fun j hj hr => (heap_setCell_other b ⟨k, i, none⟩ j u (fun e => by have e2 : j = k := e; omega)).trans (h.block j hj hr)⟩
theorem signOf_any (k : Int) (w : World) : Calls Tryz.prog 102 #[.int .i64 k] w fun e w' => e = .returned (.string ⟨(signM k).toArray⟩) /\ w = w' := by
 by_cases h1 : k = 1
 ·subst h1
  go_enter Tryz.func102, Tryz.ntmps102
  go_wp2
  go_ret
  exact ⟨rfl, rfl⟩
 ·by_cases h2 : k = 2
  ·subst h2
   go_enter Tryz.func102, Tryz.ntmps102
   go_wp2
   go_ret
   exact ⟨rfl, rfl⟩
  ·by_cases h3 : k = 3
   ·subst h3
    go_enter Tryz.func102, Tryz.ntmps102
    go_wp2
    go_ret
    exact ⟨rfl, rfl⟩
   ·by_cases h4 : k = 4
    ·subst h4
     go_enter Tryz.func102, Tryz.ntmps102
     go_wp2
     go_ret
     exact ⟨rfl, rfl⟩
    ·have HE := zh (show signM k = [] by unfold signM; rw [if_neg h1, if_neg h2, if_neg h3, if_neg h4])
     have t1 : (k == 1) = false := by simp [h1]
     have t2 : (k == 2) = false := by simp [h2]
     have t3 : (k == 3) = false := by simp [h3]
     have t4 : (k == 4) = false := by simp [h4]
     rw [HE.out]
     clear h1 h2 h3 h4
     go_enter Tryz.func102, Tryz.ntmps102
     go_wp2
     go_ret
     exact ⟨rfl, rfl⟩
theorem op_of : ∀ k : Nat, 1 <= k -> k < 5 -> opS (signM (k : Int)) = k := by
 intro k h1 h2
 rcases (by omega : k = 1 \/ k = 2 \/ k = 3 \/ k = 4) with rfl | rfl | rfl | rfl <;> rfl
theorem op_none (l : List UInt8) (h : ∀ j : Nat, 1 <= j -> j < 5 -> ¬ signM (j : Int) = l) : opS l = 0 := by
 unfold opS
 have h1 := h 1 (by decide) (by decide)
 have h2 := h 2 (by decide) (by decide)
 have h3 := h 3 (by decide) (by decide)
 have h4 := h 4 (by decide) (by decide)
 rw [if_neg (fun e => h1 e.symm), if_neg (fun e => h2 e.symm), if_neg (fun e => h3 e.symm), if_neg (fun e => h4 e.symm)]
theorem opOf_any (s : ByteArray) (w : World) : Calls Tryz.prog 162 #[.string s] w fun e w' => e = .returned (.tuple #[.int .i64 (opS s.data.toList : Nat), .bool (decide (opS s.data.toList ≠ 0))]) /\ w = w' := by
 obtain ⟨R, hR⟩ : ∃ R, opS s.data.toList = R := ⟨_, rfl⟩
 have HR := zh hR
 rw [hR]
 clear hR
 go_enter Tryz.func162, Tryz.ntmps162
 go_wp2
 go_loopw [4] (fun v wr => ∃ (k : Nat), v = .int .i64 k /\ 1 <= k /\ k <= 5 /\ Hid (∀ j : Nat, 1 <= j -> j < k -> ¬ signM (j : Int) = s.data.toList) /\ Hid (w = wr)) (fun v _ => 5 - (Go.RowKit.intOf v).toNat)
 case atStart => exact ⟨1, rfl, Nat.le_refl _, by decide, fun j h1 h2 => by omega, rfl⟩
 case round =>
  obtain ⟨k, rfl, h1, h5, H, HW⟩ := hrel
  by_cases h4 : k <= 4
  ·have i4 : (k : Int) <= 4 := by omega
   have HS := zh (signOf_any (k : Int) wr)
   obtain ⟨sg, hsg⟩ : ∃ sg : ByteArray, sg = ⟨(signM (k : Int)).toArray⟩ := ⟨_, rfl⟩
   have HSG := zh (show sg.data.toList = signM (k : Int) by rw [hsg])
   rw [<- hsg] at HS
   clear hsg
   by_cases he : signM (k : Int) = s.data.toList
   ·have HE := zh (show R = k by rw [<- HR.out, <- he]; exact op_of k h1 (by omega))
    have e1 : sg.toList = s.toList := by rw [ByteArray.toList_eq, ByteArray.toList_eq, HSG.out, he]
    have hk0 : (k : Int) ≠ 0 := by omega
    clear he
    go_wp2_with fail
    refine HS.out.mono ?_
    rintro e w2 ⟨rfl, rfl⟩
    go_wp2
    go_ret2
    have hne : R ≠ 0 := by rw [HE.out]; omega
    rw [decide_eq_true hne, HE.out]
    exact ⟨rfl, HW.out⟩
   ·have H2 := zh (show ∀ j : Nat, 1 <= j -> j < k + 1 -> ¬ signM (j : Int) = s.data.toList by
     intro j hj1 hj2
     by_cases hjk : j = k
     ·subst hjk; exact he
     ·exact H.out j hj1 (by omega))
    have e1 : ¬ sg.toList = s.toList := by rw [ByteArray.toList_eq, ByteArray.toList_eq, HSG.out]; exact he
    have e2 : (sg.toList == s.toList) = false := by simp [e1]
    clear he
    go_wp2_with fail
    refine HS.out.mono ?_
    rintro e w2 ⟨rfl, rfl⟩
    go_wp2
    go_roundw
    case rel => exact ⟨k + 1, by go_num, by omega, by omega, H2, HW⟩
    case measure => simp [Go.RowKit.intOf]; omega
  ·have i4 : ¬ (k : Int) <= 4 := by omega
   have HE := zh (show R = 0 by rw [<- HR.out]; exact op_none _ (fun j hj1 hj2 => H.out j hj1 (by omega)))
   go_wp2
   go_ret2
   rw [HE.out]
   exact ⟨rfl, HW.out⟩
def zcx (k : Nat) (l : List Tq) : ByteArray := match l with
 | [] => ⟨#[]⟩
 | x :: _ => if x.1 = k then bz x.2 else ⟨#[]⟩
def zb8 (k : Nat) (l : List Tq) : List Tq := if isK k l then l.tail else l
theorem zcO {k : Nat} {x : Tq} {t : List Tq} (hx : x.1 = k) : zcx k (x :: t) = bz x.2 := by
 show (if x.1 = k then _ else _) = _
 rw [if_pos hx]
theorem zfG {k : Nat} {l : List Tq} (hk : isK k l = false) : zcx k l = ⟨#[]⟩ := by
 cases l with
 | nil => rfl
 | cons x t =>
   show (if x.1 = k then _ else _) = _
   rw [if_neg]; simpa [isK] using hk
theorem zhi (bd : Nat) (l : List Tq) (k : Nat) (w : World) (h : Rd w bd l) :
 Calls Tryz.prog 93 #[.pointer (some ⟨bd, 0, none⟩), .int .i64 (k : Nat)] w fun e w' => e = .returned (.tuple #[.string (zcx k l), .bool (isK k l)]) /\ Rd w' bd (zb8 k l) /\ w.grownBy w' (some bd) := by
 cases hk : isK k l with
 | true =>
   obtain ⟨x, t, rfl, hx⟩ := zaN hk
   refine (zef bd x t k hx w h).mono fun e w' q => ⟨?_, ?_, q.2.2⟩
   ·rw [q.1, zcO hx]; rfl
   ·unfold zb8; rw [if_pos hk]; exact q.2.1
 | false =>
   refine (zgD bd l k hk w h).mono fun e w' q => ?_
   obtain ⟨rfl, rfl⟩ := q
   refine ⟨?_, ?_, grown_refl _ _⟩
   ·rw [zfG hk]
   ·unfold zb8; rw [if_neg (by rw [hk]; simp)]; exact h
theorem nameT_any (bd : Nat) (l : List Tq) (w : World) (h : Rd w bd l) :
 Calls Tryz.prog 130 #[.pointer (some ⟨bd, 0, none⟩)] w fun e w' => e = .returned (.tuple #[.string (zcx 1 l), .bool (isK 1 l)]) /\ Rd w' bd (zb8 1 l) /\ w.grownBy w' (some bd) := by
 cases hk : isK 1 l with
 | true =>
   obtain ⟨x, t, rfl, hx⟩ := zaN hk
   refine (zfE bd x t hx w h).mono fun e w' q => ⟨?_, ?_, q.2.2⟩
   ·rw [q.1, zcO hx]; rfl
   ·unfold zb8; rw [if_pos hk]; exact q.2.1
 | false =>
   refine (zgE bd l hk w h).mono fun e w' q => ?_
   obtain ⟨rfl, rfl⟩ := q
   refine ⟨?_, ?_, grown_refl _ _⟩
   ·rw [zfG hk]
   ·unfold zb8; rw [if_neg (by rw [hk]; simp)]; exact h
theorem zhV (l : List Tq) : matP l = if (isK 1 l && (decide (opS (zcx 5 (zb8 1 l)).data.toList ≠ 0) && isK 3 (zb8 5 (zb8 1 l)))) = true then some ((zcx 1 l, (opS (zcx 5 (zb8 1 l)).data.toList : Int), zcx 3 (zb8 5 (zb8 1 l))), zb8 3 (zb8 5 (zb8 1 l))) else none := by
 cases h1 : isK 1 l with
 | false =>
   rw [Bool.false_and, if_neg (by simp)]
   cases l with
   | nil => rfl
   | cons x t =>
     match t with
     | [] => rfl
     | [_] => rfl
     | y :: z :: m =>
       show (if x.1 = 1 /\ _ then _ else none) = none
       rw [if_neg]; rintro ⟨h, _⟩; simp [isK, h] at h1
 | true =>
   obtain ⟨x, t, rfl, hx⟩ := zaN h1
   have r1 : zb8 1 (x :: t) = t := by unfold zb8; rw [if_pos h1]; rfl
   rw [Bool.true_and, r1]
   cases h5 : isK 5 t with
   | false =>
     have e : zcx 5 t = ⟨#[]⟩ := zfG h5
     rw [e, show opS (⟨#[]⟩ : ByteArray).data.toList = 0 from rfl, if_neg (by simp)]
     cases t with
     | nil => rfl
     | cons y t =>
       cases t with
       | nil => rfl
       | cons z m =>
         show (if x.1 = 1 /\ y.1 = 5 /\ _ then _ else none) = none
         rw [if_neg]; rintro ⟨_, h, _⟩; simp [isK, h] at h5
   | true =>
     obtain ⟨y, u, rfl, hy⟩ := zaN h5
     have r5 : zb8 5 (y :: u) = u := by unfold zb8; rw [if_pos h5]; rfl
     have e5 : zcx 5 (y :: u) = bz y.2 := zcO hy
     have e1 : zcx 1 (x :: y :: u) = bz x.2 := zcO hx
     rw [r5, e5, e1, show (bz y.2).data.toList = y.2 from rfl]
     cases h3 : isK 3 u with
     | false =>
       rw [Bool.and_false, if_neg (by simp)]
       cases u with
       | nil => rfl
       | cons z m =>
         show (if x.1 = 1 /\ y.1 = 5 /\ opS y.2 ≠ 0 /\ z.1 = 3 then _ else none) = none
         rw [if_neg]; rintro ⟨_, _, _, h⟩; simp [isK, h] at h3
     | true =>
       obtain ⟨z, m, rfl, hz⟩ := zaN h3
       have r3 : zb8 3 (z :: m) = m := by unfold zb8; rw [if_pos h3]; rfl
       have e3 : zcx 3 (z :: m) = bz z.2 := zcO hz
       rw [r3, e3]
       show (if x.1 = 1 /\ y.1 = 5 /\ opS y.2 ≠ 0 /\ z.1 = 3 then _ else none) = _
       by_cases h0 : opS y.2 = 0
       ·rw [if_neg (fun h => h.2.2.1 h0), if_neg (by simp [h0])]
       ·rw [if_pos ⟨hx, hy, h0, hz⟩, if_pos (by simp [h0])]
def MatEnd (w : World) (bd : Nat) (r : Option (Mat × List Tq)) (e : Ending) (w' : World) : Prop := match r with
 | none => (∃ a b c, e = .returned (.tuple #[.agg #[.string a, .int .i64 b, .string c], .bool false])) /\ w.grownBy w' (some bd)
 | some (x, m) => e = .returned (.tuple #[.agg #[.string x.1, .int .i64 x.2.1, .string x.2.2], .bool true]) /\ Rd w' bd m /\ w.grownBy w' (some bd)
def Box3 (w : World) (k : Nat) (a b c : Value) (t : TypeId) : Prop := w.heap[k]? = some (.cells #[a, b, c] t (0, 0))
theorem Box3.reads {w : World} {k : Nat} {a b c : Value} {t : TypeId} (h : Box3 w k a b c t) : w.cell? ⟨k, 0, none⟩ = some a /\ w.cell? ⟨k, 1, none⟩ = some b /\ w.cell? ⟨k, 2, none⟩ = some c /\ w.frozen? ⟨k, 0, none⟩ = false /\ w.frozen? ⟨k, 1, none⟩ = false /\ w.frozen? ⟨k, 2, none⟩ = false := by
 unfold Box3 at h
 refine ⟨?_, ?_, ?_, ?_, ?_, ?_⟩ <;> simp [World.cell?, World.frozen?, h]
theorem zaa {w0 w : World} {bd k : Nat} {o : Obj} (h : w0.heap[k]? = some o) (hg : w0.grownBy w (some bd)) (hne : k ≠ bd) : w.heap[k]? = some o :=
 (hg.block k (Array.getElem?_eq_some_iff.1 h).1 (by simpa using hne)).trans h
theorem matcher_any (bd : Nat) (l : List Tq) (w : World) (h : Rd w bd l) :
 Calls Tryz.prog 153 #[.pointer (some ⟨bd, 0, none⟩)] w (MatEnd w bd (matP l)) := by
 have hfar := h.lt
 have hE := zhV l
 obtain ⟨T, hT⟩ : ∃ T, matP l = T := ⟨_, rfl⟩
 rw [hT] at hE ⊢
 have HN := zh (fun W (hr : Rd W bd l) => nameT_any bd l W hr)
 obtain ⟨l1, h1⟩ : ∃ x, zb8 1 l = x := ⟨_, rfl⟩
 obtain ⟨nm, hn⟩ : ∃ x, zcx 1 l = x := ⟨_, rfl⟩
 obtain ⟨p, hp⟩ : ∃ x, isK 1 l = x := ⟨_, rfl⟩
 rw [h1, hn, hp] at HN
 rw [h1, hn, hp] at hE
 have HS := zh (fun W (hr : Rd W bd l1) => zhi bd l1 5 W hr)
 obtain ⟨l2, h2⟩ : ∃ x, zb8 5 l1 = x := ⟨_, rfl⟩
 obtain ⟨sg, hs⟩ : ∃ x, zcx 5 l1 = x := ⟨_, rfl⟩
 obtain ⟨q0, hq0⟩ : ∃ x, isK 5 l1 = x := ⟨_, rfl⟩
 rw [h2, hs, hq0] at HS
 rw [h2, hs] at hE
 have HO := zh (fun W => opOf_any sg W)
 obtain ⟨op, ho⟩ : ∃ x, opS sg.data.toList = x := ⟨_, rfl⟩
 rw [ho] at HO hE
 obtain ⟨q, hq⟩ : ∃ x, decide (op ≠ 0) = x := ⟨_, rfl⟩
 rw [hq] at HO hE
 have HV := zh (fun W (hr : Rd W bd l2) => zhi bd l2 3 W hr)
 obtain ⟨l3, h3⟩ : ∃ x, zb8 3 l2 = x := ⟨_, rfl⟩
 obtain ⟨vl, hv⟩ : ∃ x, zcx 3 l2 = x := ⟨_, rfl⟩
 obtain ⟨r, hr⟩ : ∃ x, isK 3 l2 = x := ⟨_, rfl⟩
 rw [h3, hv, hr] at HV
 rw [h3, hv, hr] at hE
 have HE := zh hE
 have HR := zh (h.alloc (Obj.cells #[.string ⟨#[]⟩, .int .i64 0, .string ⟨#[]⟩] 40))
 have HBX := zh (show Box3 (w.alloc (Obj.cells #[.string ⟨#[]⟩, .int .i64 0, .string ⟨#[]⟩] 40)) w.heap.size (.string ⟨#[]⟩) (.int .i64 0) (.string ⟨#[]⟩) 40 from Array.getElem?_push_size)
 have HG0 := zh (grown_alloc (grown_refl w (some bd)) (Obj.cells #[.string ⟨#[]⟩, .int .i64 0, .string ⟨#[]⟩] 40))
 clear h hE hT h1 hn hp h2 hs hq0 ho hq h3 hv hr
 go_enter Tryz.func153, Tryz.ntmps153
 go_wp2_with fail
 refine (HN.out _ HR.out).mono ?_
 rintro e w1 ⟨rfl, hr1, hg1⟩
 have HR1 := zh hr1
 have HG1 := zh (grown_trans HG0.out hg1)
 have HB1 := zh (zaa HBX.out hg1 (by omega))
 clear hr1 hg1
 go_wp2_with fail
 refine (HS.out _ HR1.out).mono ?_
 rintro e w2 ⟨rfl, hr2, hg2⟩
 have HR2 := zh hr2
 have HG2 := zh (grown_trans HG1.out hg2)
 have HB2 := zh (zaa HB1.out hg2 (by omega))
 clear hr2 hg2
 go_wp2_with fail
 refine (HO.out w2).mono ?_
 rintro e w2' ⟨rfl, rfl⟩
 go_wp2_with fail
 refine (HV.out _ HR2.out).mono ?_
 rintro e w3 ⟨rfl, hr3, hg3⟩
 have HR3 := zh hr3
 have HG3 := zh (grown_trans HG2.out hg3)
 have HB3 := zh (show Box3 w3 w.heap.size (.string ⟨#[]⟩) (.int .i64 0) (.string ⟨#[]⟩) 40 from zaa HB2.out hg3 (by omega))
 obtain ⟨q1, q2, q3, q4, q5, q6⟩ := HB3.out.reads
 clear hr3 hg3
 have HGF := zh (fun (a b c : Value) => grown_setNew (grown_setNew (grown_setNew HG3.out (Nat.le_refl _) 0 a) (Nat.le_refl _) 1 b) (Nat.le_refl _) 2 c)
 have HRF := zh (fun (a b c : Value) => (show Rd (((w3.setCell ⟨w.heap.size, 0, none⟩ a).setCell ⟨w.heap.size, 1, none⟩ b).setCell ⟨w.heap.size, 2, none⟩ c) bd l3 from HR3.out.keep fun k hk => by
  rw [Below.heap_setCell _ _ _ _ (by show k ≠ w.heap.size; omega), Below.heap_setCell _ _ _ _ (by show k ≠ w.heap.size; omega), Below.heap_setCell _ _ _ _ (by show k ≠ w.heap.size; omega)]))
 cases p <;> cases q <;> cases r
 all_goals
  go_wp2
  refine bodyPost_ret (v := .tuple #[.agg #[.string nm, .int .i64 (op : Nat), .string vl], .bool _]) (by simp [results, Tryz.results153, go_sem, q1, q2, q3]; rfl) rfl ?_
  rw [HE.out]
  first
   | exact ⟨⟨_, _, _, rfl⟩, HGF.out _ _ _⟩
   | exact ⟨rfl, HRF.out _ _ _, HGF.out _ _ _⟩
end Go.Proofs.YtbcemjhaecelnaaGreatDoor.Par
end
section
namespace Go.Proofs.YtbcemjhaecelnaaGreatDoor.Par
open Go.RowKit Go.Lib
open Go.Proofs.YtbcemjhaecelnaaGreatDoor.Sto
theorem ziT : (Tryz.prog.info? 40).map (fun i => (i.zero, i.size, i.bytes)) = some (some (.agg #[.string ⟨#[]⟩, .int .i64 0, .string ⟨#[]⟩]), 3, 40) := by kernel_rfl
theorem zcP (w : World) (a b c : Value) (t : TypeId) (k : Nat) (hk : w.heap.size = k) : ∀ j u, [a, b, c][j]? = some u -> (w.alloc (.cells #[a, b, c] t)).cell? ((⟨k, 0, none⟩ : Addr).add j) = some u := by
 subst hk
 intro j u hj
 match j, hj with
 | 0, hj => simp at hj; subst hj; simp [Addr.add]
 | 1, hj => simp at hj; subst hj; simp [Addr.add]
 | 2, hj => simp at hj; subst hj; simp [Addr.add]
 | j + 3, hj => simp at hj
theorem zdH (a c : ByteArray) (b : Int) : ∀ v ∈ [Value.string a, .int .i64 b, .string c], v.oneCell' = true := by
 intro v hv; simp at hv; rcases hv with rfl | rfl | rfl <;> rfl
theorem zfh {k : Nat} {l : List Tq} (h : ∀ s ∈ l, TokOk s) : (zcx k l).size <= 1000 := by
 cases l with
 | nil => show (0 : Nat) <= _; omega
 | cons x t =>
   by_cases hx : x.1 = k
   ·rw [zcO hx]
    have := (h x (by simp)).few
    show (⟨x.2.toArray⟩ : ByteArray).size <= 1000
    rw [show (⟨x.2.toArray⟩ : ByteArray).size = x.2.length by simp [ByteArray.size]]; exact this
   ·have : isK k (x :: t) = false := by simpa [isK] using hx
    rw [zfG this]; show (0 : Nat) <= _; omega
theorem zhj {k : Nat} {l : List Tq} (h : ∀ s ∈ l, TokOk s) : ∀ s ∈ zb8 k l, TokOk s := by
 unfold zb8
 split
 ·exact fun s hs => h s (List.mem_of_mem_tail hs)
 ·exact h
theorem matP_ok {l : List Tq} {x : Mat} {m : List Tq} (h : matP l = some (x, m)) (hl : ∀ s ∈ l, TokOk s) : x.Ok := by
 rw [zhV] at h
 split at h
 ·injection h with h; injection h with e1 _; subst e1
  have h1 := zfh (k := 1) hl
  have h3 := zfh (k := 3) (zhj (k := 5) (zhj (k := 1) hl))
  exact ⟨by show (zcx 1 l).size <= _; omega, by show (zcx 3 _).size <= _; omega⟩
 ·cases h
def MatsEnd (w : World) (bd : Nat) (r : Option (List Mat × List Tq)) (e : Ending) (w' : World) : Prop := match r with
 | none => (∃ o n c, e = .returned (.tuple #[.slice o n c, .bool false])) /\ w.grownBy w' (some bd)
 | some (xs, m) => (∃ o n c, e = .returned (.tuple #[.slice o n c, .bool true]) /\ xs.length = n /\ n <= 1000000 /\ za2 w' (fun b => w.heap.size <= b) o 3 (xs.map encM)) /\ (∀ x ∈ xs, x.Ok) /\ Rd w' bd m /\ w.grownBy w' (some bd)
def zfH (w0 : World) (bd : Nat) (stop : List UInt8) (T : Option (List Mat × List Tq)) (k : Nat) (v : Value) (wr : World) : Prop := ∃ (l : List Tq) (acc : List Mat) (n : Nat), l.length = k /\ k < n /\ Rd wr bd l /\ w0.grownBy wr (some bd) /\ wr.ownsRow w0.heap.size 40 3 v acc.length (acc.flatMap encM) /\ zaE matP stop n l acc = T /\ acc.length + l.length <= 1000000 /\ bd < w0.heap.size /\ ∀ x ∈ acc, x.Ok
theorem mats_any (bd : Nat) (l : List Tq) (stop : ByteArray) (w : World) (h : Rd w bd l) :
 Calls Tryz.prog 152 #[.pointer (some ⟨bd, 0, none⟩), .string stop, .func (.func 153) #[.pointer (some ⟨bd, 0, none⟩)] #[]] w (MatsEnd w bd (zbe matP stop.data.toList l)) := by
 obtain ⟨ie, hi, hz0, hz1, hz2⟩ := info_parts ziT
 have hfar := h.lt
 cases hst : isT 5 stop.data.toList l with
 | true =>
   have HT := zh (show zbe matP stop.data.toList l = some ([], l.tail) by unfold zbe; rw [if_pos hst])
   have HS := zh (za9 bd l stop hst w h)
   rw [HT.out]
   clear h hst
   go_enter Tryz.func152, Tryz.ntmps152
   go_wp2_with fail
   refine HS.out.mono ?_
   rintro e w1 ⟨rfl, hr, hg⟩
   have HR := zh (And.intro hr hg)
   clear hr hg
   go_wp2
   go_ret2
   exact ⟨⟨none, 0, 0, rfl, rfl, by decide, .inl rfl⟩, (fun x hx => absurd hx (by simp)), HR.out⟩
 | false =>
   obtain ⟨T, hT⟩ : ∃ T, zbe matP stop.data.toList l = T := ⟨_, rfl⟩
   have HST : zfH w bd stop.data.toList T l.length (.slice none 0 0) w := ⟨l, [], l.length + 1, rfl, by omega, h, grown_refl _ _, World.ownsRow_nil _ _ _ _, by rw [<- hT]; unfold zbe; rw [if_neg (by rw [hst]; simp)], by have := h.few; simpa using this, hfar, (fun x hx => absurd hx (by simp))⟩
   have HS := zh (zbR bd l stop hst w h)
   rw [hT]
   clear h hst hT
   go_enter Tryz.func152, Tryz.ntmps152
   go_wp2_with fail
   refine HS.out.mono ?_
   rintro e w1 ⟨rfl, rfl⟩
   go_wp2_with fail
   go_loopg [8] l.length (fun k v wr => zfH w bd stop.data.toList T k v wr)
   case atStart => exact HST
   case round =>
    clear HST
    obtain ⟨l2, acc, n, rfl, hn, hr, hg, hown, hTT, hfew, _, hoks⟩ := hrel
    obtain ⟨n, rfl⟩ : ∃ k, n = k + 1 := ⟨n - 1, by omega⟩
    rw [zaE] at hTT
    have HR := zh hr
    have HG := zh hg
    have HO := zh hown
    have HOK := zh hoks
    obtain ⟨ov, cv, hv⟩ := own_shape hown
    have HM := zh (matcher_any bd l2 wr hr)
    cases hk : matP l2 with
    | none =>
      rw [hk] at hTT HM
      have HT := zh (show none = T from hTT)
      clear hr hg hown hTT hk hv hoks
      go_wp2_with fail
      refine HM.out.mono ?_
      rintro e w2 ⟨⟨a, b, c, rfl⟩, hg2⟩
      have HG2 := zh (grown_trans HG.out hg2)
      clear hg2
      go_wp2
      go_ret2
      rw [<- HT.out]
      exact ⟨⟨_, _, _, rfl⟩, grown_alloc HG2.out _⟩
    | some p =>
      obtain ⟨x, m⟩ := p
      have hml := zhI l2 x m hk
      have HXO := zh (matP_ok hk hr.ok)
      rw [hk] at hTT HM
      dsimp only at hTT
      have HT := zh hTT
      have hsz := hg.size
      have hfm : acc.length <= 1000000 := by omega
      obtain ⟨xa, xb, xc⟩ := x
      clear hr hg hown hTT hk hoks
      subst hv
      go_wp2_with fail
      refine HM.out.mono ?_
      rintro e w2 ⟨rfl, hr2, hg2⟩
      have HR2 := zh ((hr2.alloc (Obj.cells #[.string xa, .int .i64 xb, .string xc] 40)).alloc (Obj.cells #[.string xa, .int .i64 xb, .string xc] 40))
      have HG2 := zh (grown_alloc (grown_alloc (grown_trans HG.out hg2) (Obj.cells #[.string xa, .int .i64 xb, .string xc] 40)) (Obj.cells #[.string xa, .int .i64 xb, .string xc] 40))
      have HO2 := zh (((own_past HO.out hg2 hfar).alloc (Obj.cells #[.string xa, .int .i64 xb, .string xc] 40)).alloc (Obj.cells #[.string xa, .int .i64 xb, .string xc] 40))
      have hsz2 := hg2.size
      clear hr2 hg2
      go_wp2_with (at_builtin; go_must (refine wpList_append_own _ rfl _ _ 24 rfl w.heap.size 40 ie (.agg #[.string ⟨#[]⟩, .int .i64 0, .string ⟨#[]⟩]) 3 40 Tryz.underlying24 hi hz0 hz1 hz2 rfl (by decide) _ _ _ rfl HO2.out ⟨w2.heap.size + 1, 0, none⟩ 1 1 [.string xa, .int .i64 xb, .string xc] rfl rfl (zcP _ _ _ _ _ _ (by simp)) (zdH _ _ _) (by unfold maxLen; omega) (by omega) (by simp; omega) ?_); intro v' w5 hown' hgrow' hnil'; have HO5 := zh hown'; have HG5 := zh (grown_own HG2.out hgrow' (fun k hk => (HO2.out.lt k hk).1)); have HR5 := zh (HR2.out.grownOwn hgrow' (fun k hk => Nat.lt_of_lt_of_le hfar (HO2.out.lt k hk).1)); clear hown' hgrow' hnil')
      have HO6 := zh (show w5.ownsRow w.heap.size 40 3 v' (acc ++ [(xa, xb, xc)]).length ((acc ++ [(xa, xb, xc)]).flatMap encM) by
       rw [List.length_append, List.flatMap_append]; exact HO5.out)
      have HOK6 := zh (show ∀ x ∈ acc ++ [(xa, xb, xc)], Mat.Ok x by
       intro x hx
       rcases List.mem_append.1 hx with hx | hx
       ·exact HOK.out x hx
       ·simp at hx; subst hx; exact HXO.out)
      clear HO5
      cases hc : isT 5 [44] m with
      | true =>
        have HT2 := zh (show zaE matP stop.data.toList n m.tail (acc ++ [(xa, xb, xc)]) = T by
         have := HT.out; rw [if_pos hc] at this; exact this)
        have HSG := zh (za9 bd m ⟨#[44]⟩ hc w5 HR5.out)
        have hml2 := zaw hc
        clear hc
        go_wp2_with fail
        refine HSG.out.mono ?_
        rintro e w6 ⟨rfl, hr6, hg6⟩
        have HL := zh (show zfH w bd stop.data.toList T m.tail.length v' w6 from ⟨m.tail, acc ++ [(xa, xb, xc)], n, rfl, by omega, hr6, grown_trans HG5.out hg6, own_past HO6.out hg6 hfar, HT2.out, by rw [List.length_append]; show acc.length + 1 + m.tail.length <= 1000000; omega, hfar, HOK6.out⟩)
        clear hr6 hg6
        go_wp2
        go_roundg m.tail.length
        case measure => omega
        case rel => exact HL.out
      | false =>
        have HSG := zh (zbR bd m ⟨#[44]⟩ hc w5 HR5.out)
        obtain ⟨ov2, cv2, hv2⟩ := own_shape HO6.out
        subst hv2
        cases hs : isT 5 stop.data.toList m with
        | true =>
          have HT2 := zh (show some (acc ++ [(xa, xb, xc)], m.tail) = T by
           have := HT.out; rw [if_neg (by rw [hc]; simp), if_pos hs] at this; exact this)
          have HSH := zh (za9 bd m stop hs w5 HR5.out)
          clear hc hs
          go_wp2_with fail
          refine HSG.out.mono ?_
          rintro e w6 ⟨rfl, rfl⟩
          go_wp2_with fail
          refine HSH.out.mono ?_
          rintro e w6 ⟨rfl, hr6, hg6⟩
          have HE := zh (show za2 w6 (fun b => w.heap.size <= b) ov2 3 ((acc ++ [(xa, xb, xc)]).map encM) /\ Rd w6 bd m.tail /\ w.grownBy w6 (some bd) from ⟨zdy encM (fun _ => rfl) (own_past HO6.out hg6 hfar) (fun _ h => h), hr6, grown_trans HG5.out hg6⟩)
          clear hr6 hg6
          go_wp2
          go_ret2
          rw [<- HT2.out]
          exact ⟨⟨_, _, _, rfl, by rw [List.length_append]; rfl, by omega, HE.out.1⟩, HOK6.out, HE.out.2⟩
        | false =>
          have HT2 := zh (show none = T by
           have := HT.out; rw [if_neg (by rw [hc]; simp), if_neg (by rw [hs]; simp)] at this; exact this)
          have HSH := zh (zbR bd m stop hs w5 HR5.out)
          clear hc hs
          go_wp2_with fail
          refine HSG.out.mono ?_
          rintro e w6 ⟨rfl, rfl⟩
          go_wp2_with fail
          refine HSH.out.mono ?_
          rintro e w6 ⟨rfl, rfl⟩
          go_wp2
          go_ret2
          rw [<- HT2.out]
          exact ⟨⟨_, _, _, rfl⟩, HG5.out⟩
def zi8 (w : World) (bd : Nat) (r : Option (Nat × List Tq)) (e : Ending) (w' : World) : Prop := match r with
 | none => (∃ n, e = .returned (.tuple #[.int .i64 n, .bool false])) /\ w.grownBy w' (some bd)
 | some (n, m) => e = .returned (.tuple #[.int .i64 (n : Nat), .bool true]) /\ Rd w' bd m /\ w.grownBy w' (some bd)
theorem zfi (bd : Nat) (l : List Tq) (w : World) (h : Rd w bd l) :
 Calls Tryz.prog 155 #[.pointer (some ⟨bd, 0, none⟩)] w (zi8 w bd (za4 l)) := by
 cases h1 : isT 5 [91] l with
 | false =>
   have HT := zh (show za4 l = some (0, l) by unfold za4; rw [if_neg (by rw [h1]; simp)])
   have HS := zh (zbR bd l ⟨#[91]⟩ h1 w h)
   have HR := zh h
   rw [HT.out]
   clear h h1
   go_enter Tryz.func155, Tryz.ntmps155
   go_wp2_with fail
   refine HS.out.mono ?_
   rintro e w1 ⟨rfl, rfl⟩
   go_wp2
   go_ret2
   exact ⟨rfl, HR.out, grown_refl _ _⟩
 | true =>
   have HS := zh (za9 bd l ⟨#[91]⟩ h1 w h)
   have hT : za4 l = match numP 4 l.tail with | none => none | some (n, m) => if isT 5 [93] m then some (n, m.tail) else none := by unfold za4; rw [if_pos h1]; rfl
   obtain ⟨l1, hl1⟩ : ∃ l1, l.tail = l1 := ⟨_, rfl⟩
   rw [hl1] at HS hT
   obtain ⟨T, hTT⟩ : ∃ T, za4 l = T := ⟨_, rfl⟩
   rw [hTT] at hT ⊢
   clear h h1 hTT hl1
   cases hk : isK 4 l1 with
   | false =>
     have hnp : numP 4 l1 = none := by
      cases l1 with
      | nil => rfl
      | cons x m => show (if x.1 = 4 then _ else none) = _; rw [if_neg]; simpa [isK] using hk
     rw [hnp] at hT
     have HT := zh hT
     have HN := zh (fun W (hr : Rd W bd l1) => zdx bd l1 4 hk W hr)
     clear hT hk hnp
     go_enter Tryz.func155, Tryz.ntmps155
     go_wp2_with fail
     refine HS.out.mono ?_
     rintro e w1 ⟨rfl, hr, hg⟩
     have HG := zh hg
     have HNN := zh (HN.out w1 hr)
     clear hr hg
     go_wp2_with fail
     refine HNN.out.mono ?_
     rintro e w2 ⟨rfl, _, hg2⟩
     have HG2 := zh (grown_trans HG.out hg2)
     clear hg2
     go_wp2
     go_ret2
     rw [HT.out]
     exact ⟨⟨_, rfl⟩, HG2.out⟩
   | true =>
     obtain ⟨x, m, rfl, hx⟩ := zaN hk
     have hnp : numP 4 (x :: m) = some (valL x.2, m) := by show (if x.1 = 4 then _ else none) = _; rw [if_pos hx]
     rw [hnp] at hT
     dsimp only at hT
     have HN := zh (fun W (hr : Rd W bd (x :: m)) => zcN bd x m 4 hx (.inr rfl) W hr)
     obtain ⟨v, hv⟩ : ∃ v, valL x.2 = v := ⟨_, rfl⟩
     rw [hv] at HN hT
     cases hc : isT 5 [93] m with
     | false =>
       rw [if_neg (by rw [hc]; simp)] at hT
       have HT := zh hT
       have HC := zh (fun W (hr : Rd W bd m) => zbR bd m ⟨#[93]⟩ hc W hr)
       clear hT hk hnp hc hv
       go_enter Tryz.func155, Tryz.ntmps155
       go_wp2_with fail
       refine HS.out.mono ?_
       rintro e w1 ⟨rfl, hr, hg⟩
       have HG := zh hg
       have HNN := zh (HN.out w1 hr)
       clear hr hg
       go_wp2_with fail
       refine HNN.out.mono ?_
       rintro e w2 ⟨rfl, hr2, hg2⟩
       have HG2 := zh (grown_trans HG.out hg2)
       have HCC := zh (HC.out w2 hr2)
       clear hg2 hr2
       go_wp2_with fail
       refine HCC.out.mono ?_
       rintro e w3 ⟨rfl, rfl⟩
       go_wp2
       go_ret2
       rw [HT.out]
       exact ⟨⟨_, rfl⟩, HG2.out⟩
     | true =>
       rw [if_pos hc] at hT
       have HT := zh hT
       have HC := zh (fun W (hr : Rd W bd m) => za9 bd m ⟨#[93]⟩ hc W hr)
       clear hT hk hnp hc hv
       go_enter Tryz.func155, Tryz.ntmps155
       go_wp2_with fail
       refine HS.out.mono ?_
       rintro e w1 ⟨rfl, hr, hg⟩
       have HG := zh hg
       have HNN := zh (HN.out w1 hr)
       clear hr hg
       go_wp2_with fail
       refine HNN.out.mono ?_
       rintro e w2 ⟨rfl, hr2, hg2⟩
       have HG2 := zh (grown_trans HG.out hg2)
       have HCC := zh (HC.out w2 hr2)
       clear hg2 hr2
       go_wp2_with fail
       refine HCC.out.mono ?_
       rintro e w3 ⟨rfl, hr3, hg3⟩
       have HE := zh (And.intro hr3 (grown_trans HG2.out hg3))
       clear hr3 hg3
       go_wp2
       go_ret2
       rw [HT.out]
       exact ⟨rfl, HE.out⟩
end Go.Proofs.YtbcemjhaecelnaaGreatDoor.Par
end
end
