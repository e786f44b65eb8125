import Derived.Test.YtbcemjhaecelnaaGreatDoorMg16
import Derived.Laws.StructEq
import Derived.BigQuiet
import Derived.Deep.CutRange
import Derived.Deep.RegionWith
import Derived.Test.YtbcemjhaecelnaaGreatDoorMg22
import Derived.Test.YtbcemjhaecelnaaGreatDoorMg25
import Derived.Laws.IdiomStrings
import Derived.Lib.ItoaLen
import Derived.Test.YtbcemjhaecelnaaGreatDoorMg24
section
set_option maxHeartbeats 1000000
section
namespace Go.Proofs.YtbcemjhaecelnaaGreatDoor.Par
open Go.RowKit Go.Lib Sto
theorem Nod.open7 {w : World} {P : Nat -> Prop} {a b : ByteArray} {z m : Int} {o1 : Option Addr} {k1 c1 : Nat} {o2 : Option Addr} {k2 c2 : Nat} {o3 : Option Addr} {k3 c3 : Nat} {x : Ex} (h : Nod w P [.string a, .string b, .int .i64 z, .int .i64 m, .slice o1 k1 c1, .slice o2 k2 c2, .slice o3 k3 c3] x) :
 (a = opE x /\ b = zfC x /\ z = nE x /\ m = zfD x) /\ ((zb7 x).length = k1 /\ (zcD x).length = k2 /\ (zaO x).length = k3) /\ za2 w P o1 1 ((zb7 x).map encN) /\ za2 w P o2 3 ((zcD x).map encM) /\ ∃ css : List (List Value), css.length = k3 /\ za2 w P o3 7 css /\ ∀ (j : Nat) cs y, css[j]? = some cs -> (zaO x)[j]? = some y -> Nod w P cs y := by
 obtain ⟨cs, hcs⟩ : ∃ cs : List Value, [.string a, .string b, .int .i64 z, .int .i64 m, .slice o1 k1 c1, .slice o2 k2 c2, .slice o3 k3 c3] = cs := ⟨_, rfl⟩
 rw [hcs] at h
 cases h with
 | mk x n m o1' o2' o3' k1' c1' k2' c2' k3' c3' css hn hm h1 h2 h3 h4 s1 s2 s3 hk =>
   injection hcs with ea e; injection e with eb e; injection e with ez e; injection e with em e; injection e with e1 e; injection e with e2 e; injection e with e3 _
   injection ea with ea; injection eb with eb; injection ez with _ ez; injection em with _ em
   injection e1 with e11 e12 _; injection e2 with e21 e22 _; injection e3 with e31 e32 _
   subst e11; subst e12; subst e21; subst e22; subst e31; subst e32
   exact ⟨⟨ea, eb, ez.trans hn, em.trans hm⟩, ⟨h1.1, h2, h3⟩, s1, s2, css, h4, s3, hk⟩
theorem za2.at {w : World} {P : Nat -> Prop} {o : Option Addr} {k : Nat} {rows : List (List Value)} (h : za2 w P o k rows) {j : Nat} {cs : List Value} (hj : rows[j]? = some cs) : ∃ b off, o = some ⟨b, off, none⟩ /\ b < w.heap.size /\ ∀ (i : Nat) v, cs[i]? = some v -> w.cell? ⟨b, off + j * k + i, none⟩ = some v := by
 rcases h with h | ⟨b, off, rfl, _, hl, hs⟩
 ·rw [h] at hj; simp at hj
 ·exact ⟨b, off, rfl, hl, hs j cs hj⟩
theorem zif {s t : ByteArray} (h : s ≠ t) : ¬ s.toList = t.toList /\ (s.toList == t.toList) = false /\ (s.toList != t.toList) = true := by
 have h1 : ¬ s.toList = t.toList := fun e => h (by
  rw [ByteArray.toList_eq, ByteArray.toList_eq] at e
  cases s; cases t; simp at e; subst e; rfl)
 exact ⟨h1, by simp [h1], by simp [h1]⟩
def Upto {α : Type} (xs ys : List α) (k : Nat) : Prop := ∀ j, j < k -> xs[j]? = ys[j]?
theorem Upto.zero {α : Type} (xs ys : List α) : Upto xs ys 0 := fun j h => by omega
theorem Upto.succ {α : Type} {xs ys : List α} {k : Nat} (h : Upto xs ys k) (e : xs[k]? = ys[k]?) : Upto xs ys (k + 1) := fun j hj => by
 by_cases hk : j = k
 ·subst hk; exact e
 ·exact h j (by omega)
theorem Upto.all {α : Type} {xs ys : List α} {k : Nat} (h : Upto xs ys k) (h1 : xs.length = k) (h2 : ys.length = k) : xs = ys :=
 List.ext_getElem? fun j => by
  by_cases hj : j < k
  ·exact h j hj
  ·rw [List.getElem?_eq_none (by omega), List.getElem?_eq_none (by omega)]
theorem zig {w wr : World} (h : ∃ q, wr = w.drewN q) : Below w.heap.size w wr := by
 obtain ⟨q, rfl⟩ := h
 exact ⟨rfl, rfl, rfl, Nat.le_refl _, fun _ _ => rfl⟩
def eqM (x y : Mat) : Bool := x.1.toList == y.1.toList && (x.2.1 == y.2.1 && x.2.2.toList == y.2.2.toList)
theorem eqM_refl (x : Mat) : eqM x x = true := by simp [eqM]
theorem eqM_eq {x y : Mat} (h : eqM x y = true) : x = y := by
 unfold eqM at h
 simp only [Bool.and_eq_true, beq_iff_eq] at h
 obtain ⟨h1, h2, h3⟩ := h
 have k : ∀ {s t : ByteArray}, s.toList = t.toList -> s = t := fun {s t} e => by
  rw [ByteArray.toList_eq, ByteArray.toList_eq] at e
  cases s; cases t; simp at e; subst e; rfl
 exact Prod.ext (k h1) (Prod.ext h2 (k h3))
theorem equalInM (x y : Mat) (w : World) : (Op.equalIn 10000 40 (.agg #[.string x.1, .int .i64 x.2.1, .string x.2.2]) (.agg #[.string y.1, .int .i64 y.2.1, .string y.2.2])).run Tryz.prog w = .ok (eqM x y) w := by
 have u9 := Tryz.underlying9
 have a9 := Tryz.isAgg9
 have z9 := Tryz.sizeOf9
 have u8 := Tryz.underlying3
 have a8 := Tryz.isAgg3
 have z8 := Tryz.sizeOf3
 have hS : Tryz.prog.underlying 40 = some (.struct (Tryz.prog.fieldsOf 40)) := by kernel_rfl
 have hp : Tryz.prog.stoodInHeld 40 = false := by kernel_rfl
 rw [show (10000 : Nat) = 9999 + 1 from rfl, run_equalIn_agg w 9999 40 _ _ hS hp]
 simp only [Program.fieldsOf, Tryz.underlying40]
 go_simp
 unfold eqM
 cases h1 : x.1.toList == y.1.toList <;> cases h3 : x.2.1 == y.2.1 <;> cases h2 : x.2.2.toList == y.2.2.toList <;> simp_all
def Few : Ex -> Prop
 | .num _ => True
 | .neg x => Few x
 | .bin _ _ names l r => names.length <= 1000000 /\ Few l /\ Few r
 | .agg _ _ _ names x => names.length <= 1000000 /\ Few x
 | .fn _ x => Few x
 | .sel _ _ ms => ms.length <= 1000000
theorem Few.own {x : Ex} (h : Few x) : (zb7 x).length <= 1000000 /\ (zcD x).length <= 1000000 /\ (zaO x).length <= 1000000 := by
 cases x <;> simp [zb7, zcD, zaO] <;> simp [Few] at h <;> omega
theorem Few.kids {x y : Ex} (h : Few x) (hy : y ∈ zaO x) : Few y := by
 cases x <;> simp [zaO] at hy
 ·subst hy; exact h
 ·rcases hy with rfl | rfl
  ·exact h.2.1
  ·exact h.2.2
 ·subst hy; exact h.2
 ·subst hy; exact h
def ziV (f : Nat) (x y : Ex) : Prop := ∀ (P Q : Nat -> Prop) (w : World) (a b : ByteArray) (z m : Int) (o1 : Option Addr) (k1 c1 : Nat) (o2 : Option Addr) (k2 c2 : Nat) (o3 : Option Addr) (k3 c3 : Nat) (a' b' : ByteArray) (z' m' : Int) (o1' : Option Addr) (k1' c1' : Nat) (o2' : Option Addr) (k2' c2' : Nat) (o3' : Option Addr) (k3' c3' : Nat), Nod w P [.string a, .string b, .int .i64 z, .int .i64 m, .slice o1 k1 c1, .slice o2 k2 c2, .slice o3 k3 c3] x -> Nod w Q [.string a', .string b', .int .i64 z', .int .i64 m', .slice o1' k1' c1', .slice o2' k2' c2', .slice o3' k3' c3'] y -> Calls Tryz.prog f #[.agg #[.string a, .string b, .int .i64 z, .int .i64 m, .slice o1 k1 c1, .slice o2 k2 c2, .slice o3 k3 c3], .agg #[.string a', .string b', .int .i64 z', .int .i64 m', .slice o1' k1' c1', .slice o2' k2' c2', .slice o3' k3' c3']] w fun e w' => e = .returned (.bool (decide (x = y))) /\ Below w.heap.size w w'
end Go.Proofs.YtbcemjhaecelnaaGreatDoor.Par
end
end

section
set_option maxHeartbeats 8000000
set_option maxRecDepth 100000
section
namespace Go.Proofs.YtbcemjhaecelnaaGreatDoor.Par
open Go.RowKit Go.Lib Sto
theorem eqS_any (o o' : Option Addr) (n c n' c' : Nat) (xs ys : List ByteArray) (P Q : Nat -> Prop) (w : World) (h1 : xs.length = n) (h2 : ys.length = n') (hn : n <= 1000000) (S1 : za2 w P o 1 (xs.map encN)) (S2 : za2 w Q o' 1 (ys.map encN)) :
 Calls Tryz.prog 27 #[.slice o n c, .slice o' n' c'] w fun e w' => e = .returned (.bool (decide (xs = ys))) /\ Below w.heap.size w w' := by
 have HL := zh (And.intro h1 h2)
 have HS1 := zh S1
 have HS2 := zh S2
 clear h1 h2 S1 S2
 by_cases hnn : n = n'
 rotate_left
 ·have hne : ¬ xs = ys := by rintro rfl; exact hnn (HL.out.1.symm.trans HL.out.2)
  have n0 : ¬ ((n : Nat) : Int) = ((n' : Nat) : Int) := by omega
  have n1 : (((n : Nat) : Int) != ((n' : Nat) : Int)) = true := by simp; omega
  clear hnn
  go_enter Tryz.func27, Tryz.ntmps27
  go_wp2
  go_ret
  exact ⟨by rw [decide_eq_false hne]; rfl, Below.refl _ _⟩
 subst hnn
 go_enter Tryz.func27, Tryz.ntmps27
 go_wp2
 go_loopw [13] (fun v wr => ∃ k : Nat, v = .int .i64 k /\ k <= n /\ Hid (Upto xs ys k) /\ Hid (Below w.heap.size w wr)) (fun v _ => n - (Go.RowKit.intOf v).toNat)
 case atStart => exact ⟨0, rfl, Nat.zero_le _, Upto.zero _ _, Below.refl _ _⟩
 case round =>
  obtain ⟨k, rfl, hkk, HU, HB⟩ := hrel
  by_cases hlt : k < n
  ·have j1 : (k : Int) < n := by omega
   obtain ⟨s, hs⟩ : ∃ s, xs[k]? = some s := ⟨_, List.getElem?_eq_getElem (by rw [HL.out.1]; exact hlt)⟩
   obtain ⟨t, ht⟩ : ∃ t, ys[k]? = some t := ⟨_, List.getElem?_eq_getElem (by rw [HL.out.2]; exact hlt)⟩
   obtain ⟨bb, off, rfl, hl1, hc1⟩ := HS1.out.at (j := k) (cs := encN s) (by rw [List.getElem?_map, hs]; rfl)
   obtain ⟨bb', off', rfl, hl2, hc2⟩ := HS2.out.at (j := k) (cs := encN t) (by rw [List.getElem?_map, ht]; rfl)
   have c0 := (HB.out.cell (p := ⟨bb, off + k * 1 + 0, none⟩) hl1).trans (hc1 0 _ rfl)
   have d0 := (HB.out.cell (p := ⟨bb', off' + k * 1 + 0, none⟩) hl2).trans (hc2 0 _ rfl)
   simp only [Nat.mul_one, Nat.add_zero] at c0 d0
   have HST := zh (And.intro hs ht)
   clear hc1 hc2 hs ht
   by_cases e : s = t
   ·have H2 := zh (HU.out.succ (HST.out.1.trans (by rw [e]; exact HST.out.2.symm)))
    subst e
    go_wp2_with fail
    go_quiet (fail)
    have HBq := zh (HB.out.trans ((zig (w := wr) ⟨nq, rfl⟩).mono HB.out.size))
    go_wp2
    go_roundw
    case rel => exact ⟨k + 1, by go_num, by omega, H2, HBq⟩
    case measure => simp [Go.RowKit.intOf]; omega
   ·have hne : ¬ xs = ys := by
     rintro rfl
     exact e (Option.some.inj (HST.out.1.symm.trans HST.out.2))
    obtain ⟨n1, n2, n3⟩ := zif e
    clear e
    go_wp2_with fail
    go_quiet (fail)
    have HBq := zh (HB.out.trans ((zig (w := wr) ⟨nq, rfl⟩).mono HB.out.size))
    go_wp2
    go_ret
    exact ⟨by rw [decide_eq_false hne]; rfl, HBq.out⟩
  ·have j1 : ¬ (k : Int) < n := by omega
   have HXY := zh (show xs = ys from (show Upto xs ys n by have := HU.out; rwa [show k = n by omega] at this).all HL.out.1 HL.out.2)
   clear HS1 HS2 HU
   go_wp2
   go_ret
   exact ⟨by rw [decide_eq_true HXY.out]; rfl, HB.out⟩
theorem eqMs_any (o o' : Option Addr) (n c n' c' : Nat) (xs ys : List Mat) (P Q : Nat -> Prop) (w : World) (h1 : xs.length = n) (h2 : ys.length = n') (hn : n <= 1000000) (S1 : za2 w P o 3 (xs.map encM)) (S2 : za2 w Q o' 3 (ys.map encM)) :
 Calls Tryz.prog 28 #[.slice o n c, .slice o' n' c'] w fun e w' => e = .returned (.bool (decide (xs = ys))) /\ Below w.heap.size w w' := by
 have HL := zh (And.intro h1 h2)
 have HS1 := zh S1
 have HS2 := zh S2
 clear h1 h2 S1 S2
 by_cases hnn : n = n'
 rotate_left
 ·have hne : ¬ xs = ys := by rintro rfl; exact hnn (HL.out.1.symm.trans HL.out.2)
  have n0 : ¬ ((n : Nat) : Int) = ((n' : Nat) : Int) := by omega
  have n1 : (((n : Nat) : Int) != ((n' : Nat) : Int)) = true := by simp; omega
  clear hnn
  go_enter Tryz.func28, Tryz.ntmps28
  go_wp2
  go_ret
  exact ⟨by rw [decide_eq_false hne]; rfl, Below.refl _ _⟩
 subst hnn
 go_enter Tryz.func28, Tryz.ntmps28
 go_wp2
 go_loopw [13] (fun v wr => ∃ k : Nat, v = .int .i64 k /\ k <= n /\ Hid (Upto xs ys k) /\ Hid (Below w.heap.size w wr)) (fun v _ => n - (Go.RowKit.intOf v).toNat)
 case atStart => exact ⟨0, rfl, Nat.zero_le _, Upto.zero _ _, Below.refl _ _⟩
 case round =>
  obtain ⟨k, rfl, hkk, HU, HB⟩ := hrel
  by_cases hlt : k < n
  ·have j1 : (k : Int) < n := by omega
   obtain ⟨s, hs⟩ : ∃ s, xs[k]? = some s := ⟨_, List.getElem?_eq_getElem (by rw [HL.out.1]; exact hlt)⟩
   obtain ⟨t, ht⟩ : ∃ t, ys[k]? = some t := ⟨_, List.getElem?_eq_getElem (by rw [HL.out.2]; exact hlt)⟩
   obtain ⟨bb, off, rfl, hl1, hc1⟩ := HS1.out.at (j := k) (cs := encM s) (by rw [List.getElem?_map, hs]; rfl)
   obtain ⟨bb', off', rfl, hl2, hc2⟩ := HS2.out.at (j := k) (cs := encM t) (by rw [List.getElem?_map, ht]; rfl)
   have c0 := (HB.out.cell (p := ⟨bb, off + k * 3 + 0, none⟩) hl1).trans (hc1 0 _ rfl)
   have d0 := (HB.out.cell (p := ⟨bb', off' + k * 3 + 0, none⟩) hl2).trans (hc2 0 _ rfl)
   have c1 := (HB.out.cell (p := ⟨bb, off + k * 3 + 1, none⟩) hl1).trans (hc1 1 _ rfl)
   have d1 := (HB.out.cell (p := ⟨bb', off' + k * 3 + 1, none⟩) hl2).trans (hc2 1 _ rfl)
   have c2 := (HB.out.cell (p := ⟨bb, off + k * 3 + 2, none⟩) hl1).trans (hc1 2 _ rfl)
   have d2 := (HB.out.cell (p := ⟨bb', off' + k * 3 + 2, none⟩) hl2).trans (hc2 2 _ rfl)
   simp only [Nat.add_zero] at c0 d0
   have HST := zh (And.intro hs ht)
   clear hc1 hc2 hs ht
   go_wp2_with fail
   have hq : Tryz.prog.eqGuardType Tryz.prog.depth 40 = false := by kernel_rfl
   have hS : Tryz.prog.underlying 40 = some (.struct (Tryz.prog.fieldsOf 40)) := by kernel_rfl
   have hp : Tryz.prog.stoodInHeld 40 = false := by kernel_rfl
   have hr : ∀ w, (Op.equalIn 10000 40 (.agg #[.string s.1, .int .i64 s.2.1, .string s.2.2]) (.agg #[.string t.1, .int .i64 t.2.1, .string t.2.2])).run Tryz.prog w = .ok (eqM s t) w := fun w => equalInM s t w
   go_quiet (fail)
   clear hq hS hp hr
   have HBq := zh (HB.out.trans ((zig (w := wr) ⟨nq, rfl⟩).mono HB.out.size))
   cases he : eqM s t with
   | true =>
     have H2 := zh (HU.out.succ (HST.out.1.trans (by rw [eqM_eq he]; exact HST.out.2.symm)))
     clear he
     go_wp2
     go_roundw
     case rel => exact ⟨k + 1, by go_num, by omega, H2, HBq⟩
     case measure => simp [Go.RowKit.intOf]; omega
   | false =>
     have hne : ¬ xs = ys := by
      rintro rfl
      obtain rfl := Option.some.inj (HST.out.1.symm.trans HST.out.2)
      rw [eqM_refl] at he; cases he
     clear he
     go_wp2
     go_ret
     exact ⟨by rw [decide_eq_false hne]; rfl, HBq.out⟩
  ·have j1 : ¬ (k : Int) < n := by omega
   have HXY := zh (show xs = ys from (show Upto xs ys n by have := HU.out; rwa [show k = n by omega] at this).all HL.out.1 HL.out.2)
   clear HS1 HS2 HU
   go_wp2
   go_ret
   exact ⟨by rw [decide_eq_true HXY.out]; rfl, HB.out⟩
theorem eqK_any (o o' : Option Addr) (n c n' c' : Nat) (xs ys : List Ex) (css css' : List (List Value)) (P Q : Nat -> Prop) (w : World) (h1 : xs.length = n) (h2 : ys.length = n') (h4 : css.length = n) (h4' : css'.length = n') (hn : n <= 1000000) (S1 : za2 w P o 7 css) (S2 : za2 w Q o' 7 css')
 (hk : ∀ (j : Nat) cs y, css[j]? = some cs -> xs[j]? = some y -> Nod w P cs y) (hk' : ∀ (j : Nat) cs y, css'[j]? = some cs -> ys[j]? = some y -> Nod w Q cs y) (IH : ∀ x ∈ xs, ∀ y, ziV 11 x y) :
 Calls Tryz.prog 29 #[.slice o n c, .slice o' n' c', .func (.func 11) #[] #[]] w fun e w' => e = .returned (.bool (decide (xs = ys))) /\ Below w.heap.size w w' := by
 have HL := zh (And.intro (And.intro h1 h2) (And.intro h4 h4'))
 have HS1 := zh S1
 have HS2 := zh S2
 have HK := zh hk
 have HK' := zh hk'
 have HIH := zh IH
 clear h1 h2 S1 S2 h4 h4' hk hk' IH
 by_cases hnn : n = n'
 rotate_left
 ·have hne : ¬ xs = ys := by rintro rfl; exact hnn (HL.out.1.1.symm.trans HL.out.1.2)
  have n0 : ¬ ((n : Nat) : Int) = ((n' : Nat) : Int) := by omega
  have n1 : (((n : Nat) : Int) != ((n' : Nat) : Int)) = true := by simp; omega
  clear hnn
  go_enter Tryz.func29, Tryz.ntmps29
  go_wp2
  go_ret
  exact ⟨by rw [decide_eq_false hne]; rfl, Below.refl _ _⟩
 subst hnn
 go_enter Tryz.func29, Tryz.ntmps29
 go_wp2
 go_loopw [17] (fun v wr => ∃ k : Nat, v = .int .i64 k /\ k <= n /\ Hid (Upto xs ys k) /\ Hid (Below w.heap.size w wr)) (fun v _ => n - (Go.RowKit.intOf v).toNat)
 case atStart => exact ⟨0, rfl, Nat.zero_le _, Upto.zero _ _, Below.refl _ _⟩
 case round =>
  obtain ⟨k, rfl, hkk, HU, HB⟩ := hrel
  by_cases hlt : k < n
  ·have j1 : (k : Int) < n := by omega
   obtain ⟨s, hs⟩ : ∃ s, xs[k]? = some s := ⟨_, List.getElem?_eq_getElem (by rw [HL.out.1.1]; exact hlt)⟩
   obtain ⟨t, ht⟩ : ∃ t, ys[k]? = some t := ⟨_, List.getElem?_eq_getElem (by rw [HL.out.1.2]; exact hlt)⟩
   obtain ⟨cs, hcs⟩ : ∃ cs, css[k]? = some cs := ⟨_, List.getElem?_eq_getElem (by rw [HL.out.2.1]; exact hlt)⟩
   obtain ⟨ct, hct⟩ : ∃ cs, css'[k]? = some cs := ⟨_, List.getElem?_eq_getElem (by rw [HL.out.2.2]; exact hlt)⟩
   have hnk := HK.out k cs s hcs hs
   have hnk' := HK'.out k ct t hct ht
   obtain ⟨ka, kb, kz, km, ko1, kk1, kc1, ko2, kk2, kc2, ko3, kk3, kc3, rfl⟩ := hnk.raw
   obtain ⟨ja, jb, jz, jm, jo1, jk1, jc1, jo2, jk2, jc2, jo3, jk3, jc3, rfl⟩ := hnk'.raw
   obtain ⟨bb, off, rfl, hl1, hc1⟩ := HS1.out.at hcs
   obtain ⟨bb', off', rfl, hl2, hc2⟩ := HS2.out.at hct
   have c0 := (HB.out.cell (p := ⟨bb, off + k * 7 + 0, none⟩) hl1).trans (hc1 0 _ rfl)
   have d0 := (HB.out.cell (p := ⟨bb', off' + k * 7 + 0, none⟩) hl2).trans (hc2 0 _ rfl)
   have c1 := (HB.out.cell (p := ⟨bb, off + k * 7 + 1, none⟩) hl1).trans (hc1 1 _ rfl)
   have d1 := (HB.out.cell (p := ⟨bb', off' + k * 7 + 1, none⟩) hl2).trans (hc2 1 _ rfl)
   have c2 := (HB.out.cell (p := ⟨bb, off + k * 7 + 2, none⟩) hl1).trans (hc1 2 _ rfl)
   have d2 := (HB.out.cell (p := ⟨bb', off' + k * 7 + 2, none⟩) hl2).trans (hc2 2 _ rfl)
   have c3 := (HB.out.cell (p := ⟨bb, off + k * 7 + 3, none⟩) hl1).trans (hc1 3 _ rfl)
   have d3 := (HB.out.cell (p := ⟨bb', off' + k * 7 + 3, none⟩) hl2).trans (hc2 3 _ rfl)
   have c4 := (HB.out.cell (p := ⟨bb, off + k * 7 + 4, none⟩) hl1).trans (hc1 4 _ rfl)
   have d4 := (HB.out.cell (p := ⟨bb', off' + k * 7 + 4, none⟩) hl2).trans (hc2 4 _ rfl)
   have c5 := (HB.out.cell (p := ⟨bb, off + k * 7 + 5, none⟩) hl1).trans (hc1 5 _ rfl)
   have d5 := (HB.out.cell (p := ⟨bb', off' + k * 7 + 5, none⟩) hl2).trans (hc2 5 _ rfl)
   have c6 := (HB.out.cell (p := ⟨bb, off + k * 7 + 6, none⟩) hl1).trans (hc1 6 _ rfl)
   have d6 := (HB.out.cell (p := ⟨bb', off' + k * 7 + 6, none⟩) hl2).trans (hc2 6 _ rfl)
   simp only [Nat.add_zero] at c0 d0
   have HB2 := zh (show Below wr.heap.size wr ((wr.alloc (Obj.cells #[.string ka, .string kb, .int .i64 kz, .int .i64 km, .slice ko1 kk1 kc1, .slice ko2 kk2 kc2, .slice ko3 kk3 kc3] 27)).alloc (Obj.cells #[.string ja, .string jb, .int .i64 jz, .int .i64 jm, .slice jo1 jk1 jc1, .slice jo2 jk2 jc2, .slice jo3 jk3 jc3] 27)) from ((Below.refl _ _).alloc (Nat.le_refl _) _).alloc (by simp) _)
   have HCA := zh (HIH.out s (List.mem_of_getElem? hs) t P Q _ _ _ _ _ _ _ _ _ _ _ _ _ _ _ _ _ _ _ _ _ _ _ _ _ _ _ ((hnk.under HB.out).under HB2.out) ((hnk'.under HB.out).under HB2.out))
   have HST := zh (And.intro hs ht)
   have HZ := HB.out.size
   have hbw1 : bb < wr.heap.size := by omega
   have hbw2 : bb' < wr.heap.size := by omega
   have x0 := HB.out.size
   clear hc1 hc2 hs ht hcs hct hnk hnk'
   obtain ⟨r, hr⟩ : ∃ r, decide (s = t) = r := ⟨_, rfl⟩
   rw [hr] at HCA
   go_wp2_with fail
   refine HCA.out.mono ?_
   rintro e w5 ⟨rfl, b5⟩
   have HB5 := zh (HB.out.trans ((HB2.out.trans (b5.mono HB2.out.size)).mono HB.out.size))
   clear b5
   cases r with
   | true =>
     have H2 := zh (HU.out.succ (HST.out.1.trans (by rw [of_decide_eq_true hr]; exact HST.out.2.symm)))
     go_wp2
     go_roundw
     case rel => exact ⟨k + 1, by go_num, by omega, H2, HB5⟩
     case measure => simp [Go.RowKit.intOf]; omega
   | false =>
     have hne : ¬ xs = ys := by
      rintro rfl
      exact of_decide_eq_false hr (Option.some.inj (HST.out.1.symm.trans HST.out.2))
     go_wp2
     go_ret
     exact ⟨by rw [decide_eq_false hne]; rfl, HB5.out⟩
  ·have j1 : ¬ (k : Int) < n := by omega
   have HXY := zh (show xs = ys from (show Upto xs ys n by have := HU.out; rwa [show k = n by omega] at this).all HL.out.1.1 HL.out.1.2)
   clear HS1 HS2 HU
   go_wp2
   go_ret
   exact ⟨by rw [decide_eq_true HXY.out]; rfl, HB.out⟩
theorem zgs : ∀ (n : Nat) (x y : Ex), countE x <= n -> Few x -> ziV 11 x y
 | 0, x, y, h, _ => by cases x <;> simp [countE] at h
 | n + 1, x, y, hx, hfw => by
   intro P Q w a b z m o1 k1 c1 o2 k2 c2 o3 k3 c3 a' b' z' m' o1' k1' c1' o2' k2' c2' o3' k3' c3' hN hN'
   obtain ⟨⟨ea, eb, ez, em⟩, ⟨l1, l2, l3⟩, s1, s2, css, h4, s3, hk⟩ := hN.open7
   obtain ⟨⟨ea', eb', ez', em'⟩, ⟨l1', l2', l3'⟩, s1', s2', css', h4', s3', hk'⟩ := hN'.open7
   obtain ⟨w2, hw2⟩ : ∃ w2, w2 = (w.alloc (Obj.cells #[.string a, .string b, .int .i64 z, .int .i64 m, .slice o1 k1 c1, .slice o2 k2 c2, .slice o3 k3 c3] 27)).alloc (Obj.cells #[.string a', .string b', .int .i64 z', .int .i64 m', .slice o1' k1' c1', .slice o2' k2' c2', .slice o3' k3' c3'] 27) := ⟨_, rfl⟩
   have hB2 : Below w.heap.size w w2 := by rw [hw2]; exact ((Below.refl _ _).alloc (Nat.le_refl _) _).alloc (by simp) _
   obtain ⟨hm1, hm2, hm3⟩ : k1 <= 1000000 /\ k2 <= 1000000 /\ k3 <= 1000000 := by rw [<- l1, <- l2, <- l3]; exact hfw.own
   have kp : ∀ {R : Nat -> Prop} {W : World}, Below w.heap.size w W -> ∀ b, R b -> b < w.heap.size -> W.heap[b]? = w.heap[b]? /\ R b := fun h b hr hl => ⟨h.block b hl, hr⟩
   have HE1 := zh (fun W (h : Below w.heap.size w W) => eqS_any o1 o1' k1 c1 k1' c1' (zb7 x) (zb7 y) P Q W l1 l1' hm1 (s1.keep (kp h)) (s1'.keep (kp h)))
   have HE2 := zh (fun W (h : Below w.heap.size w W) => eqMs_any o2 o2' k2 c2 k2' c2' (zcD x) (zcD y) P Q W l2 l2' hm2 (s2.keep (kp h)) (s2'.keep (kp h)))
   have HE3 := zh (fun W (h : Below w.heap.size w W) => eqK_any o3 o3' k3 c3 k3' c3' (zaO x) (zaO y) css css' P Q W l3 l3' h4 h4' hm3 (s3.keep (kp h)) (s3'.keep (kp h)) (fun j cs u hc hu => (hk j cs u hc hu).under h) (fun j cs u hc hu => (hk' j cs u hc hu).under h) (fun u hu v => zgs n u v (by have := zhQ hu; omega) (hfw.kids hu)))
   have HH := zh (And.intro (And.intro ea ea') (And.intro (And.intro eb eb') (And.intro (And.intro ez ez') (And.intro em em'))))
   rw [hw2] at hB2
   have HB2 := zh hB2
   have HRD := zh (fun W (h : Below (w.heap.size + 2) ((w.alloc (Obj.cells #[.string a, .string b, .int .i64 z, .int .i64 m, .slice o1 k1 c1, .slice o2 k2 c2, .slice o3 k3 c3] 27)).alloc (Obj.cells #[.string a', .string b', .int .i64 z', .int .i64 m', .slice o1' k1' c1', .slice o2' k2' c2', .slice o3' k3' c3'] 27)) W) => (show (W.cell? ⟨w.heap.size, 0, none⟩ = some (.string a) /\ W.cell? ⟨w.heap.size, 1, none⟩ = some (.string b) /\ W.cell? ⟨w.heap.size, 2, none⟩ = some (.int .i64 z) /\ W.cell? ⟨w.heap.size, 3, none⟩ = some (.int .i64 m) /\ W.cell? ⟨w.heap.size, 4, none⟩ = some (.slice o1 k1 c1) /\ W.cell? ⟨w.heap.size, 5, none⟩ = some (.slice o2 k2 c2) /\ W.cell? ⟨w.heap.size, 6, none⟩ = some (.slice o3 k3 c3)) /\ (W.cell? ⟨w.heap.size + 1, 0, none⟩ = some (.string a') /\ W.cell? ⟨w.heap.size + 1, 1, none⟩ = some (.string b') /\ W.cell? ⟨w.heap.size + 1, 2, none⟩ = some (.int .i64 z') /\ W.cell? ⟨w.heap.size + 1, 3, none⟩ = some (.int .i64 m') /\ W.cell? ⟨w.heap.size + 1, 4, none⟩ = some (.slice o1' k1' c1') /\ W.cell? ⟨w.heap.size + 1, 5, none⟩ = some (.slice o2' k2' c2') /\ W.cell? ⟨w.heap.size + 1, 6, none⟩ = some (.slice o3' k3' c3')) from by
    have e1 : W.heap[w.heap.size]? = some (.cells #[.string a, .string b, .int .i64 z, .int .i64 m, .slice o1 k1 c1, .slice o2 k2 c2, .slice o3 k3 c3] 27 (0, 0)) := (h.block _ (by omega)).trans ((Below.heap_alloc _ _ _ (by simp)).trans Array.getElem?_push_size)
    have e2 : W.heap[w.heap.size + 1]? = some (.cells #[.string a', .string b', .int .i64 z', .int .i64 m', .slice o1' k1' c1', .slice o2' k2' c2', .slice o3' k3' c3'] 27 (0, 0)) := (h.block _ (by omega)).trans (by
     have hs : (w.alloc (Obj.cells #[.string a, .string b, .int .i64 z, .int .i64 m, .slice o1 k1 c1, .slice o2 k2 c2, .slice o3 k3 c3] 27)).heap.size = w.heap.size + 1 := by simp
     rw [<- hs]; exact Array.getElem?_push_size)
    refine ⟨⟨?_, ?_, ?_, ?_, ?_, ?_, ?_⟩, ?_, ?_, ?_, ?_, ?_, ?_, ?_⟩ <;> simp [World.cell?, e1, e2]))
   have HSZ := zh (show ((w.alloc (Obj.cells #[.string a, .string b, .int .i64 z, .int .i64 m, .slice o1 k1 c1, .slice o2 k2 c2, .slice o3 k3 c3] 27)).alloc (Obj.cells #[.string a', .string b', .int .i64 z', .int .i64 m', .slice o1' k1' c1', .slice o2' k2' c2', .slice o3' k3' c3'] 27)).heap.size = w.heap.size + 2 by simp)
   clear ea eb ez em l1 l2 l3 s1 s2 h4 s3 hk ea' eb' ez' em' l1' l2' l3' s1' s2' h4' s3' hk' hN hN' hx hfw hm1 hm2 hm3 hB2 hw2 kp
   by_cases e_a : a = a'
   rotate_left
   ·have hne : x ≠ y := by rintro rfl; exact e_a (HH.out.1.1.trans HH.out.1.2.symm)
    obtain ⟨n1, n2, n3⟩ := zif e_a
    clear e_a HE1 HE2 HE3
    go_enter Tryz.func11, Tryz.ntmps11
    go_wp2
    go_ret
    exact ⟨by rw [decide_eq_false hne]; rfl, HB2.out⟩
   subst e_a
   by_cases e_b : b = b'
   rotate_left
   ·have hne : x ≠ y := by rintro rfl; exact e_b (HH.out.2.1.1.trans HH.out.2.1.2.symm)
    obtain ⟨n1, n2, n3⟩ := zif e_b
    clear e_b HE1 HE2 HE3
    go_enter Tryz.func11, Tryz.ntmps11
    go_wp2
    go_ret
    exact ⟨by rw [decide_eq_false hne]; rfl, HB2.out⟩
   subst e_b
   by_cases e_z : z = z'
   rotate_left
   ·have hne : x ≠ y := by rintro rfl; exact e_z (HH.out.2.2.1.1.trans HH.out.2.2.1.2.symm)
    have n1 : (z == z') = false := by simp [e_z]
    clear e_z HE1 HE2 HE3
    go_enter Tryz.func11, Tryz.ntmps11
    go_wp2
    go_ret
    exact ⟨by rw [decide_eq_false hne]; rfl, HB2.out⟩
   subst e_z
   by_cases e_m : m = m'
   rotate_left
   ·have hne : x ≠ y := by rintro rfl; exact e_m (HH.out.2.2.2.1.trans HH.out.2.2.2.2.symm)
    have n1 : (m == m') = false := by simp [e_m]
    clear e_m HE1 HE2 HE3
    go_enter Tryz.func11, Tryz.ntmps11
    go_wp2
    go_ret
    exact ⟨by rw [decide_eq_false hne]; rfl, HB2.out⟩
   subst e_m
   obtain ⟨r1, hr1⟩ : ∃ r, decide (zb7 x = zb7 y) = r := ⟨_, rfl⟩
   obtain ⟨r2, hr2⟩ : ∃ r, decide (zcD x = zcD y) = r := ⟨_, rfl⟩
   obtain ⟨r3, hr3⟩ : ∃ r, decide (zaO x = zaO y) = r := ⟨_, rfl⟩
   have HR := zh (show decide (x = y) = (r1 && (r2 && r3)) by
    rw [<- hr1, <- hr2, <- hr3, Bool.eq_iff_iff]
    simp only [Bool.and_eq_true, decide_eq_true_eq]
    constructor
    ·rintro rfl; exact ⟨rfl, rfl, rfl⟩
    ·rintro ⟨g1, g2, g3⟩
     exact ex_ext (HH.out.1.1.symm.trans HH.out.1.2) (HH.out.2.1.1.symm.trans HH.out.2.1.2) (by have := HH.out.2.2.1; exact Int.ofNat.inj (this.1.symm.trans this.2)) (by have := HH.out.2.2.2; exact Int.ofNat.inj (this.1.symm.trans this.2)) g1 g2 g3)
   rw [hr1] at HE1
   rw [hr2] at HE2
   rw [hr3] at HE3
   clear hr1 hr2 hr3
   go_enter Tryz.func11, Tryz.ntmps11
   go_wp2_with fail
   refine (HE1.out _ HB2.out).mono ?_
   rintro e w3 ⟨rfl, b3⟩
   have HX3 := zh ((Below.refl (w.heap.size + 2) _).trans (b3.mono (by simp)))
   have HB3 := zh (HB2.out.trans (b3.mono HB2.out.size))
   clear b3
   obtain ⟨⟨p0, p1, p2, p3, p4, p5, p6⟩, q0, q1, q2, q3, q4, q5, q6⟩ := HRD.out w3 HX3.out
   cases r1 with
   | false =>
     go_wp2
     go_ret
     exact ⟨by rw [HR.out]; rfl, HB3.out⟩
   | true =>
     go_wp2_with fail
     refine (HE2.out _ HB3.out).mono ?_
     rintro e w4 ⟨rfl, b4⟩
     have HX4 := zh (HX3.out.trans (b4.mono (by have := HX3.out.size; rw [HSZ.out] at this; exact this)))
     have HB4 := zh (HB3.out.trans (b4.mono HB3.out.size))
     clear b4 p0 p1 p2 p3 p4 p5 p6 q0 q1 q2 q3 q4 q5 q6
     obtain ⟨⟨p0, p1, p2, p3, p4, p5, p6⟩, q0, q1, q2, q3, q4, q5, q6⟩ := HRD.out w4 HX4.out
     cases r2 with
     | false =>
       go_wp2
       go_ret
       exact ⟨by rw [HR.out]; rfl, HB4.out⟩
     | true =>
       go_wp2_with fail
       refine (HE3.out _ HB4.out).mono ?_
       rintro e w5 ⟨rfl, b5⟩
       have HB5 := zh (HB4.out.trans (b5.mono HB4.out.size))
       clear b5
       go_wp2
       go_ret
       exact ⟨by rw [HR.out]; rfl, HB5.out⟩
end Go.Proofs.YtbcemjhaecelnaaGreatDoor.Par
end
section
namespace Go.Proofs.YtbcemjhaecelnaaGreatDoor.Par
open Go.RowKit Go.Lib Sto
theorem zcQ : ∀ x : Ex, Good x -> Few x
 | .num _, _ => trivial
 | .neg x, h => zcQ x h
 | .bin _ _ _ l r, h => ⟨h.2.1.2.2.2, zcQ l h.2.2.1, zcQ r h.2.2.2⟩
 | .agg _ _ _ _ x, h => ⟨h.2.2.2.1.2.2.2, zcQ x h.2.2.2.2⟩
 | .fn _ x, h => zcQ x h.2
 | .sel _ _ ms, h => by
   have h1 := h.2.2.1
   unfold zbt at h1
   simp at h1
   show ms.length <= 1000000
   omega
theorem read_few {s : ByteArray} {q : Qr} (hz : s.size <= 600) (h : zbk s.data.toList = some q) : Few q.root :=
 zcQ _ (readL_good (by rw [<- Lib.size_eq]; exact hz) h).1
end Go.Proofs.YtbcemjhaecelnaaGreatDoor.Par
end
end
