import Derived.Test.YtddglepimbfdkaaGreatDoorNx
import Derived.Test.YtddglepimbfdkaaGreatDoorNu
import Derived.Test.YtddglepimbfdkaaGreatDoorNw
import Derived.Laws.IdiomStrings
import Derived.Lib.ItoaLen
import Derived.Test.YtddglepimbfdkaaGreatDoorNn
section
/- Queries compared: the law's way. -/


namespace Go.Proofs.YtddglepimbfdkaaGreatDoor.Par
open Go.RowKit Go.Lib
open Go.Proofs.YtddglepimbfdkaaGreatDoor.Sto

set_option maxHeartbeats 4000000 in
set_option maxRecDepth 100000 in
theorem lsame_any (x y : Ex) (hf : Few x) (r : Bool) (P Q : Nat → Prop) (w : World) (a b : ByteArray) (z m : Int) (o1 : Option Addr) (k1 c1 : Nat) (o2 : Option Addr) (k2 c2 : Nat) (o3 : Option Addr) (k3 c3 : Nat) (od li ob : Int) (a' b' : ByteArray) (z' m' : Int) (o1' : Option Addr) (k1' c1' : Nat) (o2' : Option Addr) (k2' c2' : Nat) (o3' : Option Addr) (k3' c3' : Nat) (od' li' ob' : Int) (hN : Nod w P [.string a, .string b, .int .i64 z, .int .i64 m, .slice o1 k1 c1, .slice o2 k2 c2, .slice o3 k3 c3] x) (hN' : Nod w Q [.string a', .string b', .int .i64 z', .int .i64 m', .slice o1' k1' c1', .slice o2' k2' c2', .slice o3' k3' c3'] y) (hr : decide (od = od' ∧ li = li' ∧ ob = ob' ∧ x = y) = r) :
    Calls Tryz.prog 16 #[.agg #[.string a, .string b, .int .i64 z, .int .i64 m, .slice o1 k1 c1, .slice o2 k2 c2, .slice o3 k3 c3, .int .i64 od, .int .i64 li, .int .i64 ob], .agg #[.string a', .string b', .int .i64 z', .int .i64 m', .slice o1' k1' c1', .slice o2' k2' c2', .slice o3' k3' c3', .int .i64 od', .int .i64 li', .int .i64 ob']] w fun e w' => e = .returned (.bool r) ∧ Below w.heap.size w w' := by
  have HB2 := Lib.hid (show Below w.heap.size w ((w.alloc (Obj.cells #[.string a, .string b, .int .i64 z, .int .i64 m, .slice o1 k1 c1, .slice o2 k2 c2, .slice o3 k3 c3, .int .i64 od, .int .i64 li, .int .i64 ob] 29)).alloc (Obj.cells #[.string a', .string b', .int .i64 z', .int .i64 m', .slice o1' k1' c1', .slice o2' k2' c2', .slice o3' k3' c3', .int .i64 od', .int .i64 li', .int .i64 ob'] 29)) from ((Below.refl _ _).alloc (Nat.le_refl _) _).alloc (by simp) _)
  have HS := Lib.hid (rsame_any _ x y (Nat.le_refl _) hf P Q ((w.alloc (Obj.cells #[.string a, .string b, .int .i64 z, .int .i64 m, .slice o1 k1 c1, .slice o2 k2 c2, .slice o3 k3 c3, .int .i64 od, .int .i64 li, .int .i64 ob] 29)).alloc (Obj.cells #[.string a', .string b', .int .i64 z', .int .i64 m', .slice o1' k1' c1', .slice o2' k2' c2', .slice o3' k3' c3', .int .i64 od', .int .i64 li', .int .i64 ob'] 29)) a b z m o1 k1 c1 o2 k2 c2 o3 k3 c3 a' b' z' m' o1' k1' c1' o2' k2' c2' o3' k3' c3' (hN.under HB2.out) (hN'.under HB2.out))
  have HR := Lib.hid hr
  clear hN hN' hf hr
  by_cases e_od : od = od'
  rotate_left
  · have n1 : (od == od') = false := by simp [e_od]
    have HRR := Lib.hid (show false = r by rw [← HR.out, eq_comm, decide_eq_false_iff_not]; intro h; exact e_od (by first | exact h.1 | exact h.2.1 | exact h.2.2.1))
    clear HS HR
    go_enter Tryz.func16, Tryz.ntmps16
    go_wp2
    go_ret
    exact ⟨by rw [← HRR.out]; rfl, HB2.out⟩
  subst e_od
  by_cases e_li : li = li'
  rotate_left
  · have n1 : (li == li') = false := by simp [e_li]
    have HRR := Lib.hid (show false = r by rw [← HR.out, eq_comm, decide_eq_false_iff_not]; intro h; exact e_li (by first | exact h.1 | exact h.2.1 | exact h.2.2.1))
    clear HS HR
    go_enter Tryz.func16, Tryz.ntmps16
    go_wp2
    go_ret
    exact ⟨by rw [← HRR.out]; rfl, HB2.out⟩
  subst e_li
  by_cases e_ob : ob = ob'
  rotate_left
  · have n1 : (ob == ob') = false := by simp [e_ob]
    have HRR := Lib.hid (show false = r by rw [← HR.out, eq_comm, decide_eq_false_iff_not]; intro h; exact e_ob (by first | exact h.1 | exact h.2.1 | exact h.2.2.1))
    clear HS HR
    go_enter Tryz.func16, Tryz.ntmps16
    go_wp2
    go_ret
    exact ⟨by rw [← HRR.out]; rfl, HB2.out⟩
  subst e_ob
  obtain ⟨r', hr'⟩ : ∃ r', decide (x = y) = r' := ⟨_, rfl⟩
  have HRR := Lib.hid (show r' = r by rw [← HR.out, ← hr']; simp)
  rw [hr'] at HS
  clear HR hr'
  go_enter Tryz.func16, Tryz.ntmps16
  go_wp2_with fail
  refine HS.out.mono ?_
  rintro e w3 ⟨rfl, b3⟩
  have HB3 := Lib.hid (HB2.out.trans (b3.mono HB2.out.size))
  clear b3
  go_wp2
  go_ret
  exact ⟨by rw [← HRR.out]; rfl, HB3.out⟩
end Go.Proofs.YtddglepimbfdkaaGreatDoor.Par
end

section
/- Parts of queries compared: the program's way. -/

namespace Go.Proofs.YtddglepimbfdkaaGreatDoor.Par
open Go.RowKit Go.Lib
open Go.Proofs.YtddglepimbfdkaaGreatDoor.Sto

set_option maxHeartbeats 4000000 in
set_option maxRecDepth 100000 in
theorem eqS_any (o o' : Option Addr) (n c n' c' : Nat) (xs ys : List ByteArray) (P Q : Nat → Prop) (w : World) (h1 : xs.length = n) (h2 : ys.length = n') (hn : n ≤ 1000000) (S1 : SeesR w P o 1 (xs.map encN)) (S2 : SeesR w Q o' 1 (ys.map encN)) :
    Calls Tryz.prog 41 #[.slice o n c, .slice o' n' c'] w fun e w' => e = .returned (.bool (decide (xs = ys))) ∧ Below w.heap.size w w' := by
  have HL := Lib.hid (And.intro h1 h2)
  have HS1 := Lib.hid S1
  have HS2 := Lib.hid S2
  clear h1 h2 S1 S2
  by_cases hnn : n = n'
  rotate_left
  · have hne : ¬ xs = ys := by rintro rfl; exact hnn (HL.out.1.symm.trans HL.out.2)
    have n0 : ¬ ((n : Nat) : Int) = ((n' : Nat) : Int) := by omega
    have n1 : (((n : Nat) : Int) != ((n' : Nat) : Int)) = true := by simp; omega
    clear hnn
    go_enter Tryz.func41, Tryz.ntmps41
    go_wp2
    go_ret
    exact ⟨by rw [decide_eq_false hne]; rfl, Below.refl _ _⟩
  subst hnn
  go_enter Tryz.func41, Tryz.ntmps41
  go_wp2
  go_loopw [13] (fun v wr => ∃ k : Nat, v = .int .i64 k ∧ k ≤ n ∧ Hid (Upto xs ys k) ∧ Hid (Below w.heap.size w wr)) (fun v _ => n - (Go.RowKit.intOf v).toNat)
  case atStart => exact ⟨0, rfl, Nat.zero_le _, Upto.zero _ _, Below.refl _ _⟩
  case round =>
    obtain ⟨k, rfl, hkk, HU, HB⟩ := hrel
    by_cases hlt : k < n
    · have j1 : (k : Int) < n := by omega
      obtain ⟨s, hs⟩ : ∃ s, xs[k]? = some s := ⟨_, List.getElem?_eq_getElem (by rw [HL.out.1]; exact hlt)⟩
      obtain ⟨t, ht⟩ : ∃ t, ys[k]? = some t := ⟨_, List.getElem?_eq_getElem (by rw [HL.out.2]; exact hlt)⟩
      obtain ⟨bb, off, rfl, hl1, hc1⟩ := HS1.out.at (j := k) (cs := encN s) (by rw [List.getElem?_map, hs]; rfl)
      obtain ⟨bb', off', rfl, hl2, hc2⟩ := HS2.out.at (j := k) (cs := encN t) (by rw [List.getElem?_map, ht]; rfl)
      have c0 := (HB.out.cell (p := ⟨bb, off + k * 1 + 0, none⟩) hl1).trans (hc1 0 _ rfl)
      have d0 := (HB.out.cell (p := ⟨bb', off' + k * 1 + 0, none⟩) hl2).trans (hc2 0 _ rfl)
      simp only [Nat.mul_one, Nat.add_zero] at c0 d0
      have HST := Lib.hid (And.intro hs ht)
      clear hc1 hc2 hs ht
      by_cases e : s = t
      · have H2 := Lib.hid (HU.out.succ (HST.out.1.trans (by rw [e]; exact HST.out.2.symm)))
        subst e
        go_wp2_with fail
        go_quiet (fail)
        have HBq := Lib.hid (HB.out.trans ((quietB (w := wr) ⟨nq, rfl⟩).mono HB.out.size))
        go_wp2
        go_roundw
        case rel => exact ⟨k + 1, by go_num, by omega, H2, HBq⟩
        case measure => simp [Go.RowKit.intOf]; omega
      · have hne : ¬ xs = ys := by
          rintro rfl
          exact e (Option.some.inj (HST.out.1.symm.trans HST.out.2))
        obtain ⟨n1, n2, n3⟩ := str_ne e
        clear e
        go_wp2_with fail
        go_quiet (fail)
        have HBq := Lib.hid (HB.out.trans ((quietB (w := wr) ⟨nq, rfl⟩).mono HB.out.size))
        go_wp2
        go_ret
        exact ⟨by rw [decide_eq_false hne]; rfl, HBq.out⟩
    · have j1 : ¬ (k : Int) < n := by omega
      have HXY := Lib.hid (show xs = ys from (show Upto xs ys n by have := HU.out; rwa [show k = n by omega] at this).all HL.out.1 HL.out.2)
      clear HS1 HS2 HU
      go_wp2
      go_ret
      exact ⟨by rw [decide_eq_true HXY.out]; rfl, HB.out⟩

set_option maxHeartbeats 4000000 in
set_option maxRecDepth 100000 in
theorem eqMs_any (o o' : Option Addr) (n c n' c' : Nat) (xs ys : List Mat) (P Q : Nat → Prop) (w : World) (h1 : xs.length = n) (h2 : ys.length = n') (hn : n ≤ 1000000) (S1 : SeesR w P o 3 (xs.map encM)) (S2 : SeesR w Q o' 3 (ys.map encM)) :
    Calls Tryz.prog 42 #[.slice o n c, .slice o' n' c'] w fun e w' => e = .returned (.bool (decide (xs = ys))) ∧ Below w.heap.size w w' := by
  have HL := Lib.hid (And.intro h1 h2)
  have HS1 := Lib.hid S1
  have HS2 := Lib.hid S2
  clear h1 h2 S1 S2
  by_cases hnn : n = n'
  rotate_left
  · have hne : ¬ xs = ys := by rintro rfl; exact hnn (HL.out.1.symm.trans HL.out.2)
    have n0 : ¬ ((n : Nat) : Int) = ((n' : Nat) : Int) := by omega
    have n1 : (((n : Nat) : Int) != ((n' : Nat) : Int)) = true := by simp; omega
    clear hnn
    go_enter Tryz.func42, Tryz.ntmps42
    go_wp2
    go_ret
    exact ⟨by rw [decide_eq_false hne]; rfl, Below.refl _ _⟩
  subst hnn
  go_enter Tryz.func42, Tryz.ntmps42
  go_wp2
  go_loopw [13] (fun v wr => ∃ k : Nat, v = .int .i64 k ∧ k ≤ n ∧ Hid (Upto xs ys k) ∧ Hid (Below w.heap.size w wr)) (fun v _ => n - (Go.RowKit.intOf v).toNat)
  case atStart => exact ⟨0, rfl, Nat.zero_le _, Upto.zero _ _, Below.refl _ _⟩
  case round =>
    obtain ⟨k, rfl, hkk, HU, HB⟩ := hrel
    by_cases hlt : k < n
    · have j1 : (k : Int) < n := by omega
      obtain ⟨s, hs⟩ : ∃ s, xs[k]? = some s := ⟨_, List.getElem?_eq_getElem (by rw [HL.out.1]; exact hlt)⟩
      obtain ⟨t, ht⟩ : ∃ t, ys[k]? = some t := ⟨_, List.getElem?_eq_getElem (by rw [HL.out.2]; exact hlt)⟩
      obtain ⟨bb, off, rfl, hl1, hc1⟩ := HS1.out.at (j := k) (cs := encM s) (by rw [List.getElem?_map, hs]; rfl)
      obtain ⟨bb', off', rfl, hl2, hc2⟩ := HS2.out.at (j := k) (cs := encM t) (by rw [List.getElem?_map, ht]; rfl)
      have c0 := (HB.out.cell (p := ⟨bb, off + k * 3 + 0, none⟩) hl1).trans (hc1 0 _ rfl)
      have d0 := (HB.out.cell (p := ⟨bb', off' + k * 3 + 0, none⟩) hl2).trans (hc2 0 _ rfl)
      have c1 := (HB.out.cell (p := ⟨bb, off + k * 3 + 1, none⟩) hl1).trans (hc1 1 _ rfl)
      have d1 := (HB.out.cell (p := ⟨bb', off' + k * 3 + 1, none⟩) hl2).trans (hc2 1 _ rfl)
      have c2 := (HB.out.cell (p := ⟨bb, off + k * 3 + 2, none⟩) hl1).trans (hc1 2 _ rfl)
      have d2 := (HB.out.cell (p := ⟨bb', off' + k * 3 + 2, none⟩) hl2).trans (hc2 2 _ rfl)
      simp only [Nat.add_zero] at c0 d0
      have HST := Lib.hid (And.intro hs ht)
      clear hc1 hc2 hs ht
      go_wp2_with fail
      have hq : Tryz.prog.eqGuardType Tryz.prog.depth 40 = false := by kernel_rfl
      have hS : Tryz.prog.underlying 40 = some (.struct (Tryz.prog.fieldsOf 40)) := by kernel_rfl
      have hp : Tryz.prog.stoodInHeld 40 = false := by kernel_rfl
      have hr : ∀ w, (Op.equalIn 10000 40 (.agg #[.string s.1, .int .i64 s.2.1, .string s.2.2]) (.agg #[.string t.1, .int .i64 t.2.1, .string t.2.2])).run Tryz.prog w = .ok (eqM s t) w := fun w => equalInM s t w
      go_quiet (fail)
      clear hq hS hp hr
      have HBq := Lib.hid (HB.out.trans ((quietB (w := wr) ⟨nq, rfl⟩).mono HB.out.size))
      cases he : eqM s t with
      | true =>
        have H2 := Lib.hid (HU.out.succ (HST.out.1.trans (by rw [eqM_eq he]; exact HST.out.2.symm)))
        clear he
        go_wp2
        go_roundw
        case rel => exact ⟨k + 1, by go_num, by omega, H2, HBq⟩
        case measure => simp [Go.RowKit.intOf]; omega
      | false =>
        have hne : ¬ xs = ys := by
          rintro rfl
          obtain rfl := Option.some.inj (HST.out.1.symm.trans HST.out.2)
          rw [eqM_refl] at he; cases he
        clear he
        go_wp2
        go_ret
        exact ⟨by rw [decide_eq_false hne]; rfl, HBq.out⟩
    · have j1 : ¬ (k : Int) < n := by omega
      have HXY := Lib.hid (show xs = ys from (show Upto xs ys n by have := HU.out; rwa [show k = n by omega] at this).all HL.out.1 HL.out.2)
      clear HS1 HS2 HU
      go_wp2
      go_ret
      exact ⟨by rw [decide_eq_true HXY.out]; rfl, HB.out⟩

set_option maxHeartbeats 8000000 in
set_option maxRecDepth 100000 in
theorem eqK_any (o o' : Option Addr) (n c n' c' : Nat) (xs ys : List Ex) (css css' : List (List Value)) (P Q : Nat → Prop) (w : World) (h1 : xs.length = n) (h2 : ys.length = n') (h4 : css.length = n) (h4' : css'.length = n') (hn : n ≤ 1000000) (S1 : SeesR w P o 7 css) (S2 : SeesR w Q o' 7 css')
    (hk : ∀ (j : Nat) cs y, css[j]? = some cs → xs[j]? = some y → Nod w P cs y) (hk' : ∀ (j : Nat) cs y, css'[j]? = some cs → ys[j]? = some y → Nod w Q cs y) (IH : ∀ x ∈ xs, ∀ y, SameC 14 x y) :
    Calls Tryz.prog 43 #[.slice o n c, .slice o' n' c', .func (.func 14) #[] #[]] w fun e w' => e = .returned (.bool (decide (xs = ys))) ∧ Below w.heap.size w w' := by
  have HL := Lib.hid (And.intro (And.intro h1 h2) (And.intro h4 h4'))
  have HS1 := Lib.hid S1
  have HS2 := Lib.hid S2
  have HK := Lib.hid hk
  have HK' := Lib.hid hk'
  have HIH := Lib.hid IH
  clear h1 h2 S1 S2 h4 h4' hk hk' IH
  by_cases hnn : n = n'
  rotate_left
  · have hne : ¬ xs = ys := by rintro rfl; exact hnn (HL.out.1.1.symm.trans HL.out.1.2)
    have n0 : ¬ ((n : Nat) : Int) = ((n' : Nat) : Int) := by omega
    have n1 : (((n : Nat) : Int) != ((n' : Nat) : Int)) = true := by simp; omega
    clear hnn
    go_enter Tryz.func43, Tryz.ntmps43
    go_wp2
    go_ret
    exact ⟨by rw [decide_eq_false hne]; rfl, Below.refl _ _⟩
  subst hnn
  go_enter Tryz.func43, Tryz.ntmps43
  go_wp2
  go_loopw [17] (fun v wr => ∃ k : Nat, v = .int .i64 k ∧ k ≤ n ∧ Hid (Upto xs ys k) ∧ Hid (Below w.heap.size w wr)) (fun v _ => n - (Go.RowKit.intOf v).toNat)
  case atStart => exact ⟨0, rfl, Nat.zero_le _, Upto.zero _ _, Below.refl _ _⟩
  case round =>
    obtain ⟨k, rfl, hkk, HU, HB⟩ := hrel
    by_cases hlt : k < n
    · have j1 : (k : Int) < n := by omega
      obtain ⟨s, hs⟩ : ∃ s, xs[k]? = some s := ⟨_, List.getElem?_eq_getElem (by rw [HL.out.1.1]; exact hlt)⟩
      obtain ⟨t, ht⟩ : ∃ t, ys[k]? = some t := ⟨_, List.getElem?_eq_getElem (by rw [HL.out.1.2]; exact hlt)⟩
      obtain ⟨cs, hcs⟩ : ∃ cs, css[k]? = some cs := ⟨_, List.getElem?_eq_getElem (by rw [HL.out.2.1]; exact hlt)⟩
      obtain ⟨ct, hct⟩ : ∃ cs, css'[k]? = some cs := ⟨_, List.getElem?_eq_getElem (by rw [HL.out.2.2]; exact hlt)⟩
      have hnk := HK.out k cs s hcs hs
      have hnk' := HK'.out k ct t hct ht
      obtain ⟨ka, kb, kz, km, ko1, kk1, kc1, ko2, kk2, kc2, ko3, kk3, kc3, rfl⟩ := hnk.raw
      obtain ⟨ja, jb, jz, jm, jo1, jk1, jc1, jo2, jk2, jc2, jo3, jk3, jc3, rfl⟩ := hnk'.raw
      obtain ⟨bb, off, rfl, hl1, hc1⟩ := HS1.out.at hcs
      obtain ⟨bb', off', rfl, hl2, hc2⟩ := HS2.out.at hct
      have c0 := (HB.out.cell (p := ⟨bb, off + k * 7 + 0, none⟩) hl1).trans (hc1 0 _ rfl)
      have d0 := (HB.out.cell (p := ⟨bb', off' + k * 7 + 0, none⟩) hl2).trans (hc2 0 _ rfl)
      have c1 := (HB.out.cell (p := ⟨bb, off + k * 7 + 1, none⟩) hl1).trans (hc1 1 _ rfl)
      have d1 := (HB.out.cell (p := ⟨bb', off' + k * 7 + 1, none⟩) hl2).trans (hc2 1 _ rfl)
      have c2 := (HB.out.cell (p := ⟨bb, off + k * 7 + 2, none⟩) hl1).trans (hc1 2 _ rfl)
      have d2 := (HB.out.cell (p := ⟨bb', off' + k * 7 + 2, none⟩) hl2).trans (hc2 2 _ rfl)
      have c3 := (HB.out.cell (p := ⟨bb, off + k * 7 + 3, none⟩) hl1).trans (hc1 3 _ rfl)
      have d3 := (HB.out.cell (p := ⟨bb', off' + k * 7 + 3, none⟩) hl2).trans (hc2 3 _ rfl)
      have c4 := (HB.out.cell (p := ⟨bb, off + k * 7 + 4, none⟩) hl1).trans (hc1 4 _ rfl)
      have d4 := (HB.out.cell (p := ⟨bb', off' + k * 7 + 4, none⟩) hl2).trans (hc2 4 _ rfl)
      have c5 := (HB.out.cell (p := ⟨bb, off + k * 7 + 5, none⟩) hl1).trans (hc1 5 _ rfl)
      have d5 := (HB.out.cell (p := ⟨bb', off' + k * 7 + 5, none⟩) hl2).trans (hc2 5 _ rfl)
      have c6 := (HB.out.cell (p := ⟨bb, off + k * 7 + 6, none⟩) hl1).trans (hc1 6 _ rfl)
      have d6 := (HB.out.cell (p := ⟨bb', off' + k * 7 + 6, none⟩) hl2).trans (hc2 6 _ rfl)
      simp only [Nat.add_zero] at c0 d0
      have HB2 := Lib.hid (show Below wr.heap.size wr ((wr.alloc (Obj.cells #[.string ka, .string kb, .int .i64 kz, .int .i64 km, .slice ko1 kk1 kc1, .slice ko2 kk2 kc2, .slice ko3 kk3 kc3] 27)).alloc (Obj.cells #[.string ja, .string jb, .int .i64 jz, .int .i64 jm, .slice jo1 jk1 jc1, .slice jo2 jk2 jc2, .slice jo3 jk3 jc3] 27)) from ((Below.refl _ _).alloc (Nat.le_refl _) _).alloc (by simp) _)
      have HCA := Lib.hid (HIH.out s (List.mem_of_getElem? hs) t P Q _ _ _ _ _ _ _ _ _ _ _ _ _ _ _ _ _ _ _ _ _ _ _ _ _ _ _ ((hnk.under HB.out).under HB2.out) ((hnk'.under HB.out).under HB2.out))
      have HST := Lib.hid (And.intro hs ht)
      have HZ := HB.out.size
      have hbw1 : bb < wr.heap.size := by omega
      have hbw2 : bb' < wr.heap.size := by omega
      have x0 := HB.out.size
      clear hc1 hc2 hs ht hcs hct hnk hnk'
      obtain ⟨r, hr⟩ : ∃ r, decide (s = t) = r := ⟨_, rfl⟩
      rw [hr] at HCA
      go_wp2_with fail
      refine HCA.out.mono ?_
      rintro e w5 ⟨rfl, b5⟩
      have HB5 := Lib.hid (HB.out.trans ((HB2.out.trans (b5.mono HB2.out.size)).mono HB.out.size))
      clear b5
      cases r with
      | true =>
        have H2 := Lib.hid (HU.out.succ (HST.out.1.trans (by rw [of_decide_eq_true hr]; exact HST.out.2.symm)))
        go_wp2
        go_roundw
        case rel => exact ⟨k + 1, by go_num, by omega, H2, HB5⟩
        case measure => simp [Go.RowKit.intOf]; omega
      | false =>
        have hne : ¬ xs = ys := by
          rintro rfl
          exact of_decide_eq_false hr (Option.some.inj (HST.out.1.symm.trans HST.out.2))
        go_wp2
        go_ret
        exact ⟨by rw [decide_eq_false hne]; rfl, HB5.out⟩
    · have j1 : ¬ (k : Int) < n := by omega
      have HXY := Lib.hid (show xs = ys from (show Upto xs ys n by have := HU.out; rwa [show k = n by omega] at this).all HL.out.1.1 HL.out.1.2)
      clear HS1 HS2 HU
      go_wp2
      go_ret
      exact ⟨by rw [decide_eq_true HXY.out]; rfl, HB.out⟩

set_option maxHeartbeats 8000000 in
set_option maxRecDepth 100000 in
theorem psame_any : ∀ (n : Nat) (x y : Ex), countE x ≤ n → Few x → SameC 14 x y
  | 0, x, y, h, _ => by cases x <;> simp [countE] at h
  | n + 1, x, y, hx, hfw => by
    intro P Q w a b z m o1 k1 c1 o2 k2 c2 o3 k3 c3 a' b' z' m' o1' k1' c1' o2' k2' c2' o3' k3' c3' hN hN'
    obtain ⟨⟨ea, eb, ez, em⟩, ⟨l1, l2, l3⟩, s1, s2, css, h4, s3, hk⟩ := hN.open7
    obtain ⟨⟨ea', eb', ez', em'⟩, ⟨l1', l2', l3'⟩, s1', s2', css', h4', s3', hk'⟩ := hN'.open7
    obtain ⟨w2, hw2⟩ : ∃ w2, w2 = (w.alloc (Obj.cells #[.string a, .string b, .int .i64 z, .int .i64 m, .slice o1 k1 c1, .slice o2 k2 c2, .slice o3 k3 c3] 27)).alloc (Obj.cells #[.string a', .string b', .int .i64 z', .int .i64 m', .slice o1' k1' c1', .slice o2' k2' c2', .slice o3' k3' c3'] 27) := ⟨_, rfl⟩
    have hB2 : Below w.heap.size w w2 := by rw [hw2]; exact ((Below.refl _ _).alloc (Nat.le_refl _) _).alloc (by simp) _
    obtain ⟨hm1, hm2, hm3⟩ : k1 ≤ 1000000 ∧ k2 ≤ 1000000 ∧ k3 ≤ 1000000 := by rw [← l1, ← l2, ← l3]; exact hfw.own
    have kp : ∀ {R : Nat → Prop} {W : World}, Below w.heap.size w W → ∀ b, R b → b < w.heap.size → W.heap[b]? = w.heap[b]? ∧ R b := fun h b hr hl => ⟨h.block b hl, hr⟩
    have HE1 := Lib.hid (fun W (h : Below w.heap.size w W) => eqS_any o1 o1' k1 c1 k1' c1' (namesE x) (namesE y) P Q W l1 l1' hm1 (s1.keep (kp h)) (s1'.keep (kp h)))
    have HE2 := Lib.hid (fun W (h : Below w.heap.size w W) => eqMs_any o2 o2' k2 c2 k2' c2' (matsE x) (matsE y) P Q W l2 l2' hm2 (s2.keep (kp h)) (s2'.keep (kp h)))
    have HE3 := Lib.hid (fun W (h : Below w.heap.size w W) => eqK_any o3 o3' k3 c3 k3' c3' (kidsE x) (kidsE y) css css' P Q W l3 l3' h4 h4' hm3 (s3.keep (kp h)) (s3'.keep (kp h)) (fun j cs u hc hu => (hk j cs u hc hu).under h) (fun j cs u hc hu => (hk' j cs u hc hu).under h) (fun u hu v => psame_any n u v (by have := kids_lt hu; omega) (hfw.kids hu)))
    have HH := Lib.hid (And.intro (And.intro ea ea') (And.intro (And.intro eb eb') (And.intro (And.intro ez ez') (And.intro em em'))))
    rw [hw2] at hB2
    have HB2 := Lib.hid hB2
    have HRD := Lib.hid (fun W (h : Below (w.heap.size + 2) ((w.alloc (Obj.cells #[.string a, .string b, .int .i64 z, .int .i64 m, .slice o1 k1 c1, .slice o2 k2 c2, .slice o3 k3 c3] 27)).alloc (Obj.cells #[.string a', .string b', .int .i64 z', .int .i64 m', .slice o1' k1' c1', .slice o2' k2' c2', .slice o3' k3' c3'] 27)) W) => (show (W.cell? ⟨w.heap.size, 0, none⟩ = some (.string a) ∧ W.cell? ⟨w.heap.size, 1, none⟩ = some (.string b) ∧ W.cell? ⟨w.heap.size, 2, none⟩ = some (.int .i64 z) ∧ W.cell? ⟨w.heap.size, 3, none⟩ = some (.int .i64 m) ∧ W.cell? ⟨w.heap.size, 4, none⟩ = some (.slice o1 k1 c1) ∧ W.cell? ⟨w.heap.size, 5, none⟩ = some (.slice o2 k2 c2) ∧ W.cell? ⟨w.heap.size, 6, none⟩ = some (.slice o3 k3 c3)) ∧ (W.cell? ⟨w.heap.size + 1, 0, none⟩ = some (.string a') ∧ W.cell? ⟨w.heap.size + 1, 1, none⟩ = some (.string b') ∧ W.cell? ⟨w.heap.size + 1, 2, none⟩ = some (.int .i64 z') ∧ W.cell? ⟨w.heap.size + 1, 3, none⟩ = some (.int .i64 m') ∧ W.cell? ⟨w.heap.size + 1, 4, none⟩ = some (.slice o1' k1' c1') ∧ W.cell? ⟨w.heap.size + 1, 5, none⟩ = some (.slice o2' k2' c2') ∧ W.cell? ⟨w.heap.size + 1, 6, none⟩ = some (.slice o3' k3' c3')) from by
      have e1 : W.heap[w.heap.size]? = some (.cells #[.string a, .string b, .int .i64 z, .int .i64 m, .slice o1 k1 c1, .slice o2 k2 c2, .slice o3 k3 c3] 27 (0, 0)) := (h.block _ (by omega)).trans ((Below.heap_alloc _ _ _ (by simp)).trans Array.getElem?_push_size)
      have e2 : W.heap[w.heap.size + 1]? = some (.cells #[.string a', .string b', .int .i64 z', .int .i64 m', .slice o1' k1' c1', .slice o2' k2' c2', .slice o3' k3' c3'] 27 (0, 0)) := (h.block _ (by omega)).trans (by
        have hs : (w.alloc (Obj.cells #[.string a, .string b, .int .i64 z, .int .i64 m, .slice o1 k1 c1, .slice o2 k2 c2, .slice o3 k3 c3] 27)).heap.size = w.heap.size + 1 := by simp
        rw [← hs]; exact Array.getElem?_push_size)
      refine ⟨⟨?_, ?_, ?_, ?_, ?_, ?_, ?_⟩, ?_, ?_, ?_, ?_, ?_, ?_, ?_⟩ <;> simp [World.cell?, e1, e2]))
    have HSZ := Lib.hid (show ((w.alloc (Obj.cells #[.string a, .string b, .int .i64 z, .int .i64 m, .slice o1 k1 c1, .slice o2 k2 c2, .slice o3 k3 c3] 27)).alloc (Obj.cells #[.string a', .string b', .int .i64 z', .int .i64 m', .slice o1' k1' c1', .slice o2' k2' c2', .slice o3' k3' c3'] 27)).heap.size = w.heap.size + 2 by simp)
    clear ea eb ez em l1 l2 l3 s1 s2 h4 s3 hk ea' eb' ez' em' l1' l2' l3' s1' s2' h4' s3' hk' hN hN' hx hfw hm1 hm2 hm3 hB2 hw2 kp
    by_cases e_a : a = a'
    rotate_left
    · have hne : x ≠ y := by rintro rfl; exact e_a (HH.out.1.1.trans HH.out.1.2.symm)
      obtain ⟨n1, n2, n3⟩ := str_ne e_a
      clear e_a HE1 HE2 HE3
      go_enter Tryz.func14, Tryz.ntmps14
      go_wp2
      go_ret
      exact ⟨by rw [decide_eq_false hne]; rfl, HB2.out⟩
    subst e_a
    by_cases e_b : b = b'
    rotate_left
    · have hne : x ≠ y := by rintro rfl; exact e_b (HH.out.2.1.1.trans HH.out.2.1.2.symm)
      obtain ⟨n1, n2, n3⟩ := str_ne e_b
      clear e_b HE1 HE2 HE3
      go_enter Tryz.func14, Tryz.ntmps14
      go_wp2
      go_ret
      exact ⟨by rw [decide_eq_false hne]; rfl, HB2.out⟩
    subst e_b
    by_cases e_z : z = z'
    rotate_left
    · have hne : x ≠ y := by rintro rfl; exact e_z (HH.out.2.2.1.1.trans HH.out.2.2.1.2.symm)
      have n1 : (z == z') = false := by simp [e_z]
      clear e_z HE1 HE2 HE3
      go_enter Tryz.func14, Tryz.ntmps14
      go_wp2
      go_ret
      exact ⟨by rw [decide_eq_false hne]; rfl, HB2.out⟩
    subst e_z
    by_cases e_m : m = m'
    rotate_left
    · have hne : x ≠ y := by rintro rfl; exact e_m (HH.out.2.2.2.1.trans HH.out.2.2.2.2.symm)
      have n1 : (m == m') = false := by simp [e_m]
      clear e_m HE1 HE2 HE3
      go_enter Tryz.func14, Tryz.ntmps14
      go_wp2
      go_ret
      exact ⟨by rw [decide_eq_false hne]; rfl, HB2.out⟩
    subst e_m
    obtain ⟨r1, hr1⟩ : ∃ r, decide (namesE x = namesE y) = r := ⟨_, rfl⟩
    obtain ⟨r2, hr2⟩ : ∃ r, decide (matsE x = matsE y) = r := ⟨_, rfl⟩
    obtain ⟨r3, hr3⟩ : ∃ r, decide (kidsE x = kidsE y) = r := ⟨_, rfl⟩
    have HR := Lib.hid (show decide (x = y) = (r1 && (r2 && r3)) by
      rw [← hr1, ← hr2, ← hr3, Bool.eq_iff_iff]
      simp only [Bool.and_eq_true, decide_eq_true_eq]
      constructor
      · rintro rfl; exact ⟨rfl, rfl, rfl⟩
      · rintro ⟨g1, g2, g3⟩
        exact ex_ext (HH.out.1.1.symm.trans HH.out.1.2) (HH.out.2.1.1.symm.trans HH.out.2.1.2) (by have := HH.out.2.2.1; exact Int.ofNat.inj (this.1.symm.trans this.2)) (by have := HH.out.2.2.2; exact Int.ofNat.inj (this.1.symm.trans this.2)) g1 g2 g3)
    rw [hr1] at HE1
    rw [hr2] at HE2
    rw [hr3] at HE3
    clear hr1 hr2 hr3
    go_enter Tryz.func14, Tryz.ntmps14
    go_wp2_with fail
    refine (HE1.out _ HB2.out).mono ?_
    rintro e w3 ⟨rfl, b3⟩
    have HX3 := Lib.hid ((Below.refl (w.heap.size + 2) _).trans (b3.mono (by simp)))
    have HB3 := Lib.hid (HB2.out.trans (b3.mono HB2.out.size))
    clear b3
    obtain ⟨⟨p0, p1, p2, p3, p4, p5, p6⟩, q0, q1, q2, q3, q4, q5, q6⟩ := HRD.out w3 HX3.out
    cases r1 with
    | false =>
      go_wp2
      go_ret
      exact ⟨by rw [HR.out]; rfl, HB3.out⟩
    | true =>
      go_wp2_with fail
      refine (HE2.out _ HB3.out).mono ?_
      rintro e w4 ⟨rfl, b4⟩
      have HX4 := Lib.hid (HX3.out.trans (b4.mono (by have := HX3.out.size; rw [HSZ.out] at this; exact this)))
      have HB4 := Lib.hid (HB3.out.trans (b4.mono HB3.out.size))
      clear b4 p0 p1 p2 p3 p4 p5 p6 q0 q1 q2 q3 q4 q5 q6
      obtain ⟨⟨p0, p1, p2, p3, p4, p5, p6⟩, q0, q1, q2, q3, q4, q5, q6⟩ := HRD.out w4 HX4.out
      cases r2 with
      | false =>
        go_wp2
        go_ret
        exact ⟨by rw [HR.out]; rfl, HB4.out⟩
      | true =>
        go_wp2_with fail
        refine (HE3.out _ HB4.out).mono ?_
        rintro e w5 ⟨rfl, b5⟩
        have HB5 := Lib.hid (HB4.out.trans (b5.mono HB4.out.size))
        clear b5
        go_wp2
        go_ret
        exact ⟨by rw [HR.out]; rfl, HB5.out⟩
end Go.Proofs.YtddglepimbfdkaaGreatDoor.Par
end

section
/- A walk: the document's decimal digits. -/



namespace Go.Proofs.YtddglepimbfdkaaGreatDoor
open Go.RowKit

theorem bytes1 (W : World) (b : UInt8) (x : Int) (hx : x = b.toNat) : (convert 79 9 (.slice (some ⟨W.heap.size, 0, none⟩) 1 1)).run Tryz.prog (W.alloc (Obj.cells #[.int .u8 x] 5)) = .ok (.string ⟨#[b]⟩) (W.alloc (Obj.cells #[.int .u8 x] 5)) := by
  subst hx
  exact run_convert_bytes_back (P := Tryz.prog) (W.alloc (Obj.cells #[.int .u8 b.toNat] 5)) 79 9 5 ⟨W.heap.size, 0, none⟩ 1 [b] Tryz.underlying79 Tryz.underlying5 Tryz.underlying9 (by
    intro j hj
    match j, hj with
    | 0, _ => simp [Addr.add]
    | j + 1, hj => simp at hj)
def emptyN (v : Value) : Nat := match v with | .string s => if s.size = 0 then 1 else 0 | _ => 0
/-- What is still to be written. -/
def dz (m : Nat) (acc : List UInt8) : List UInt8 := if m = 0 ∧ acc ≠ [] then [] else Lib.decDigits m
theorem dz_step (m : Nat) (acc : List UInt8) (h : 0 < m ∨ acc = []) : dz (m / 10) (UInt8.ofNat (48 + m % 10) :: acc) ++ UInt8.ofNat (48 + m % 10) :: acc = dz m acc ++ acc := by
  have e : dz m acc = Lib.decDigits m := by
    unfold dz; rw [if_neg]; intro h2; rcases h with h | h
    · omega
    · exact h2.2 h
  rw [e]
  by_cases h10 : m < 10
  · have e2 : m / 10 = 0 := by omega
    have e3 : m % 10 = m := by omega
    rw [e2, e3, Lib.decDigits_one h10]
    unfold dz; rw [if_pos ⟨rfl, by simp⟩]; rfl
  · rw [decDigits_snoc m h10]
    unfold dz; rw [if_neg (by omega)]; simp
theorem app_arr (a b : List UInt8) : (⟨a.toArray⟩ : ByteArray) ++ ⟨b.toArray⟩ = ⟨(a ++ b).toArray⟩ := by
  apply ByteArray.ext; simp

set_option maxHeartbeats 2000000 in
set_option maxRecDepth 100000 in
theorem rdigits_any (v : Nat) (hv : v ≤ 9223372036854775807) (w : World) : Calls Tryz.prog 50 #[.int .i64 (v : Nat)] w fun e w' => e = .returned (.string ⟨(Lib.decDigits v).toArray⟩) ∧ Below w.heap.size w w' := by
  have hv2 : (v : Int) ≤ 9223372036854775807 := by omega
  have hl := Lib.nDigits_le20 v (by omega)
  have HLen := Lib.hid (show (Lib.decDigits v).length ≤ 20 by rw [Lib.decDigits_length]; exact hl)
  clear hl hv
  go_enter Tryz.func50, Tryz.ntmps50
  go_wp2
  go_loopw [3, 4] (fun v3 v4 wr => ∃ (m : Nat) (t : ByteArray), v4 = .int .i64 m ∧ v3 = .string t ∧ Hid (dz m t.data.toList ++ t.data.toList = Lib.decDigits v) ∧ (m : Int) ≤ 9223372036854775807 ∧ Hid (Below w.heap.size w wr)) (fun v3 v4 _ => (intOf v4).toNat + emptyN v3)
  case atStart => exact ⟨v, ⟨#[]⟩, rfl, rfl, (by show _ = _; simp [dz]), hv2, Below.refl _ _⟩
  case round =>
    obtain ⟨m, t, rfl, rfl, H, hm, HB⟩ := hrel
    have hal : t.size ≤ 20 := by
      have h1 := congrArg List.length H.out; rw [List.length_append, ← Lib.size_eq] at h1; have := HLen.out; omega
    have hz := HB.out.size
    have hm0 : (0 : Int) ≤ (m : Int) % 10 := by omega
    have hm1 : (m : Int) % 10 ≤ 9 := by omega
    obtain ⟨b, hb⟩ : ∃ b, UInt8.ofNat (48 + m % 10) = b := ⟨_, rfl⟩
    have H3 := Lib.hid (show 48 + (m : Int) % 10 = b.toNat by rw [← hb, dig_ofNat _ (by omega)]; omega)
    have hcv := fun W => bytes1 W b (48 + (m : Int) % 10) H3.out
    have key : (0 < m ∨ t.data.toList = []) → Hid (dz (m / 10) ((⟨#[b]⟩ : ByteArray) ++ t).data.toList ++ ((⟨#[b]⟩ : ByteArray) ++ t).data.toList = Lib.decDigits v) := by
      intro hc
      show _ = _
      have e : ((⟨#[b]⟩ : ByteArray) ++ t).data.toList = b :: t.data.toList := by rw [ByteArray.data_append, Array.toList_append]; rfl
      rw [e, ← H.out, ← hb]; exact dz_step m _ hc
    have ee : ((⟨#[b]⟩ : ByteArray) ++ t).size ≠ 0 := by rw [ByteArray.size_append]; show 1 + t.size ≠ 0; omega
    have HEE := Lib.hid ee
    clear ee
    by_cases hc : 0 < m
    · have H2 := key (.inl hc)
      have hc2 : (0 : Int) < m := by omega
      clear key H hb hc
      go_wp2
      go_roundw
      case rel => exact ⟨m / 10, _, by go_num, rfl, H2, by omega, HB.out.alloc hz _⟩
      case measure => simp only [emptyN, intOf]; rw [if_neg HEE.out]; omega
    · obtain rfl : m = 0 := by omega
      by_cases ht : t.data.toList = []
      · have H2 := key (.inr ht)
        have et : t = ⟨#[]⟩ := by cases t with | mk d => cases d with | mk l => simp at ht; rw [ht]
        clear key H hb hc
        subst et
        have hcv0 := fun W => bytes1 W b 48 (by have := H3.out; simpa using this)
        clear ht hcv
        go_wp2
        go_roundw
        case rel => exact ⟨0, _, by go_num, rfl, H2, by omega, HB.out.alloc hz _⟩
        case measure => simp only [emptyN, intOf]; rw [if_neg HEE.out, if_pos (show (⟨#[]⟩ : ByteArray).size = 0 from rfl)]; simp
      · have h1 : ¬ t.toList = [] := by rw [ByteArray.toList_eq]; exact ht
        have h2 : t.toList.isEmpty = false := by simpa using h1
        have H2 := Lib.hid (show Lib.decDigits v = t.data.toList by rw [← H.out]; unfold dz; rw [if_pos ⟨rfl, ht⟩]; rfl)
        clear key H hb hc ht hcv
        go_wp2
        go_ret
        refine ⟨?_, HB.out⟩
        rw [H2.out, str_of]; rfl
end Go.Proofs.YtddglepimbfdkaaGreatDoor
end

section
/- Queries that are read have short lists; a text is read, whatever it is. -/




namespace Go.Proofs.YtddglepimbfdkaaGreatDoor.Par
open Go.RowKit Go.Lib
open Go.Proofs.YtddglepimbfdkaaGreatDoor.Sto

theorem good_few : ∀ x : Ex, Good x → Few x
  | .num _, _ => trivial
  | .neg x, h => good_few x h
  | .bin _ _ _ l r, h => ⟨h.2.1.2.2.2, good_few l h.2.2.1, good_few r h.2.2.2⟩
  | .agg _ _ _ _ x, h => ⟨h.2.2.2.1.2.2.2, good_few x h.2.2.2.2⟩
  | .fn _ x, h => good_few x h.2
  | .sel _ _ ms, h => by
    have h1 := h.2.2.1
    unfold matsB at h1
    simp at h1
    show ms.length ≤ 1000000
    omega
theorem read_few {s : ByteArray} {q : Qr} (hz : s.size ≤ 600) (h : readL s.data.toList = some q) : Few q.root :=
  good_few _ (readL_good (by rw [← Lib.size_eq]; exact hz) h).1
/-- A text is read, whatever it is. -/
theorem read_raw (s : ByteArray) (hs : s.size ≤ maxLen) (w : World) (h : Env w) :
    Calls Tryz.prog 10 #[.string s] w fun e w' => (∃ (a tx : ByteArray) (z m : Int) (o1 : Option Addr) (k1 c1 : Nat) (o2 : Option Addr) (k2 c2 : Nat) (o3 : Option Addr) (k3 c3 : Nat) (od li ob k : Int),
      e = .returned (.tuple #[.agg #[.string a, .string tx, .int .i64 z, .int .i64 m, .slice o1 k1 c1, .slice o2 k2 c2, .slice o3 k3 c3, .int .i64 od, .int .i64 li, .int .i64 ob], .int .i64 k])) ∧ Below w.heap.size w w' := by
  refine (parse_any s hs w h).mono fun e w' ⟨he, hb⟩ => ⟨?_, hb⟩
  unfold ReadEnd at he
  split at he
  · exact ⟨_, _, _, _, _, _, _, _, _, _, _, _, _, _, _, _, _, he⟩
  · split at he
    · exact ⟨_, _, _, _, _, _, _, _, _, _, _, _, _, _, _, _, _, he⟩
    · obtain ⟨cs, rfl, hn⟩ := he
      obtain ⟨a, tx, z, m, o1, k1, c1, o2, k2, c2, o3, k3, c3, rfl⟩ := hn.raw
      exact ⟨a, tx, z, m, o1, k1, c1, o2, k2, c2, o3, k3, c3, _, _, _, _, rfl⟩
abbrev QBox (a tx : ByteArray) (z m : Int) (o1 : Option Addr) (k1 c1 : Nat) (o2 : Option Addr) (k2 c2 : Nat) (o3 : Option Addr) (k3 c3 : Nat) (od li ob : Int) : Obj := Obj.cells #[.string a, .string tx, .int .i64 z, .int .i64 m, .slice o1 k1 c1, .slice o2 k2 c2, .slice o3 k3 c3, .int .i64 od, .int .i64 li, .int .i64 ob] 29
theorem qbox_reads (w W : World) (a tx : ByteArray) (z m : Int) (o1 : Option Addr) (k1 c1 : Nat) (o2 : Option Addr) (k2 c2 : Nat) (o3 : Option Addr) (k3 c3 : Nat) (od li ob : Int) (h : Below (w.heap.size + 1) (w.alloc (QBox a tx z m o1 k1 c1 o2 k2 c2 o3 k3 c3 od li ob)) W) :
    W.cell? ⟨w.heap.size, 0, none⟩ = some (.string a) ∧ W.cell? ⟨w.heap.size, 1, none⟩ = some (.string tx) ∧ W.cell? ⟨w.heap.size, 2, none⟩ = some (.int .i64 z) ∧ W.cell? ⟨w.heap.size, 3, none⟩ = some (.int .i64 m) ∧ W.cell? ⟨w.heap.size, 4, none⟩ = some (.slice o1 k1 c1) ∧ W.cell? ⟨w.heap.size, 5, none⟩ = some (.slice o2 k2 c2) ∧ W.cell? ⟨w.heap.size, 6, none⟩ = some (.slice o3 k3 c3) ∧ W.cell? ⟨w.heap.size, 7, none⟩ = some (.int .i64 od) ∧ W.cell? ⟨w.heap.size, 8, none⟩ = some (.int .i64 li) ∧ W.cell? ⟨w.heap.size, 9, none⟩ = some (.int .i64 ob) :=
  (show Box10 W w.heap.size (.string a) (.string tx) (.int .i64 z) (.int .i64 m) (.slice o1 k1 c1) (.slice o2 k2 c2) (.slice o3 k3 c3) (.int .i64 od) (.int .i64 li) (.int .i64 ob) from (h.block _ (by omega)).trans (box10_new w _ _ _ _ _ _ _ _ _ _)).reads.1
theorem qbox_size (w : World) (o : Obj) : (w.alloc o).heap.size = w.heap.size + 1 := by simp
theorem below_box {w w2 : World} (h : Below w.heap.size w w2) (o : Obj) : Below w.heap.size w (w2.alloc o) := h.alloc h.size o
theorem below_past {w w2 W : World} {o : Obj} (h : Below w.heap.size w w2) (h2 : Below (w2.heap.size + 1) (w2.alloc o) W) : Below w.heap.size w W :=
  (below_box h o).trans (h2.mono (by have := h.size; omega))
theorem box_start (w : World) (o : Obj) : Below (w.heap.size + 1) (w.alloc o) (w.alloc o) := Below.refl _ _
theorem box_more {w W W2 : World} {o : Obj} (h : Below (w.heap.size + 1) (w.alloc o) W) (h2 : Below W.heap.size W W2) : Below (w.heap.size + 1) (w.alloc o) W2 :=
  h.trans (h2.mono (by have := h.size; rw [qbox_size] at this; exact this))
end Go.Proofs.YtddglepimbfdkaaGreatDoor.Par
end
