import Derived.Test.YtddglepimbfdkaaGreatDoorNo
import Derived.Laws.StructEq
import Derived.BigQuiet
import Derived.Deep.CutRange
import Derived.Deep.RegionWith
section
/- Parts of queries compared: the document's way. -/





namespace Go.Proofs.YtddglepimbfdkaaGreatDoor.Par
open Go.RowKit Go.Lib
open Go.Proofs.YtddglepimbfdkaaGreatDoor.Sto

theorem Nod.open7 {w : World} {P : Nat → Prop} {a b : ByteArray} {z m : Int} {o1 : Option Addr} {k1 c1 : Nat} {o2 : Option Addr} {k2 c2 : Nat} {o3 : Option Addr} {k3 c3 : Nat} {x : Ex} (h : Nod w P [.string a, .string b, .int .i64 z, .int .i64 m, .slice o1 k1 c1, .slice o2 k2 c2, .slice o3 k3 c3] x) :
    (a = opE x ∧ b = textE x ∧ z = nE x ∧ m = modeE x) ∧ ((namesE x).length = k1 ∧ (matsE x).length = k2 ∧ (kidsE x).length = k3) ∧ SeesR w P o1 1 ((namesE x).map encN) ∧ SeesR w P o2 3 ((matsE x).map encM) ∧ ∃ css : List (List Value), css.length = k3 ∧ SeesR w P o3 7 css ∧ ∀ (j : Nat) cs y, css[j]? = some cs → (kidsE x)[j]? = some y → Nod w P cs y := by
  obtain ⟨cs, hcs⟩ : ∃ cs : List Value, [.string a, .string b, .int .i64 z, .int .i64 m, .slice o1 k1 c1, .slice o2 k2 c2, .slice o3 k3 c3] = cs := ⟨_, rfl⟩
  rw [hcs] at h
  cases h with
  | mk x n m o1' o2' o3' k1' c1' k2' c2' k3' c3' css hn hm h1 h2 h3 h4 s1 s2 s3 hk =>
    injection hcs with ea e; injection e with eb e; injection e with ez e; injection e with em e; injection e with e1 e; injection e with e2 e; injection e with e3 _
    injection ea with ea; injection eb with eb; injection ez with _ ez; injection em with _ em
    injection e1 with e11 e12 _; injection e2 with e21 e22 _; injection e3 with e31 e32 _
    subst e11; subst e12; subst e21; subst e22; subst e31; subst e32
    exact ⟨⟨ea, eb, ez.trans hn, em.trans hm⟩, ⟨h1.1, h2, h3⟩, s1, s2, css, h4, s3, hk⟩
theorem SeesR.at {w : World} {P : Nat → Prop} {o : Option Addr} {k : Nat} {rows : List (List Value)} (h : SeesR w P o k rows) {j : Nat} {cs : List Value} (hj : rows[j]? = some cs) : ∃ b off, o = some ⟨b, off, none⟩ ∧ b < w.heap.size ∧ ∀ (i : Nat) v, cs[i]? = some v → w.cell? ⟨b, off + j * k + i, none⟩ = some v := by
  rcases h with h | ⟨b, off, rfl, _, hl, hs⟩
  · rw [h] at hj; simp at hj
  · exact ⟨b, off, rfl, hl, hs j cs hj⟩
theorem str_ne {s t : ByteArray} (h : s ≠ t) : ¬ s.toList = t.toList ∧ (s.toList == t.toList) = false ∧ (s.toList != t.toList) = true := by
  have h1 : ¬ s.toList = t.toList := fun e => h (by
    rw [ByteArray.toList_eq, ByteArray.toList_eq] at e
    cases s; cases t; simp at e; subst e; rfl)
  exact ⟨h1, by simp [h1], by simp [h1]⟩
/-- Alike up to k. -/
def Upto {α : Type} (xs ys : List α) (k : Nat) : Prop := ∀ j, j < k → xs[j]? = ys[j]?
theorem Upto.zero {α : Type} (xs ys : List α) : Upto xs ys 0 := fun j h => by omega
theorem Upto.succ {α : Type} {xs ys : List α} {k : Nat} (h : Upto xs ys k) (e : xs[k]? = ys[k]?) : Upto xs ys (k + 1) := fun j hj => by
  by_cases hk : j = k
  · subst hk; exact e
  · exact h j (by omega)
theorem Upto.all {α : Type} {xs ys : List α} {k : Nat} (h : Upto xs ys k) (h1 : xs.length = k) (h2 : ys.length = k) : xs = ys :=
  List.ext_getElem? fun j => by
    by_cases hj : j < k
    · exact h j hj
    · rw [List.getElem?_eq_none (by omega), List.getElem?_eq_none (by omega)]

theorem quietB {w wr : World} (h : ∃ q, wr = w.drewN q) : Below w.heap.size w wr := by
  obtain ⟨q, rfl⟩ := h
  exact ⟨rfl, rfl, rfl, Nat.le_refl _, fun _ _ => rfl⟩
def eqM (x y : Mat) : Bool := x.1.toList == y.1.toList && (x.2.1 == y.2.1 && x.2.2.toList == y.2.2.toList)
theorem eqM_refl (x : Mat) : eqM x x = true := by simp [eqM]
theorem eqM_eq {x y : Mat} (h : eqM x y = true) : x = y := by
  unfold eqM at h
  simp only [Bool.and_eq_true, beq_iff_eq] at h
  obtain ⟨h1, h2, h3⟩ := h
  have k : ∀ {s t : ByteArray}, s.toList = t.toList → s = t := fun {s t} e => by
    rw [ByteArray.toList_eq, ByteArray.toList_eq] at e
    cases s; cases t; simp at e; subst e; rfl
  exact Prod.ext (k h1) (Prod.ext h2 (k h3))
set_option maxHeartbeats 1000000 in
theorem equalInM (x y : Mat) (w : World) : (Op.equalIn 10000 40 (.agg #[.string x.1, .int .i64 x.2.1, .string x.2.2]) (.agg #[.string y.1, .int .i64 y.2.1, .string y.2.2])).run Tryz.prog w = .ok (eqM x y) w := by
  have u9 := Tryz.underlying9
  have a9 := Tryz.isAgg9
  have z9 := Tryz.sizeOf9
  have u8 := Tryz.underlying3
  have a8 := Tryz.isAgg3
  have z8 := Tryz.sizeOf3
  have hS : Tryz.prog.underlying 40 = some (.struct (Tryz.prog.fieldsOf 40)) := by kernel_rfl
  have hp : Tryz.prog.stoodInHeld 40 = false := by kernel_rfl
  rw [show (10000 : Nat) = 9999 + 1 from rfl, run_equalIn_agg w 9999 40 _ _ hS hp]
  simp only [Program.fieldsOf, Tryz.underlying40]
  go_simp
  unfold eqM
  cases h1 : x.1.toList == y.1.toList <;> cases h3 : x.2.1 == y.2.1 <;> cases h2 : x.2.2.toList == y.2.2.toList <;> simp_all
/-- No list of a part is too long. -/
def Few : Ex → Prop
  | .num _ => True
  | .neg x => Few x
  | .bin _ _ names l r => names.length ≤ 1000000 ∧ Few l ∧ Few r
  | .agg _ _ _ names x => names.length ≤ 1000000 ∧ Few x
  | .fn _ x => Few x
  | .sel _ _ ms => ms.length ≤ 1000000
theorem Few.own {x : Ex} (h : Few x) : (namesE x).length ≤ 1000000 ∧ (matsE x).length ≤ 1000000 ∧ (kidsE x).length ≤ 1000000 := by
  cases x <;> simp [namesE, matsE, kidsE] <;> simp [Few] at h <;> omega
theorem Few.kids {x y : Ex} (h : Few x) (hy : y ∈ kidsE x) : Few y := by
  cases x <;> simp [kidsE] at hy
  · subst hy; exact h
  · rcases hy with rfl | rfl
    · exact h.2.1
    · exact h.2.2
  · subst hy; exact h.2
  · subst hy; exact h
def SameC (f : Nat) (x y : Ex) : Prop := ∀ (P Q : Nat → Prop) (w : World) (a b : ByteArray) (z m : Int) (o1 : Option Addr) (k1 c1 : Nat) (o2 : Option Addr) (k2 c2 : Nat) (o3 : Option Addr) (k3 c3 : Nat) (a' b' : ByteArray) (z' m' : Int) (o1' : Option Addr) (k1' c1' : Nat) (o2' : Option Addr) (k2' c2' : Nat) (o3' : Option Addr) (k3' c3' : Nat), Nod w P [.string a, .string b, .int .i64 z, .int .i64 m, .slice o1 k1 c1, .slice o2 k2 c2, .slice o3 k3 c3] x → Nod w Q [.string a', .string b', .int .i64 z', .int .i64 m', .slice o1' k1' c1', .slice o2' k2' c2', .slice o3' k3' c3'] y → Calls Tryz.prog f #[.agg #[.string a, .string b, .int .i64 z, .int .i64 m, .slice o1 k1 c1, .slice o2 k2 c2, .slice o3 k3 c3], .agg #[.string a', .string b', .int .i64 z', .int .i64 m', .slice o1' k1' c1', .slice o2' k2' c2', .slice o3' k3' c3']] w fun e w' => e = .returned (.bool (decide (x = y))) ∧ Below w.heap.size w w'

set_option maxHeartbeats 8000000 in
set_option maxRecDepth 100000 in
theorem rsame_any : ∀ (n : Nat) (x y : Ex), countE x ≤ n → Few x → SameC 49 x y
  | 0, x, y, h, _ => by cases x <;> simp [countE] at h
  | n + 1, x, y, hx, hfw => by
    intro P Q w a b z m o1 k1 c1 o2 k2 c2 o3 k3 c3 a' b' z' m' o1' k1' c1' o2' k2' c2' o3' k3' c3' hN hN'
    obtain ⟨⟨ea, eb, ez, em⟩, ⟨l1, l2, l3⟩, s1, s2, css, h4, s3, hk⟩ := hN.open7
    obtain ⟨⟨ea', eb', ez', em'⟩, ⟨l1', l2', l3'⟩, s1', s2', css', h4', s3', hk'⟩ := hN'.open7
    have HIH := Lib.hid (fun x y (h : countE x ≤ n) (hf : Few x) => rsame_any n x y h hf)
    have HX := Lib.hid hx
    have HKX := Lib.hid (fun y (h : y ∈ kidsE x) => kids_lt h)
    have HE := Lib.hid (And.intro (And.intro ea ea') (And.intro (And.intro eb eb') (And.intro (And.intro ez ez') (And.intro em em'))))
    have HL := Lib.hid (And.intro (And.intro l1 l1') (And.intro (And.intro l2 l2') (And.intro l3 l3')))
    have HS1 := Lib.hid s1
    have HS2 := Lib.hid s2
    have HS3 := Lib.hid s3
    have HS1' := Lib.hid s1'
    have HS2' := Lib.hid s2'
    have HS3' := Lib.hid s3'
    have HC := Lib.hid (And.intro h4 h4')
    have HK := Lib.hid hk
    have HK' := Lib.hid hk'
    have hm1 : k1 ≤ 1000000 ∧ k2 ≤ 1000000 ∧ k3 ≤ 1000000 := by rw [← l1, ← l2, ← l3]; exact hfw.own
    have HFW := Lib.hid hfw
    obtain ⟨hm1, hm2, hm3⟩ := hm1
    clear ea eb ez em l1 l2 l3 s1 s2 h4 s3 hk ea' eb' ez' em' l1' l2' l3' s1' s2' h4' s3' hk' hN hN' hx hfw
    have HB2 := Lib.hid (show Below w.heap.size w ((w.alloc (Obj.cells #[.string a, .string b, .int .i64 z, .int .i64 m, .slice o1 k1 c1, .slice o2 k2 c2, .slice o3 k3 c3] 27)).alloc (Obj.cells #[.string a', .string b', .int .i64 z', .int .i64 m', .slice o1' k1' c1', .slice o2' k2' c2', .slice o3' k3' c3'] 27)) from ((Below.refl _ _).alloc (Nat.le_refl _) _).alloc (by simp) _)
    have HSZ := Lib.hid (show ((w.alloc (Obj.cells #[.string a, .string b, .int .i64 z, .int .i64 m, .slice o1 k1 c1, .slice o2 k2 c2, .slice o3 k3 c3] 27)).alloc (Obj.cells #[.string a', .string b', .int .i64 z', .int .i64 m', .slice o1' k1' c1', .slice o2' k2' c2', .slice o3' k3' c3'] 27)).heap.size = w.heap.size + 2 by simp)
    have HRD := Lib.hid (fun W (h : Below (w.heap.size + 2) ((w.alloc (Obj.cells #[.string a, .string b, .int .i64 z, .int .i64 m, .slice o1 k1 c1, .slice o2 k2 c2, .slice o3 k3 c3] 27)).alloc (Obj.cells #[.string a', .string b', .int .i64 z', .int .i64 m', .slice o1' k1' c1', .slice o2' k2' c2', .slice o3' k3' c3'] 27)) W) => (show (W.cell? ⟨w.heap.size, 0, none⟩ = some (.string a) ∧ W.cell? ⟨w.heap.size, 1, none⟩ = some (.string b) ∧ W.cell? ⟨w.heap.size, 2, none⟩ = some (.int .i64 z) ∧ W.cell? ⟨w.heap.size, 3, none⟩ = some (.int .i64 m) ∧ W.cell? ⟨w.heap.size, 4, none⟩ = some (.slice o1 k1 c1) ∧ W.cell? ⟨w.heap.size, 5, none⟩ = some (.slice o2 k2 c2) ∧ W.cell? ⟨w.heap.size, 6, none⟩ = some (.slice o3 k3 c3)) ∧ (W.cell? ⟨w.heap.size + 1, 0, none⟩ = some (.string a') ∧ W.cell? ⟨w.heap.size + 1, 1, none⟩ = some (.string b') ∧ W.cell? ⟨w.heap.size + 1, 2, none⟩ = some (.int .i64 z') ∧ W.cell? ⟨w.heap.size + 1, 3, none⟩ = some (.int .i64 m') ∧ W.cell? ⟨w.heap.size + 1, 4, none⟩ = some (.slice o1' k1' c1') ∧ W.cell? ⟨w.heap.size + 1, 5, none⟩ = some (.slice o2' k2' c2') ∧ W.cell? ⟨w.heap.size + 1, 6, none⟩ = some (.slice o3' k3' c3')) from by
      have e1 : W.heap[w.heap.size]? = some (.cells #[.string a, .string b, .int .i64 z, .int .i64 m, .slice o1 k1 c1, .slice o2 k2 c2, .slice o3 k3 c3] 27 (0, 0)) := (h.block _ (by omega)).trans ((Below.heap_alloc _ _ _ (by simp)).trans Array.getElem?_push_size)
      have e2 : W.heap[w.heap.size + 1]? = some (.cells #[.string a', .string b', .int .i64 z', .int .i64 m', .slice o1' k1' c1', .slice o2' k2' c2', .slice o3' k3' c3'] 27 (0, 0)) := (h.block _ (by omega)).trans (by
        have hs : (w.alloc (Obj.cells #[.string a, .string b, .int .i64 z, .int .i64 m, .slice o1 k1 c1, .slice o2 k2 c2, .slice o3 k3 c3] 27)).heap.size = w.heap.size + 1 := by simp
        rw [← hs]; exact Array.getElem?_push_size)
      refine ⟨⟨?_, ?_, ?_, ?_, ?_, ?_, ?_⟩, ?_, ?_, ?_, ?_, ?_, ?_, ?_⟩ <;> simp [World.cell?, e1, e2]))
    by_cases e_a : a = a'
    rotate_left
    · have hne : x ≠ y := by rintro rfl; exact e_a (HE.out.1.1.trans HE.out.1.2.symm)
      obtain ⟨n1, n2, n3⟩ := str_ne e_a
      clear e_a
      go_enter Tryz.func49, Tryz.ntmps49
      go_wp2
      go_ret
      exact ⟨by rw [decide_eq_false hne]; rfl, HB2.out⟩
    subst e_a
    by_cases e_b : b = b'
    rotate_left
    · have hne : x ≠ y := by rintro rfl; exact e_b (HE.out.2.1.1.trans HE.out.2.1.2.symm)
      obtain ⟨n1, n2, n3⟩ := str_ne e_b
      clear e_b
      go_enter Tryz.func49, Tryz.ntmps49
      go_wp2
      go_ret
      exact ⟨by rw [decide_eq_false hne]; rfl, HB2.out⟩
    subst e_b
    by_cases e_z : z = z'
    rotate_left
    · have hne : x ≠ y := by rintro rfl; exact e_z (HE.out.2.2.1.1.trans HE.out.2.2.1.2.symm)
      have n1 : (z != z') = true := by simp [e_z]
      clear e_z
      go_enter Tryz.func49, Tryz.ntmps49
      go_wp2
      go_ret
      exact ⟨by rw [decide_eq_false hne]; rfl, HB2.out⟩
    subst e_z
    by_cases e_m : m = m'
    rotate_left
    · have hne : x ≠ y := by rintro rfl; exact e_m (HE.out.2.2.2.1.trans HE.out.2.2.2.2.symm)
      have n1 : (m != m') = true := by simp [e_m]
      clear e_m
      go_enter Tryz.func49, Tryz.ntmps49
      go_wp2
      go_ret
      exact ⟨by rw [decide_eq_false hne]; rfl, HB2.out⟩
    subst e_m
    by_cases e_k1 : k1 = k1'
    rotate_left
    · have hne : x ≠ y := by rintro rfl; exact e_k1 (HL.out.1.1.symm.trans HL.out.1.2)
      have n0 : ¬ ((k1 : Nat) : Int) = ((k1' : Nat) : Int) := by omega
      have n1 : (((k1 : Nat) : Int) != ((k1' : Nat) : Int)) = true := by simp; omega
      clear e_k1
      go_enter Tryz.func49, Tryz.ntmps49
      go_wp2
      go_ret
      exact ⟨by rw [decide_eq_false hne]; rfl, HB2.out⟩
    subst e_k1
    by_cases e_k2 : k2 = k2'
    rotate_left
    · have hne : x ≠ y := by rintro rfl; exact e_k2 (HL.out.2.1.1.symm.trans HL.out.2.1.2)
      have n0 : ¬ ((k2 : Nat) : Int) = ((k2' : Nat) : Int) := by omega
      have n1 : (((k2 : Nat) : Int) != ((k2' : Nat) : Int)) = true := by simp; omega
      clear e_k2
      go_enter Tryz.func49, Tryz.ntmps49
      go_wp2
      go_ret
      exact ⟨by rw [decide_eq_false hne]; rfl, HB2.out⟩
    subst e_k2
    by_cases e_k3 : k3 = k3'
    rotate_left
    · have hne : x ≠ y := by rintro rfl; exact e_k3 (HL.out.2.2.1.symm.trans HL.out.2.2.2)
      have n0 : ¬ ((k3 : Nat) : Int) = ((k3' : Nat) : Int) := by omega
      have n1 : (((k3 : Nat) : Int) != ((k3' : Nat) : Int)) = true := by simp; omega
      clear e_k3
      go_enter Tryz.func49, Tryz.ntmps49
      go_wp2
      go_ret
      exact ⟨by rw [decide_eq_false hne]; rfl, HB2.out⟩
    subst e_k3
    go_enter Tryz.func49, Tryz.ntmps49
    go_wp2
    go_loopw [5] (fun v wr => ∃ k : Nat, v = .int .i64 k ∧ k ≤ k1 ∧ Hid (Upto (namesE x) (namesE y) k) ∧ Hid (Below (w.heap.size + 2) ((w.alloc (Obj.cells #[.string a, .string b, .int .i64 z, .int .i64 m, .slice o1 k1 c1, .slice o2 k2 c2, .slice o3 k3 c3] 27)).alloc (Obj.cells #[.string a, .string b, .int .i64 z, .int .i64 m, .slice o1' k1 c1', .slice o2' k2 c2', .slice o3' k3 c3'] 27)) wr)) (fun v _ => k1 - (Go.RowKit.intOf v).toNat)
    case atStart => exact ⟨0, rfl, Nat.zero_le _, Upto.zero _ _, Below.refl _ _⟩
    case round =>
      obtain ⟨k, rfl, hkk, HU, HB⟩ := hrel
      obtain ⟨⟨p0, p1, p2, p3, p4, p5, p6⟩, q0, q1, q2, q3, q4, q5, q6⟩ := HRD.out wr HB.out
      have HB0 := Lib.hid (HB2.out.trans (HB.out.mono (by omega)))
      have HZ := Lib.hid (show w.heap.size + 2 ≤ wr.heap.size from HSZ.out ▸ HB.out.size)
      by_cases hlt : k < k1
      · have j1 : (k : Int) < k1 := by omega
        obtain ⟨s, hs⟩ : ∃ s, (namesE x)[k]? = some s := ⟨_, List.getElem?_eq_getElem (by rw [HL.out.1.1]; exact hlt)⟩
        obtain ⟨t, ht⟩ : ∃ t, (namesE y)[k]? = some t := ⟨_, List.getElem?_eq_getElem (by rw [HL.out.1.2]; exact hlt)⟩
        obtain ⟨bb, off, rfl, hl1, hc1⟩ := HS1.out.at (j := k) (cs := encN s) (by rw [List.getElem?_map, hs]; rfl)
        obtain ⟨bb', off', rfl, hl2, hc2⟩ := HS1'.out.at (j := k) (cs := encN t) (by rw [List.getElem?_map, ht]; rfl)
        have c0 := (HB0.out.cell (p := ⟨bb, off + k * 1 + 0, none⟩) hl1).trans (hc1 0 _ rfl)
        have d0 := (HB0.out.cell (p := ⟨bb', off' + k * 1 + 0, none⟩) hl2).trans (hc2 0 _ rfl)
        simp only [Nat.mul_one, Nat.add_zero] at c0 d0
        have HST := Lib.hid (And.intro hs ht)
        clear hc1 hc2 hs ht
        by_cases e : s = t
        · have H2 := Lib.hid (HU.out.succ (HST.out.1.trans (by rw [e]; exact HST.out.2.symm)))
          subst e
          go_wp2_with fail
          go_quiet (fail)
          have HBq := Lib.hid (HB.out.trans ((quietB (w := wr) ⟨nq, rfl⟩).mono HZ.out))
          go_wp2
          go_roundw
          case rel => exact ⟨k + 1, by go_num, by omega, H2, HBq⟩
          case measure => simp [Go.RowKit.intOf]; omega
        · have hne : x ≠ y := by
            rintro rfl
            exact e (Option.some.inj (HST.out.1.symm.trans HST.out.2))
          obtain ⟨n1, n2, n3⟩ := str_ne e
          clear e
          go_wp2_with fail
          go_quiet (fail)
          have HBq := Lib.hid (HB0.out.trans ((quietB (w := wr) ⟨nq, rfl⟩).mono HB0.out.size))
          go_wp2
          go_ret
          exact ⟨by rw [decide_eq_false hne]; rfl, HBq.out⟩
      · have j1 : ¬ (k : Int) < k1 := by omega
        have HNA := Lib.hid (show namesE x = namesE y from (show Upto (namesE x) (namesE y) k1 by have := HU.out; rwa [show k = k1 by omega] at this).all HL.out.1.1 HL.out.1.2)
        clear HS1 HS1' HU
        go_wp2
        obtain ⟨w3, hw3⟩ : ∃ w3, wr = w3 := ⟨_, rfl⟩
        subst hw3
        clear p0 p1 p2 p3 p4 p5 p6 q0 q1 q2 q3 q4 q5 q6
        go_loopw [6] (fun v wr => ∃ k : Nat, v = .int .i64 k ∧ k ≤ k2 ∧ Hid (Upto (matsE x) (matsE y) k) ∧ Hid (Below (w.heap.size + 2) ((w.alloc (Obj.cells #[.string a, .string b, .int .i64 z, .int .i64 m, .slice o1 k1 c1, .slice o2 k2 c2, .slice o3 k3 c3] 27)).alloc (Obj.cells #[.string a, .string b, .int .i64 z, .int .i64 m, .slice o1' k1 c1', .slice o2' k2 c2', .slice o3' k3 c3'] 27)) wr)) (fun v _ => k2 - (Go.RowKit.intOf v).toNat)
        case atStart => exact ⟨0, rfl, Nat.zero_le _, Upto.zero _ _, HB⟩
        case round =>
          clear HB HB0
          obtain ⟨k, rfl, hkk, HU, HB⟩ := hrel
          obtain ⟨⟨p0, p1, p2, p3, p4, p5, p6⟩, q0, q1, q2, q3, q4, q5, q6⟩ := HRD.out wr HB.out
          have HB0 := Lib.hid (HB2.out.trans (HB.out.mono (by omega)))
          have HZ := Lib.hid (show w.heap.size + 2 ≤ wr.heap.size from HSZ.out ▸ HB.out.size)
          by_cases hlt : k < k2
          · have j1 : (k : Int) < k2 := by omega
            obtain ⟨s, hs⟩ : ∃ s, (matsE x)[k]? = some s := ⟨_, List.getElem?_eq_getElem (by rw [HL.out.2.1.1]; exact hlt)⟩
            obtain ⟨t, ht⟩ : ∃ t, (matsE y)[k]? = some t := ⟨_, List.getElem?_eq_getElem (by rw [HL.out.2.1.2]; exact hlt)⟩
            obtain ⟨bb, off, rfl, hl1, hc1⟩ := HS2.out.at (j := k) (cs := encM s) (by rw [List.getElem?_map, hs]; rfl)
            obtain ⟨bb', off', rfl, hl2, hc2⟩ := HS2'.out.at (j := k) (cs := encM t) (by rw [List.getElem?_map, ht]; rfl)
            have c0 := (HB0.out.cell (p := ⟨bb, off + k * 3 + 0, none⟩) hl1).trans (hc1 0 _ rfl)
            have c1 := (HB0.out.cell (p := ⟨bb, off + k * 3 + 1, none⟩) hl1).trans (hc1 1 _ rfl)
            have c2 := (HB0.out.cell (p := ⟨bb, off + k * 3 + 2, none⟩) hl1).trans (hc1 2 _ rfl)
            have d0 := (HB0.out.cell (p := ⟨bb', off' + k * 3 + 0, none⟩) hl2).trans (hc2 0 _ rfl)
            have d1 := (HB0.out.cell (p := ⟨bb', off' + k * 3 + 1, none⟩) hl2).trans (hc2 1 _ rfl)
            have d2 := (HB0.out.cell (p := ⟨bb', off' + k * 3 + 2, none⟩) hl2).trans (hc2 2 _ rfl)
            simp only [Nat.add_zero] at c0 d0
            have HST := Lib.hid (And.intro hs ht)
            clear hc1 hc2 hs ht
            go_wp2_with fail
            have hq : Tryz.prog.eqGuardType Tryz.prog.depth 40 = false := by kernel_rfl
            have hS : Tryz.prog.underlying 40 = some (.struct (Tryz.prog.fieldsOf 40)) := by kernel_rfl
            have hp : Tryz.prog.stoodInHeld 40 = false := by kernel_rfl
            have hr : ∀ w, (Op.equalIn 10000 40 (.agg #[.string s.1, .int .i64 s.2.1, .string s.2.2]) (.agg #[.string t.1, .int .i64 t.2.1, .string t.2.2])).run Tryz.prog w = .ok (eqM s t) w := fun w => equalInM s t w
            go_quiet (fail)
            clear hq hS hp hr
            have HBq := Lib.hid (HB.out.trans ((quietB (w := wr) ⟨nq, rfl⟩).mono HZ.out))
            have HBq0 := Lib.hid (HB0.out.trans ((quietB (w := wr) ⟨nq, rfl⟩).mono HB0.out.size))
            cases he : eqM s t with
            | true =>
              have H2 := Lib.hid (HU.out.succ (HST.out.1.trans (by rw [eqM_eq he]; exact HST.out.2.symm)))
              clear he
              go_wp2
              go_roundw
              case rel => exact ⟨k + 1, by go_num, by omega, H2, HBq⟩
              case measure => simp [Go.RowKit.intOf]; omega
            | false =>
              have hne : x ≠ y := by
                rintro rfl
                obtain rfl := Option.some.inj (HST.out.1.symm.trans HST.out.2)
                rw [eqM_refl] at he; cases he
              clear he
              go_wp2
              go_ret
              exact ⟨by rw [decide_eq_false hne]; rfl, HBq0.out⟩
          · have j1 : ¬ (k : Int) < k2 := by omega
            have HMA := Lib.hid (show matsE x = matsE y from (show Upto (matsE x) (matsE y) k2 by have := HU.out; rwa [show k = k2 by omega] at this).all HL.out.2.1.1 HL.out.2.1.2)
            clear HS2 HS2' HU
            go_wp2
            obtain ⟨w4, hw4⟩ : ∃ w4, wr = w4 := ⟨_, rfl⟩
            subst hw4
            clear p0 p1 p2 p3 p4 p5 p6 q0 q1 q2 q3 q4 q5 q6
            go_loopw [7] (fun v wr => ∃ k : Nat, v = .int .i64 k ∧ k ≤ k3 ∧ Hid (Upto (kidsE x) (kidsE y) k) ∧ Hid (Below (w.heap.size + 2) ((w.alloc (Obj.cells #[.string a, .string b, .int .i64 z, .int .i64 m, .slice o1 k1 c1, .slice o2 k2 c2, .slice o3 k3 c3] 27)).alloc (Obj.cells #[.string a, .string b, .int .i64 z, .int .i64 m, .slice o1' k1 c1', .slice o2' k2 c2', .slice o3' k3 c3'] 27)) wr)) (fun v _ => k3 - (Go.RowKit.intOf v).toNat)
            case atStart => exact ⟨0, rfl, Nat.zero_le _, Upto.zero _ _, HB⟩
            case round =>
              clear HB HB0
              obtain ⟨k, rfl, hkk, HU, HB⟩ := hrel
              obtain ⟨⟨p0, p1, p2, p3, p4, p5, p6⟩, q0, q1, q2, q3, q4, q5, q6⟩ := HRD.out wr HB.out
              have HB0 := Lib.hid (HB2.out.trans (HB.out.mono (by omega)))
              have HZ := Lib.hid (show w.heap.size + 2 ≤ wr.heap.size from HSZ.out ▸ HB.out.size)
              by_cases hlt : k < k3
              · have j1 : (k : Int) < k3 := by omega
                obtain ⟨s, hs⟩ : ∃ s, (kidsE x)[k]? = some s := ⟨_, List.getElem?_eq_getElem (by rw [HL.out.2.2.1]; exact hlt)⟩
                obtain ⟨t, ht⟩ : ∃ t, (kidsE y)[k]? = some t := ⟨_, List.getElem?_eq_getElem (by rw [HL.out.2.2.2]; exact hlt)⟩
                obtain ⟨cs, hcs⟩ : ∃ cs, css[k]? = some cs := ⟨_, List.getElem?_eq_getElem (by rw [HC.out.1]; exact hlt)⟩
                obtain ⟨ct, hct⟩ : ∃ cs, css'[k]? = some cs := ⟨_, List.getElem?_eq_getElem (by rw [HC.out.2]; exact hlt)⟩
                have hnk := HK.out k cs s hcs hs
                have hnk' := HK'.out k ct t hct ht
                obtain ⟨ka, kb, kz, km, ko1, kk1, kc1, ko2, kk2, kc2, ko3, kk3, kc3, rfl⟩ := hnk.raw
                obtain ⟨ja, jb, jz, jm, jo1, jk1, jc1, jo2, jk2, jc2, jo3, jk3, jc3, rfl⟩ := hnk'.raw
                obtain ⟨bb, off, rfl, hl1, hc1⟩ := HS3.out.at hcs
                obtain ⟨bb', off', rfl, hl2, hc2⟩ := HS3'.out.at hct
                have hx := fun i v hv => (HB0.out.cell (p := ⟨bb, off + k * 7 + i, none⟩) hl1).trans (hc1 i v hv)
                have hy := fun i v hv => (HB0.out.cell (p := ⟨bb', off' + k * 7 + i, none⟩) hl2).trans (hc2 i v hv)
                have c0 := hx 0 _ rfl
                have c1 := hx 1 _ rfl
                have c2 := hx 2 _ rfl
                have c3 := hx 3 _ rfl
                have c4 := hx 4 _ rfl
                have c5 := hx 5 _ rfl
                have c6 := hx 6 _ rfl
                have d0 := hy 0 _ rfl
                have d1 := hy 1 _ rfl
                have d2 := hy 2 _ rfl
                have d3 := hy 3 _ rfl
                have d4 := hy 4 _ rfl
                have d5 := hy 5 _ rfl
                have d6 := hy 6 _ rfl
                simp only [Nat.add_zero] at c0 d0
                have hcx : countE s ≤ n := by have h1 := HX.out; have := HKX.out s (List.mem_of_getElem? hs); omega
                have HCA := Lib.hid (fun W (h : Below wr.heap.size wr W) => HIH.out s t hcx (HFW.out.kids (List.mem_of_getElem? hs)) P Q W _ _ _ _ _ _ _ _ _ _ _ _ _ _ _ _ _ _ _ _ _ _ _ _ _ _ ((hnk.under HB0.out).under h) ((hnk'.under HB0.out).under h))
                have HST := Lib.hid (And.intro hs ht)
                clear hc1 hc2 hs ht hcs hct hnk hnk' hx hy hcx
                obtain ⟨r, hr⟩ : ∃ r, decide (s = t) = r := ⟨_, rfl⟩
                rw [hr] at HCA
                go_wp2_with fail
                go_cut [115] from 104 to 115 (fun s115 wx => s115 = .bool (!r) ∧ Hid (Below wr.heap.size wr wx))
                case first =>
                  go_region_with (go_at_call 49; refine (HCA.out _ (by first | exact Below.refl _ _ | exact (Below.refl _ _).drew | exact quietB ⟨_, rfl⟩)).mono ?_; rintro e w5 ⟨rfl, b5⟩)
                  all_goals go_wp2_with fail
                  all_goals go_meet
                  all_goals exact ⟨rfl, ((Below.refl _ wr).drew).trans b5⟩
                case rest =>
                  obtain ⟨rfl, b5⟩ := hcut
                  have HB5 := Lib.hid (HB.out.trans (b5.out.mono HZ.out))
                  have HB50 := Lib.hid (HB0.out.trans (b5.out.mono HB0.out.size))
                  clear b5
                  cases r with
                  | true =>
                    have H2 := Lib.hid (HU.out.succ (HST.out.1.trans (by rw [of_decide_eq_true hr]; exact HST.out.2.symm)))
                    go_wp2
                    go_roundw
                    case rel => exact ⟨k + 1, by go_num, by omega, H2, HB5⟩
                    case measure => simp [Go.RowKit.intOf]; omega
                  | false =>
                    have hne : x ≠ y := by
                      rintro rfl
                      exact of_decide_eq_false hr (Option.some.inj (HST.out.1.symm.trans HST.out.2))
                    go_wp2
                    go_ret
                    exact ⟨by rw [decide_eq_false hne]; rfl, HB50.out⟩
              · have j1 : ¬ (k : Int) < k3 := by omega
                have HKA := Lib.hid (show kidsE x = kidsE y from (show Upto (kidsE x) (kidsE y) k3 by have := HU.out; rwa [show k = k3 by omega] at this).all HL.out.2.2.1 HL.out.2.2.2)
                have HXY := Lib.hid (show x = y from ex_ext (HE.out.1.1.symm.trans HE.out.1.2) (HE.out.2.1.1.symm.trans HE.out.2.1.2) (by have := HE.out.2.2.1; exact Int.ofNat.inj (this.1.symm.trans this.2)) (by have := HE.out.2.2.2; exact Int.ofNat.inj (this.1.symm.trans this.2)) HNA.out HMA.out HKA.out)
                go_wp2
                go_ret
                exact ⟨by rw [decide_eq_true HXY.out]; rfl, HB0.out⟩
end Go.Proofs.YtddglepimbfdkaaGreatDoor.Par
end
