/- Walks (kind): a part's kind, as it is answered; whether a query may be; how deep a part is. -/
import Derived.Test.YtddglepimbfdkaaGreatDoorYd
import Derived.Lib.Hide
namespace Go.Proofs.YtddglepimbfdkaaGreatDoor.Knd
open Go.RowKit Go.Lib
open Go.Proofs.YtddglepimbfdkaaGreatDoor.Par

/-- A part's kind and the error, as they are answered. -/
def errK (k : Nat) : Nat := if k = 0 then 3 else 0

set_option maxHeartbeats 2000000 in
set_option maxRecDepth 100000 in
theorem kof0 (a b : ByteArray) (z m : Int) (o1 : Option Addr) (k1 c1 : Nat) (o2 : Option Addr) (k2 c2 : Nat) (o3 : Option Addr) (k3 c3 : Nat) (w : World) (HC : ∀ W, Below w.heap.size w W → Calls Tryz.prog 56 #[.agg #[.string a, .string b, .int .i64 z, .int .i64 m, .slice o1 k1 c1, .slice o2 k2 c2, .slice o3 k3 c3]] W fun e w' => e = .returned (.nilIface) ∧ Below W.heap.size W w') :
    Calls Tryz.prog 22 #[.agg #[.string a, .string b, .int .i64 z, .int .i64 m, .slice o1 k1 c1, .slice o2 k2 c2, .slice o3 k3 c3]] w fun e w' => e = .returned (.tuple #[.int .i64 0, .int .i64 3]) ∧ Below w.heap.size w w' := by
  have HB := Lib.hid (box_below w (NBox a b z m o1 k1 c1 o2 k2 c2 o3 k3 c3))
  have HCC := Lib.hid HC
  clear HC
  go_enter Tryz.func22, Tryz.ntmps22
  go_wp2_with fail
  refine (HCC.out _ HB.out).mono ?_
  rintro e w1 ⟨rfl, b1⟩
  have B1 := Lib.hid (HB.out.trans (b1.mono HB.out.size))
  clear b1
  go_wp2_with fail
  refine (isNumber0 _).mono ?_
  rintro e w2 ⟨rfl, b2⟩
  have B2 := Lib.hid (B1.out.trans (b2.mono B1.out.size))
  clear b2
  go_wp2_with fail
  refine (isVector0 _).mono ?_
  rintro e w3 ⟨rfl, b3⟩
  have B3 := Lib.hid (B2.out.trans (b3.mono B2.out.size))
  clear b3
  go_wp2_with fail
  refine (isRange0 _).mono ?_
  rintro e w4 ⟨rfl, b4⟩
  have B4 := Lib.hid (B3.out.trans (b4.mono B3.out.size))
  clear b4
  go_wp2
  go_ret2
  exact ⟨rfl, B4.out⟩

set_option maxHeartbeats 2000000 in
set_option maxRecDepth 100000 in
theorem kof1 (a b : ByteArray) (z m : Int) (o1 : Option Addr) (k1 c1 : Nat) (o2 : Option Addr) (k2 c2 : Nat) (o3 : Option Addr) (k3 c3 : Nat) (w : World) (HC : ∀ W, Below w.heap.size w W → Calls Tryz.prog 56 #[.agg #[.string a, .string b, .int .i64 z, .int .i64 m, .slice o1 k1 c1, .slice o2 k2 c2, .slice o3 k3 c3]] W fun e w' => e = .returned (.iface 156 (.agg #[])) ∧ Below W.heap.size W w') :
    Calls Tryz.prog 22 #[.agg #[.string a, .string b, .int .i64 z, .int .i64 m, .slice o1 k1 c1, .slice o2 k2 c2, .slice o3 k3 c3]] w fun e w' => e = .returned (.tuple #[.int .i64 1, .int .i64 0]) ∧ Below w.heap.size w w' := by
  have HB := Lib.hid (box_below w (NBox a b z m o1 k1 c1 o2 k2 c2 o3 k3 c3))
  have HCC := Lib.hid HC
  clear HC
  go_enter Tryz.func22, Tryz.ntmps22
  go_wp2_with fail
  refine (HCC.out _ HB.out).mono ?_
  rintro e w1 ⟨rfl, b1⟩
  have B1 := Lib.hid (HB.out.trans (b1.mono HB.out.size))
  clear b1
  go_wp2_with fail
  refine (isNumber1 _).mono ?_
  rintro e w2 ⟨rfl, b2⟩
  have B2 := Lib.hid (B1.out.trans (b2.mono B1.out.size))
  clear b2
  go_wp2
  go_ret2
  exact ⟨rfl, B2.out⟩

set_option maxHeartbeats 2000000 in
set_option maxRecDepth 100000 in
theorem kof2 (a b : ByteArray) (z m : Int) (o1 : Option Addr) (k1 c1 : Nat) (o2 : Option Addr) (k2 c2 : Nat) (o3 : Option Addr) (k3 c3 : Nat) (w : World) (HC : ∀ W, Below w.heap.size w W → Calls Tryz.prog 56 #[.agg #[.string a, .string b, .int .i64 z, .int .i64 m, .slice o1 k1 c1, .slice o2 k2 c2, .slice o3 k3 c3]] W fun e w' => e = .returned (.iface 158 (.agg #[])) ∧ Below W.heap.size W w') :
    Calls Tryz.prog 22 #[.agg #[.string a, .string b, .int .i64 z, .int .i64 m, .slice o1 k1 c1, .slice o2 k2 c2, .slice o3 k3 c3]] w fun e w' => e = .returned (.tuple #[.int .i64 2, .int .i64 0]) ∧ Below w.heap.size w w' := by
  have HB := Lib.hid (box_below w (NBox a b z m o1 k1 c1 o2 k2 c2 o3 k3 c3))
  have HCC := Lib.hid HC
  clear HC
  go_enter Tryz.func22, Tryz.ntmps22
  go_wp2_with fail
  refine (HCC.out _ HB.out).mono ?_
  rintro e w1 ⟨rfl, b1⟩
  have B1 := Lib.hid (HB.out.trans (b1.mono HB.out.size))
  clear b1
  go_wp2_with fail
  refine (isNumber2 _).mono ?_
  rintro e w2 ⟨rfl, b2⟩
  have B2 := Lib.hid (B1.out.trans (b2.mono B1.out.size))
  clear b2
  go_wp2_with fail
  refine (isVector2 _).mono ?_
  rintro e w3 ⟨rfl, b3⟩
  have B3 := Lib.hid (B2.out.trans (b3.mono B2.out.size))
  clear b3
  go_wp2
  go_ret2
  exact ⟨rfl, B3.out⟩

set_option maxHeartbeats 2000000 in
set_option maxRecDepth 100000 in
theorem kof3 (a b : ByteArray) (z m : Int) (o1 : Option Addr) (k1 c1 : Nat) (o2 : Option Addr) (k2 c2 : Nat) (o3 : Option Addr) (k3 c3 : Nat) (w : World) (HC : ∀ W, Below w.heap.size w W → Calls Tryz.prog 56 #[.agg #[.string a, .string b, .int .i64 z, .int .i64 m, .slice o1 k1 c1, .slice o2 k2 c2, .slice o3 k3 c3]] W fun e w' => e = .returned (.iface 160 (.agg #[])) ∧ Below W.heap.size W w') :
    Calls Tryz.prog 22 #[.agg #[.string a, .string b, .int .i64 z, .int .i64 m, .slice o1 k1 c1, .slice o2 k2 c2, .slice o3 k3 c3]] w fun e w' => e = .returned (.tuple #[.int .i64 3, .int .i64 0]) ∧ Below w.heap.size w w' := by
  have HB := Lib.hid (box_below w (NBox a b z m o1 k1 c1 o2 k2 c2 o3 k3 c3))
  have HCC := Lib.hid HC
  clear HC
  go_enter Tryz.func22, Tryz.ntmps22
  go_wp2_with fail
  refine (HCC.out _ HB.out).mono ?_
  rintro e w1 ⟨rfl, b1⟩
  have B1 := Lib.hid (HB.out.trans (b1.mono HB.out.size))
  clear b1
  go_wp2_with fail
  refine (isNumber3 _).mono ?_
  rintro e w2 ⟨rfl, b2⟩
  have B2 := Lib.hid (B1.out.trans (b2.mono B1.out.size))
  clear b2
  go_wp2_with fail
  refine (isVector3 _).mono ?_
  rintro e w3 ⟨rfl, b3⟩
  have B3 := Lib.hid (B2.out.trans (b3.mono B2.out.size))
  clear b3
  go_wp2_with fail
  refine (isRange3 _).mono ?_
  rintro e w4 ⟨rfl, b4⟩
  have B4 := Lib.hid (B3.out.trans (b4.mono B3.out.size))
  clear b4
  go_wp2
  go_ret2
  exact ⟨rfl, B4.out⟩

theorem kof_any (x : Ex) (P : Nat → Prop) (w : World) (a b : ByteArray) (z m : Int) (o1 : Option Addr) (k1 c1 : Nat) (o2 : Option Addr) (k2 c2 : Nat) (o3 : Option Addr) (k3 c3 : Nat) (hN : Nod w P [.string a, .string b, .int .i64 z, .int .i64 m, .slice o1 k1 c1, .slice o2 k2 c2, .slice o3 k3 c3] x) :
    Calls Tryz.prog 22 #[.agg #[.string a, .string b, .int .i64 z, .int .i64 m, .slice o1 k1 c1, .slice o2 k2 c2, .slice o3 k3 c3]] w fun e w' => e = .returned (.tuple #[.int .i64 (kindE x : Nat), .int .i64 (errK (kindE x) : Nat)]) ∧ Below w.heap.size w w' := by
  have HC : ∀ W, Below w.heap.size w W → Calls Tryz.prog 56 #[.agg #[.string a, .string b, .int .i64 z, .int .i64 m, .slice o1 k1 c1, .slice o2 k2 c2, .slice o3 k3 c3]] W fun e w' => e = .returned (kv (kindE x)) ∧ Below W.heap.size W w' := fun W hb => of_any _ x (Nat.le_refl _) P W _ _ _ _ _ _ _ _ _ _ _ _ _ (hN.under hb)
  have hk := kindE_le x
  generalize kindE x = k at *
  match k, hk with
  | 0, _ => exact kof0 _ _ _ _ _ _ _ _ _ _ _ _ _ w HC
  | 1, _ => exact kof1 _ _ _ _ _ _ _ _ _ _ _ _ _ w HC
  | 2, _ => exact kof2 _ _ _ _ _ _ _ _ _ _ _ _ _ w HC
  | 3, _ => exact kof3 _ _ _ _ _ _ _ _ _ _ _ _ _ w HC
def chkK (k : Nat) : Nat := if k = 3 then 3 else errK k
set_option maxHeartbeats 2000000 in
set_option maxRecDepth 100000 in
theorem kcheck_any (x : Ex) (P : Nat → Prop) (w : World) (a b : ByteArray) (z m : Int) (o1 : Option Addr) (k1 c1 : Nat) (o2 : Option Addr) (k2 c2 : Nat) (o3 : Option Addr) (k3 c3 : Nat) (od li ob : Int) (hN : Nod w P [.string a, .string b, .int .i64 z, .int .i64 m, .slice o1 k1 c1, .slice o2 k2 c2, .slice o3 k3 c3] x) :
    Calls Tryz.prog 30 #[.agg #[.string a, .string b, .int .i64 z, .int .i64 m, .slice o1 k1 c1, .slice o2 k2 c2, .slice o3 k3 c3, .int .i64 od, .int .i64 li, .int .i64 ob]] w fun e w' => e = .returned (.int .i64 (chkK (kindE x) : Nat)) ∧ Below w.heap.size w w' := by
  have HB := Lib.hid (box_below w (QBox a b z m o1 k1 c1 o2 k2 c2 o3 k3 c3 od li ob))
  have HC := Lib.hid (kof_any x P (w.alloc (QBox a b z m o1 k1 c1 o2 k2 c2 o3 k3 c3 od li ob)) _ _ _ _ _ _ _ _ _ _ _ _ _ (hN.under (box_below w _)))
  unfold chkK
  have hk := kindE_le x
  generalize kindE x = k at *
  generalize errK k = j at *
  clear hN
  by_cases h3 : k = 3
  · subst h3
    rw [if_pos rfl]
    go_enter Tryz.func30, Tryz.ntmps30
    go_wp2_with fail
    refine HC.out.mono ?_
    rintro e w1 ⟨rfl, b1⟩
    have B1 := Lib.hid (HB.out.trans (b1.mono HB.out.size))
    clear b1
    go_wp2
    go_ret
    exact ⟨rfl, B1.out⟩
  · rw [if_neg h3]
    have e3 : ((k : Int) == 3) = false := by simp; omega
    have e4 : ¬ (k : Int) = 3 := by omega
    clear h3 hk
    go_enter Tryz.func30, Tryz.ntmps30
    go_wp2_with fail
    refine HC.out.mono ?_
    rintro e w1 ⟨rfl, b1⟩
    have B1 := Lib.hid (HB.out.trans (b1.mono HB.out.size))
    clear b1
    go_wp2
    go_ret
    exact ⟨rfl, B1.out⟩

def DeC (f : Nat) (g : Ex → Nat) (x : Ex) : Prop := ∀ (P : Nat → Prop) (w : World) (a b : ByteArray) (z m : Int) (o1 : Option Addr) (k1 c1 : Nat) (o2 : Option Addr) (k2 c2 : Nat) (o3 : Option Addr) (k3 c3 : Nat), Nod w P [.string a, .string b, .int .i64 z, .int .i64 m, .slice o1 k1 c1, .slice o2 k2 c2, .slice o3 k3 c3] x →
  Calls Tryz.prog f #[.agg #[.string a, .string b, .int .i64 z, .int .i64 m, .slice o1 k1 c1, .slice o2 k2 c2, .slice o3 k3 c3]] w fun e w' => e = .returned (.int .i64 (g x : Nat)) ∧ Below w.heap.size w w'
theorem maxL_succ {l : List Ex} {k : Nat} {y : Ex} (h : l[k]? = some y) : maxL 0 (l.take (k + 1)) = max (maxL 0 (l.take k)) (deepE y) := by
  rw [List.take_add_one, h]
  unfold maxL
  rw [List.foldl_append]; rfl
theorem maxL_take (x : Ex) (k : Nat) : maxL 0 ((kidsE x).take k) ≤ countE x := by
  have h : ∀ (l : List Ex) (p B : Nat), p ≤ B → (∀ y ∈ l, deepE y ≤ B) → maxL p l ≤ B := by
    intro l
    induction l with
    | nil => intro p B hp _; exact hp
    | cons y l ih =>
      intro p B hp hl
      rw [maxL_cons]
      exact ih _ B (Nat.max_le.2 ⟨hp, hl y (by simp)⟩) fun z hz => hl z (by simp [hz])
  refine h _ 0 _ (Nat.zero_le _) fun y hy => ?_
  have h1 := deepE_le y
  have h2 := kids_lt (List.mem_of_mem_take hy)
  omega
theorem kids_few (x : Ex) : (kidsE x).length ≤ 2 := by cases x <;> simp [kidsE]

set_option maxHeartbeats 4000000 in
set_option maxRecDepth 100000 in
theorem deep_any : ∀ (n : Nat) (x : Ex), countE x ≤ n → countE x ≤ 1000000 → DeC 26 deepE x
  | 0, x, h, _ => by cases x <;> simp [countE] at h
  | n + 1, x, hx, hm => by
    intro P w a b z m o1 k1 c1 o2 k2 c2 o3 k3 c3 hN
    obtain ⟨-, ⟨_, _, l3⟩, _, _, css, h4, s3, hk⟩ := hN.open7
    have HK := Lib.hid (fun j y (hj : (kidsE x)[j]? = some y) => kid_at s3 (h4.trans l3.symm) hk hj)
    have HIH := Lib.hid (fun y (hy : y ∈ kidsE x) => deep_any n y (by have := kids_lt hy; omega) (by have := kids_lt hy; omega))
    have HL := Lib.hid l3
    have HM := Lib.hid hm
    have hk3 : k3 ≤ 2 := by rw [← l3]; exact kids_few x
    have HB := Lib.hid (box_below w (NBox a b z m o1 k1 c1 o2 k2 c2 o3 k3 c3))
    have HSZ := Lib.hid (show (w.alloc (NBox a b z m o1 k1 c1 o2 k2 c2 o3 k3 c3)).heap.size = w.heap.size + 1 by simp)
    have HX := Lib.hid (fun W (h : Below (w.heap.size + 1) (w.alloc (NBox a b z m o1 k1 c1 o2 k2 c2 o3 k3 c3)) W) => nbox_reads w W _ _ _ _ _ _ _ _ _ _ _ _ _ h)
    have HE := Lib.hid (deepE_eq x)
    clear hN l3 h4 s3 hk hx hm
    go_enter Tryz.func26, Tryz.ntmps26
    go_wp2_with fail
    go_loopw [3, 9] (fun vm vi wr => ∃ k p : Nat, vi = .int .i64 k ∧ vm = .int .i64 p ∧ k ≤ k3 ∧ p ≤ 1000000 ∧ Hid (p = maxL 0 ((kidsE x).take k)) ∧ Hid (Below (w.heap.size + 1) (w.alloc (NBox a b z m o1 k1 c1 o2 k2 c2 o3 k3 c3)) wr)) (fun _ vi _ => k3 - (Go.RowKit.intOf vi).toNat)
    case atStart => exact ⟨0, 0, rfl, rfl, Nat.zero_le _, by omega, rfl, Below.refl _ _⟩
    case round =>
      obtain ⟨k, p, rfl, rfl, hkk, hp, HP, HR⟩ := hrel
      have HB2 := Lib.hid (HB.out.trans (HR.out.mono (by omega)))
      obtain ⟨p0, p1, p2, p3, p4, p5, p6⟩ := HX.out wr HR.out
      by_cases hlt : k < k3
      · have j1 : (k : Int) < k3 := by omega
        obtain ⟨y, hy⟩ : ∃ y, (kidsE x)[k]? = some y := ⟨_, List.getElem?_eq_getElem (by rw [HL.out]; exact hlt)⟩
        obtain ⟨blk, off, rfl, hl, a', b', z', m', o1', k1', c1', o2', k2', c2', o3', k3', c3', hn, d0, d1, d2, d3, d4, d5, d6⟩ := HK.out k y hy
        have e0 := (HB2.out.cell (p := ⟨blk, off + k * 7 + 0, none⟩) hl).trans d0
        have e1 := (HB2.out.cell (p := ⟨blk, off + k * 7 + 1, none⟩) hl).trans d1
        have e2 := (HB2.out.cell (p := ⟨blk, off + k * 7 + 2, none⟩) hl).trans d2
        have e3 := (HB2.out.cell (p := ⟨blk, off + k * 7 + 3, none⟩) hl).trans d3
        have e4 := (HB2.out.cell (p := ⟨blk, off + k * 7 + 4, none⟩) hl).trans d4
        have e5 := (HB2.out.cell (p := ⟨blk, off + k * 7 + 5, none⟩) hl).trans d5
        have e6 := (HB2.out.cell (p := ⟨blk, off + k * 7 + 6, none⟩) hl).trans d6
        simp only [Nat.add_zero] at e0
        clear d0 d1 d2 d3 d4 d5 d6
        have HD := Lib.hid (fun W (hb : Below w.heap.size w W) => HIH.out y (List.mem_of_getElem? hy) P W _ _ _ _ _ _ _ _ _ _ _ _ _ (hn.under hb))
        obtain ⟨d, hd⟩ : ∃ d, deepE y = d := ⟨_, rfl⟩
        rw [hd] at HD
        obtain ⟨q, hq⟩ : ∃ q, max p d = q := ⟨_, rfl⟩
        have HQ := Lib.hid (show q = maxL 0 ((kidsE x).take (k + 1)) by rw [maxL_succ hy, ← HP.out, hd, hq])
        have hq2 : q ≤ 1000000 := by rw [HQ.out]; exact Nat.le_trans (maxL_take x _) HM.out
        have mx : ∀ W ts t, (Builtin.max_ ts t #[.int .i64 (p : Nat), .int .i64 (d : Nat)]).run Tryz.prog W = .ok (.int .i64 (q : Nat)) W := fun W ts t => by
          rw [run_max_int2]
          congr 2
          split <;> omega
        have HDQ := Lib.hid hq
        clear hn hy hd hq
        go_wp2_with fail
        refine (HD.out _ (below_box HB2.out _)).mono ?_
        rintro e w4 ⟨rfl, b4⟩
        have HR4 := Lib.hid (nbox_more (nbox_more HR.out ((Below.refl _ _).alloc (Nat.le_refl _) _)) b4)
        clear b4
        go_wp2
        go_roundw
        case rel => exact ⟨k + 1, q, by go_num, rfl, by omega, by omega, HQ, HR4⟩
        case measure => simp [Go.RowKit.intOf]; omega
      · have j1 : ¬ (k : Int) < k3 := by omega
        have HZ := Lib.hid (show deepE x = 1 + p by
          rw [HE.out, HP.out, List.take_of_length_le (by rw [HL.out]; omega)])
        go_wp2
        go_ret
        exact ⟨by rw [HZ.out]; go_num, HB2.out⟩

set_option maxHeartbeats 4000000 in
set_option maxRecDepth 100000 in
theorem rdeep_any : ∀ (n : Nat) (x : Ex), countE x ≤ n → countE x ≤ 1000000 → DeC 27 deepE x
  | 0, x, h, _ => by cases x <;> simp [countE] at h
  | n + 1, x, hx, hm => by
    intro P w a b z m o1 k1 c1 o2 k2 c2 o3 k3 c3 hN
    obtain ⟨-, ⟨_, _, l3⟩, _, _, css, h4, s3, hk⟩ := hN.open7
    have HK := Lib.hid (fun j y (hj : (kidsE x)[j]? = some y) => kid_at s3 (h4.trans l3.symm) hk hj)
    have HIH := Lib.hid (fun y (hy : y ∈ kidsE x) => rdeep_any n y (by have := kids_lt hy; omega) (by have := kids_lt hy; omega))
    have HL := Lib.hid l3
    have HM := Lib.hid hm
    have hk3 : k3 ≤ 2 := by rw [← l3]; exact kids_few x
    have HB := Lib.hid (box_below w (NBox a b z m o1 k1 c1 o2 k2 c2 o3 k3 c3))
    have HSZ := Lib.hid (show (w.alloc (NBox a b z m o1 k1 c1 o2 k2 c2 o3 k3 c3)).heap.size = w.heap.size + 1 by simp)
    have HX := Lib.hid (fun W (h : Below (w.heap.size + 1) (w.alloc (NBox a b z m o1 k1 c1 o2 k2 c2 o3 k3 c3)) W) => nbox_reads w W _ _ _ _ _ _ _ _ _ _ _ _ _ h)
    have HE := Lib.hid (deepE_eq x)
    clear hN l3 h4 s3 hk hx hm
    go_enter Tryz.func27, Tryz.ntmps27
    go_wp2_with fail
    go_loopw [3, 4] (fun vm vi wr => ∃ k p : Nat, vi = .int .i64 k ∧ vm = .int .i64 p ∧ k ≤ k3 ∧ p ≤ 1000000 ∧ Hid (p = maxL 0 ((kidsE x).take k)) ∧ Hid (Below (w.heap.size + 1) (w.alloc (NBox a b z m o1 k1 c1 o2 k2 c2 o3 k3 c3)) wr)) (fun _ vi _ => k3 - (Go.RowKit.intOf vi).toNat)
    case atStart => exact ⟨0, 0, rfl, rfl, Nat.zero_le _, by omega, rfl, Below.refl _ _⟩
    case round =>
      obtain ⟨k, p, rfl, rfl, hkk, hp, HP, HR⟩ := hrel
      have HB2 := Lib.hid (HB.out.trans (HR.out.mono (by omega)))
      obtain ⟨p0, p1, p2, p3, p4, p5, p6⟩ := HX.out wr HR.out
      by_cases hlt : k < k3
      · have j1 : (k : Int) < k3 := by omega
        obtain ⟨y, hy⟩ : ∃ y, (kidsE x)[k]? = some y := ⟨_, List.getElem?_eq_getElem (by rw [HL.out]; exact hlt)⟩
        obtain ⟨blk, off, rfl, hl, a', b', z', m', o1', k1', c1', o2', k2', c2', o3', k3', c3', hn, d0, d1, d2, d3, d4, d5, d6⟩ := HK.out k y hy
        have e0 := (HB2.out.cell (p := ⟨blk, off + k * 7 + 0, none⟩) hl).trans d0
        have e1 := (HB2.out.cell (p := ⟨blk, off + k * 7 + 1, none⟩) hl).trans d1
        have e2 := (HB2.out.cell (p := ⟨blk, off + k * 7 + 2, none⟩) hl).trans d2
        have e3 := (HB2.out.cell (p := ⟨blk, off + k * 7 + 3, none⟩) hl).trans d3
        have e4 := (HB2.out.cell (p := ⟨blk, off + k * 7 + 4, none⟩) hl).trans d4
        have e5 := (HB2.out.cell (p := ⟨blk, off + k * 7 + 5, none⟩) hl).trans d5
        have e6 := (HB2.out.cell (p := ⟨blk, off + k * 7 + 6, none⟩) hl).trans d6
        simp only [Nat.add_zero] at e0
        clear d0 d1 d2 d3 d4 d5 d6
        have HD := Lib.hid (fun W (hb : Below w.heap.size w W) => HIH.out y (List.mem_of_getElem? hy) P W _ _ _ _ _ _ _ _ _ _ _ _ _ (hn.under hb))
        obtain ⟨d, hd⟩ : ∃ d, deepE y = d := ⟨_, rfl⟩
        rw [hd] at HD
        obtain ⟨q, hq⟩ : ∃ q, max p d = q := ⟨_, rfl⟩
        have HQ := Lib.hid (show q = maxL 0 ((kidsE x).take (k + 1)) by rw [maxL_succ hy, ← HP.out, hd, hq])
        have hq2 : q ≤ 1000000 := by rw [HQ.out]; exact Nat.le_trans (maxL_take x _) HM.out
        have mx : ∀ W ts t, (Builtin.max_ ts t #[.int .i64 (p : Nat), .int .i64 (d : Nat)]).run Tryz.prog W = .ok (.int .i64 (q : Nat)) W := fun W ts t => by
          rw [run_max_int2]
          congr 2
          split <;> omega
        have HDQ := Lib.hid hq
        clear hn hy hd hq
        go_wp2_with fail
        refine (HD.out _ HB2.out).mono ?_
        rintro e w4 ⟨rfl, b4⟩
        have HR4 := Lib.hid (HR.out.trans (b4.mono (by have := HR.out.size; rw [HSZ.out] at this; exact this)))
        clear b4
        go_wp2
        go_roundw
        case rel => exact ⟨k + 1, q, by go_num, rfl, by omega, by omega, HQ, HR4⟩
        case measure => simp [Go.RowKit.intOf]; omega
      · have j1 : ¬ (k : Int) < k3 := by omega
        have HZ := Lib.hid (show deepE x = p + 1 by
          rw [HE.out, HP.out, List.take_of_length_le (by rw [HL.out]; omega)]
          omega)
        go_wp2
        go_ret
        exact ⟨by rw [HZ.out]; go_num, HB2.out⟩

end Go.Proofs.YtddglepimbfdkaaGreatDoor.Knd
