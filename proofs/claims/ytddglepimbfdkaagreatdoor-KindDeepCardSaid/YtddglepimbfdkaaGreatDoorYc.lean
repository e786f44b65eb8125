/- Walks (kind): the kind of a part: of its parts' kinds. -/
import Derived.Test.YtddglepimbfdkaaGreatDoorYb
import Derived.Deep.DeepMust
namespace Go.Proofs.YtddglepimbfdkaaGreatDoor.Knd
open Go.RowKit Go.Lib
open Go.Proofs.YtddglepimbfdkaaGreatDoor.Par

theorem kv_lit : kv 0 = .nilIface ∧ kv 1 = .iface 156 (.agg #[]) ∧ kv 2 = .iface 158 (.agg #[]) ∧ kv 3 = .iface 160 (.agg #[]) := ⟨rfl, rfl, rfl, rfl⟩
theorem box_below (w : World) (o : Obj) : Below w.heap.size w (w.alloc o) := (Below.refl _ _).alloc (Nat.le_refl _) _

abbrev NBox (a tx : ByteArray) (z m : Int) (o1 : Option Addr) (k1 c1 : Nat) (o2 : Option Addr) (k2 c2 : Nat) (o3 : Option Addr) (k3 c3 : Nat) : Obj := Obj.cells #[.string a, .string tx, .int .i64 z, .int .i64 m, .slice o1 k1 c1, .slice o2 k2 c2, .slice o3 k3 c3] 27
theorem nbox_reads (w W : World) (a tx : ByteArray) (z m : Int) (o1 : Option Addr) (k1 c1 : Nat) (o2 : Option Addr) (k2 c2 : Nat) (o3 : Option Addr) (k3 c3 : Nat) (h : Below (w.heap.size + 1) (w.alloc (NBox a tx z m o1 k1 c1 o2 k2 c2 o3 k3 c3)) W) :
    W.cell? ⟨w.heap.size, 0, none⟩ = some (.string a) ∧ W.cell? ⟨w.heap.size, 1, none⟩ = some (.string tx) ∧ W.cell? ⟨w.heap.size, 2, none⟩ = some (.int .i64 z) ∧ W.cell? ⟨w.heap.size, 3, none⟩ = some (.int .i64 m) ∧ W.cell? ⟨w.heap.size, 4, none⟩ = some (.slice o1 k1 c1) ∧ W.cell? ⟨w.heap.size, 5, none⟩ = some (.slice o2 k2 c2) ∧ W.cell? ⟨w.heap.size, 6, none⟩ = some (.slice o3 k3 c3) := by
  have e1 : W.heap[w.heap.size]? = some (.cells #[.string a, .string tx, .int .i64 z, .int .i64 m, .slice o1 k1 c1, .slice o2 k2 c2, .slice o3 k3 c3] 27 (0, 0)) := (h.block _ (by omega)).trans Array.getElem?_push_size
  refine ⟨?_, ?_, ?_, ?_, ?_, ?_, ?_⟩ <;> simp [World.cell?, e1]
theorem nbox_on {w W : World} {o : Obj} (h : Below (w.alloc o).heap.size (w.alloc o) W) : Below (w.heap.size + 1) (w.alloc o) W := h.mono (by simp)
theorem nbox_more {w W W2 : World} {o : Obj} (h : Below (w.heap.size + 1) (w.alloc o) W) (h2 : Below W.heap.size W W2) : Below (w.heap.size + 1) (w.alloc o) W2 :=
  h.trans (h2.mono (by have := h.size; simp at this; exact this))

set_option maxHeartbeats 2000000 in
set_option maxRecDepth 100000 in
theorem leaf_num (tx : ByteArray) (z m : Int) (o1 : Option Addr) (k1 c1 : Nat) (o2 : Option Addr) (k2 c2 : Nat) (o3 : Option Addr) (k3 c3 : Nat) (w : World) : Calls Tryz.prog 120 #[.agg #[.string ⟨#[110, 117, 109]⟩, .string tx, .int .i64 z, .int .i64 m, .slice o1 k1 c1, .slice o2 k2 c2, .slice o3 k3 c3]] w fun e w' => e = .returned (.iface 156 (.agg #[])) ∧ Below w.heap.size w w' := by
  go_enter Tryz.func120, Tryz.ntmps120
  go_wp2
  go_ret
  exact ⟨rfl, box_below _ _⟩

set_option maxHeartbeats 2000000 in
set_option maxRecDepth 100000 in
theorem leaf_range (tx : ByteArray) (z m : Int) (o1 : Option Addr) (k1 c1 : Nat) (o2 : Option Addr) (k2 c2 : Nat) (o3 : Option Addr) (k3 c3 : Nat) (hz : 0 < z) (w : World) : Calls Tryz.prog 120 #[.agg #[.string ⟨#[115, 101, 108]⟩, .string tx, .int .i64 z, .int .i64 m, .slice o1 k1 c1, .slice o2 k2 c2, .slice o3 k3 c3]] w fun e w' => e = .returned (.iface 160 (.agg #[])) ∧ Below w.heap.size w w' := by
  have h1 : z > 0 := hz
  go_enter Tryz.func120, Tryz.ntmps120
  go_wp2
  go_ret
  exact ⟨rfl, box_below _ _⟩

set_option maxHeartbeats 2000000 in
set_option maxRecDepth 100000 in
theorem leaf_sel (tx : ByteArray) (z m : Int) (o1 : Option Addr) (k1 c1 : Nat) (o2 : Option Addr) (k2 c2 : Nat) (o3 : Option Addr) (k3 c3 : Nat) (hz : ¬ 0 < z) (w : World) : Calls Tryz.prog 120 #[.agg #[.string ⟨#[115, 101, 108]⟩, .string tx, .int .i64 z, .int .i64 m, .slice o1 k1 c1, .slice o2 k2 c2, .slice o3 k3 c3]] w fun e w' => e = .returned (.iface 158 (.agg #[])) ∧ Below w.heap.size w w' := by
  have h1 : ¬ z > 0 := hz
  go_enter Tryz.func120, Tryz.ntmps120
  go_wp2
  go_ret
  exact ⟨rfl, box_below _ _⟩

set_option maxHeartbeats 2000000 in
set_option maxRecDepth 100000 in
theorem one_fn (tx : ByteArray) (z m : Int) (o1 : Option Addr) (k1 c1 : Nat) (o2 : Option Addr) (k2 c2 : Nat) (o3 : Option Addr) (k3 c3 : Nat) (k : Nat) (hk : k ≤ 3) (w : World) : Calls Tryz.prog 121 #[.agg #[.string ⟨#[102, 110]⟩, .string tx, .int .i64 z, .int .i64 m, .slice o1 k1 c1, .slice o2 k2 c2, .slice o3 k3 c3], kv k] w fun e w' => e = .returned (kv (if k = 3 then 2 else 0)) ∧ Below w.heap.size w w' := by
  have HB := Lib.hid (box_below w (Obj.cells #[.string ⟨#[102, 110]⟩, .string tx, .int .i64 z, .int .i64 m, .slice o1 k1 c1, .slice o2 k2 c2, .slice o3 k3 c3] 27))
  have C1 := Lib.hid (fun W => isRange_any k hk W)
  obtain ⟨q, hq⟩ : ∃ q, decide (k = 3) = q := ⟨_, rfl⟩
  rw [hq] at C1
  have HQ := Lib.hid hq
  obtain ⟨r, hr⟩ : ∃ r, kv (if k = 3 then 2 else 0) = r := ⟨_, rfl⟩
  rw [hr]
  have HR := Lib.hid hr
  clear hr hq hk
  generalize kv k = v at *
  cases q with
  | true =>
    obtain rfl : Value.iface 158 (.agg #[]) = r := by rw [← HR.out, if_pos (of_decide_eq_true HQ.out)]; rfl
    go_enter Tryz.func121, Tryz.ntmps121
    go_wp2_with fail
    refine (C1.out _).mono ?_
    rintro e w1 ⟨rfl, b1⟩
    have B1 := Lib.hid (HB.out.trans (b1.mono HB.out.size))
    clear b1
    go_wp2
    go_ret
    exact ⟨rfl, B1.out⟩
  | false =>
    obtain rfl : Value.nilIface = r := by rw [← HR.out, if_neg (of_decide_eq_false HQ.out)]; rfl
    have HX := Lib.hid (fun W (h : Below (w.heap.size + 1) (w.alloc (Obj.cells #[.string ⟨#[102, 110]⟩, .string tx, .int .i64 z, .int .i64 m, .slice o1 k1 c1, .slice o2 k2 c2, .slice o3 k3 c3] 27)) W) => nbox_reads w W _ _ _ _ _ _ _ _ _ _ _ _ _ h)
    go_enter Tryz.func121, Tryz.ntmps121
    go_wp2_with fail
    refine (C1.out _).mono ?_
    rintro e w1 ⟨rfl, b1⟩
    have B1 := Lib.hid (HB.out.trans (b1.mono HB.out.size))
    obtain ⟨p0, p1, p2, p3, p4, p5, p6⟩ := HX.out w1 (nbox_on b1)
    clear b1
    go_wp2
    go_ret
    exact ⟨rfl, B1.out⟩

set_option maxHeartbeats 2000000 in
set_option maxRecDepth 100000 in
theorem one_neg (tx : ByteArray) (z m : Int) (o1 : Option Addr) (k1 c1 : Nat) (o2 : Option Addr) (k2 c2 : Nat) (o3 : Option Addr) (k3 c3 : Nat) (k : Nat) (hk : k ≤ 3) (w : World) : Calls Tryz.prog 121 #[.agg #[.string ⟨#[110, 101, 103]⟩, .string tx, .int .i64 z, .int .i64 m, .slice o1 k1 c1, .slice o2 k2 c2, .slice o3 k3 c3], kv k] w fun e w' => e = .returned (kv (if k = 3 then 0 else k)) ∧ Below w.heap.size w w' := by
  have HB := Lib.hid (box_below w (Obj.cells #[.string ⟨#[110, 101, 103]⟩, .string tx, .int .i64 z, .int .i64 m, .slice o1 k1 c1, .slice o2 k2 c2, .slice o3 k3 c3] 27))
  have C1 := Lib.hid (fun W => reckons_any k hk W)
  obtain ⟨q, hq⟩ : ∃ q, decide (k = 1 ∨ k = 2) = q := ⟨_, rfl⟩
  rw [hq] at C1
  have HQ := Lib.hid hq
  obtain ⟨r, hr⟩ : ∃ r, kv (if k = 3 then 0 else k) = r := ⟨_, rfl⟩
  rw [hr]
  have HR := Lib.hid hr
  have HK := Lib.hid hk
  clear hr hq hk
  cases q with
  | true =>
    obtain rfl : kv k = r := by
      have h := of_decide_eq_true HQ.out
      rw [← HR.out, if_neg (by omega)]
    generalize kv k = v at *
    go_enter Tryz.func121, Tryz.ntmps121
    go_wp2_with fail
    refine (C1.out _).mono ?_
    rintro e w1 ⟨rfl, b1⟩
    have B1 := Lib.hid (HB.out.trans (b1.mono HB.out.size))
    clear b1
    go_wp2
    go_ret
    exact ⟨rfl, B1.out⟩
  | false =>
    obtain rfl : Value.nilIface = r := by
      have h := of_decide_eq_false HQ.out
      have h2 := HK.out
      rw [← HR.out]
      by_cases h3 : k = 3
      · rw [if_pos h3]; rfl
      · rw [if_neg h3, show k = 0 by omega]; rfl
    generalize kv k = v at *
    go_enter Tryz.func121, Tryz.ntmps121
    go_wp2_with fail
    refine (C1.out _).mono ?_
    rintro e w1 ⟨rfl, b1⟩
    have B1 := Lib.hid (HB.out.trans (b1.mono HB.out.size))
    clear b1
    go_wp2
    go_ret
    exact ⟨rfl, B1.out⟩

set_option maxHeartbeats 2000000 in
set_option maxRecDepth 100000 in
theorem one_agg (tx : ByteArray) (n : Nat) (m : Int) (o1 : Option Addr) (k1 c1 : Nat) (o2 : Option Addr) (k2 c2 : Nat) (o3 : Option Addr) (k3 c3 : Nat) (k : Nat) (hk : k ≤ 3) (w : World) : Calls Tryz.prog 121 #[.agg #[.string ⟨#[97, 103, 103]⟩, .string tx, .int .i64 (n : Nat), .int .i64 m, .slice o1 k1 c1, .slice o2 k2 c2, .slice o3 k3 c3], kv k] w fun e w' => e = .returned (kv (if k = 2 ∧ fitsN tx n = true then 2 else 0)) ∧ Below w.heap.size w w' := by
  have HB := Lib.hid (box_below w (Obj.cells #[.string ⟨#[97, 103, 103]⟩, .string tx, .int .i64 (n : Nat), .int .i64 m, .slice o1 k1 c1, .slice o2 k2 c2, .slice o3 k3 c3] 27))
  have C1 := Lib.hid (fun W => isVector_any k hk W)
  have C2 := Lib.hid (fun W => fits_any tx n W)
  obtain ⟨q, hq⟩ : ∃ q, decide (k = 2) = q := ⟨_, rfl⟩
  rw [hq] at C1
  obtain ⟨f, hf⟩ : ∃ f, fitsN tx n = f := ⟨_, rfl⟩
  rw [hf] at C2 ⊢
  have HQ := Lib.hid hq
  obtain ⟨r, hr⟩ : ∃ r, kv (if k = 2 ∧ f = true then 2 else 0) = r := ⟨_, rfl⟩
  rw [hr]
  have HR := Lib.hid hr
  have HX := Lib.hid (fun W (h : Below (w.heap.size + 1) (w.alloc (Obj.cells #[.string ⟨#[97, 103, 103]⟩, .string tx, .int .i64 (n : Nat), .int .i64 m, .slice o1 k1 c1, .slice o2 k2 c2, .slice o3 k3 c3] 27)) W) => nbox_reads w W _ _ _ _ _ _ _ _ _ _ _ _ _ h)
  clear hr hq hk hf
  generalize kv k = v at *
  cases q with
  | false =>
    obtain rfl : Value.nilIface = r := by rw [← HR.out, if_neg (fun h => of_decide_eq_false HQ.out h.1)]; rfl
    go_enter Tryz.func121, Tryz.ntmps121
    go_wp2_with fail
    refine (C1.out _).mono ?_
    rintro e w1 ⟨rfl, b1⟩
    have B1 := Lib.hid (HB.out.trans (b1.mono HB.out.size))
    obtain ⟨p0, p1, p2, p3, p4, p5, p6⟩ := HX.out w1 (nbox_on b1)
    clear b1
    go_wp2
    go_ret
    exact ⟨rfl, B1.out⟩
  | true =>
    cases f with
    | true =>
      obtain rfl : Value.iface 158 (.agg #[]) = r := by rw [← HR.out, if_pos ⟨of_decide_eq_true HQ.out, rfl⟩]; rfl
      go_enter Tryz.func121, Tryz.ntmps121
      go_wp2_with fail
      refine (C1.out _).mono ?_
      rintro e w1 ⟨rfl, b1⟩
      have B1 := Lib.hid (HB.out.trans (b1.mono HB.out.size))
      obtain ⟨p0, p1, p2, p3, p4, p5, p6⟩ := HX.out w1 (nbox_on b1)
      clear b1
      go_wp2_with fail
      refine (C2.out _).mono ?_
      rintro e w2 ⟨rfl, rfl⟩
      go_wp2
      go_ret
      exact ⟨rfl, B1.out⟩
    | false =>
      obtain rfl : Value.nilIface = r := by rw [← HR.out, if_neg (fun h => by cases h.2)]; rfl
      go_enter Tryz.func121, Tryz.ntmps121
      go_wp2_with fail
      refine (C1.out _).mono ?_
      rintro e w1 ⟨rfl, b1⟩
      have B1 := Lib.hid (HB.out.trans (b1.mono HB.out.size))
      obtain ⟨p0, p1, p2, p3, p4, p5, p6⟩ := HX.out w1 (nbox_on b1)
      clear b1
      go_wp2_with fail
      refine (C2.out _).mono ?_
      rintro e w2 ⟨rfl, rfl⟩
      go_wp2
      go_ret
      exact ⟨rfl, B1.out⟩

set_option maxHeartbeats 8000000 in
set_option maxRecDepth 100000 in
theorem two_bin (tx : ByteArray) (z : Int) (n : Nat) (o1 : Option Addr) (k1 c1 : Nat) (o2 : Option Addr) (k2 c2 : Nat) (o3 : Option Addr) (k3 c3 : Nat) (a b : Nat) (ha : a ≤ 3) (hb : b ≤ 3) (w : World) : Calls Tryz.prog 122 #[.agg #[.string ⟨#[98, 105, 110]⟩, .string tx, .int .i64 z, .int .i64 (n : Nat), .slice o1 k1 c1, .slice o2 k2 c2, .slice o3 k3 c3], kv a, kv b] w fun e w' => e = .returned (kv (twoK n a b)) ∧ Below w.heap.size w w' := by
  have HB := Lib.hid (box_below w (Obj.cells #[.string ⟨#[98, 105, 110]⟩, .string tx, .int .i64 z, .int .i64 (n : Nat), .slice o1 k1 c1, .slice o2 k2 c2, .slice o3 k3 c3] 27))
  have HX := Lib.hid (fun W (h : Below (w.heap.size + 1) (w.alloc (Obj.cells #[.string ⟨#[98, 105, 110]⟩, .string tx, .int .i64 z, .int .i64 (n : Nat), .slice o1 k1 c1, .slice o2 k2 c2, .slice o3 k3 c3] 27)) W) => nbox_reads w W _ _ _ _ _ _ _ _ _ _ _ _ _ h)
  have CRa := Lib.hid (fun W => reckons_any a ha W)
  have CRb := Lib.hid (fun W => reckons_any b hb W)
  have CVa := Lib.hid (fun W => isVector_any a ha W)
  have CVb := Lib.hid (fun W => isVector_any b hb W)
  have CNa := Lib.hid (fun W => isNumber_any a ha W)
  have CNb := Lib.hid (fun W => isNumber_any b hb W)
  have HAB := Lib.hid (And.intro ha hb)
  obtain ⟨r, hr⟩ : ∃ r, kv (twoK n a b) = r := ⟨_, rfl⟩
  rw [hr]
  have HR := Lib.hid hr
  obtain ⟨ra, hra⟩ : ∃ q, decide (a = 1 ∨ a = 2) = q := ⟨_, rfl⟩
  obtain ⟨rb, hrb⟩ : ∃ q, decide (b = 1 ∨ b = 2) = q := ⟨_, rfl⟩
  obtain ⟨va, hva⟩ : ∃ q, decide (a = 2) = q := ⟨_, rfl⟩
  obtain ⟨vb, hvb⟩ : ∃ q, decide (b = 2) = q := ⟨_, rfl⟩
  obtain ⟨na, hna⟩ : ∃ q, decide (a = 1) = q := ⟨_, rfl⟩
  obtain ⟨nb, hnb⟩ : ∃ q, decide (b = 1) = q := ⟨_, rfl⟩
  rw [hra] at CRa
  rw [hrb] at CRb
  rw [hva] at CVa
  rw [hvb] at CVb
  rw [hna] at CNa
  rw [hnb] at CNb
  have HD := Lib.hid (And.intro hra (And.intro hrb (And.intro hva (And.intro hvb (And.intro hna hnb)))))
  clear hr ha hb hra hrb hva hvb hna hnb
  generalize kv a = u at *
  generalize kv b = v at *
  cases ra with
  | false =>
    obtain rfl : Value.nilIface = r := by
      obtain ⟨d1, d2, d3, d4, d5, d6⟩ := HD.out
      have d7 := HAB.out
      simp only [decide_eq_false_iff_not] at d1 d2 d3 d4 d5 d6
      rw [← HR.out]
      unfold twoK
      rw [if_pos (by omega)]; rfl
    go_enter Tryz.func122, Tryz.ntmps122
    go_wp2_with fail
    refine (CRa.out _).mono ?_
    rintro e w1 ⟨rfl, b1⟩
    have B1 := Lib.hid (HB.out.trans (b1.mono HB.out.size))
    have X1 := Lib.hid (nbox_on b1)
    obtain ⟨p0, p1, p2, p3, p4, p5, p6⟩ := HX.out w1 X1.out
    clear b1
    go_wp2
    go_ret
    exact ⟨rfl, B1.out⟩
  | true =>
  cases rb with
  | false =>
    obtain rfl : Value.nilIface = r := by
      obtain ⟨d1, d2, d3, d4, d5, d6⟩ := HD.out
      have d7 := HAB.out
      simp only [decide_eq_true_eq, decide_eq_false_iff_not] at d1 d2 d3 d4 d5 d6
      rw [← HR.out]
      unfold twoK
      rw [if_pos (by omega)]; rfl
    go_enter Tryz.func122, Tryz.ntmps122
    go_wp2_with fail
    refine (CRa.out _).mono ?_
    rintro e w1 ⟨rfl, b1⟩
    have B1 := Lib.hid (HB.out.trans (b1.mono HB.out.size))
    have X1 := Lib.hid (nbox_on b1)
    obtain ⟨p0, p1, p2, p3, p4, p5, p6⟩ := HX.out w1 X1.out
    clear b1
    go_wp2_with fail
    refine (CRb.out _).mono ?_
    rintro e w2 ⟨rfl, b2⟩
    have B2 := Lib.hid (B1.out.trans (b2.mono B1.out.size))
    have X2 := Lib.hid (nbox_more X1.out b2)
    clear p0 p1 p2 p3 p4 p5 p6
    obtain ⟨p0, p1, p2, p3, p4, p5, p6⟩ := HX.out w2 X2.out
    clear b2
    go_wp2
    go_ret
    exact ⟨rfl, B2.out⟩
  | true =>
  cases va with
  | false =>
    by_cases hn : n = 0
    · subst hn
      cases na with
      | false =>
        obtain rfl : Value.iface 158 (.agg #[]) = r := by
          obtain ⟨d1, d2, d3, d4, d5, d6⟩ := HD.out
          have d7 := HAB.out
          simp only [decide_eq_true_eq, decide_eq_false_iff_not] at d1 d2 d3 d4 d5 d6
          rw [← HR.out]
          unfold twoK
          rw [if_neg (by omega), if_neg (by omega), if_neg (by omega), if_neg (by omega)]; rfl
        go_enter Tryz.func122, Tryz.ntmps122
        go_wp2_with fail
        refine (CRa.out _).mono ?_
        rintro e w1 ⟨rfl, b1⟩
        have B1 := Lib.hid (HB.out.trans (b1.mono HB.out.size))
        have X1 := Lib.hid (nbox_on b1)
        obtain ⟨p0, p1, p2, p3, p4, p5, p6⟩ := HX.out w1 X1.out
        clear b1
        go_wp2_with fail
        refine (CRb.out _).mono ?_
        rintro e w2 ⟨rfl, b2⟩
        have B2 := Lib.hid (B1.out.trans (b2.mono B1.out.size))
        have X2 := Lib.hid (nbox_more X1.out b2)
        clear p0 p1 p2 p3 p4 p5 p6
        obtain ⟨p0, p1, p2, p3, p4, p5, p6⟩ := HX.out w2 X2.out
        clear b2
        go_wp2_with fail
        refine (CVa.out _).mono ?_
        rintro e w3 ⟨rfl, b3⟩
        have B3 := Lib.hid (B2.out.trans (b3.mono B2.out.size))
        have X3 := Lib.hid (nbox_more X2.out b3)
        clear p0 p1 p2 p3 p4 p5 p6
        obtain ⟨p0, p1, p2, p3, p4, p5, p6⟩ := HX.out w3 X3.out
        clear b3
        go_wp2_with fail
        refine (CNa.out _).mono ?_
        rintro e w4 ⟨rfl, b4⟩
        have B4 := Lib.hid (B3.out.trans (b4.mono B3.out.size))
        have X4 := Lib.hid (nbox_more X3.out b4)
        clear p0 p1 p2 p3 p4 p5 p6
        obtain ⟨p0, p1, p2, p3, p4, p5, p6⟩ := HX.out w4 X4.out
        clear b4
        go_wp2
        go_ret
        exact ⟨rfl, B4.out⟩
      | true =>
      cases nb with
      | false =>
        obtain rfl : Value.iface 158 (.agg #[]) = r := by
          obtain ⟨d1, d2, d3, d4, d5, d6⟩ := HD.out
          have d7 := HAB.out
          simp only [decide_eq_true_eq, decide_eq_false_iff_not] at d1 d2 d3 d4 d5 d6
          rw [← HR.out]
          unfold twoK
          rw [if_neg (by omega), if_neg (by omega), if_neg (by omega), if_neg (by omega)]; rfl
        go_enter Tryz.func122, Tryz.ntmps122
        go_wp2_with fail
        refine (CRa.out _).mono ?_
        rintro e w1 ⟨rfl, b1⟩
        have B1 := Lib.hid (HB.out.trans (b1.mono HB.out.size))
        have X1 := Lib.hid (nbox_on b1)
        obtain ⟨p0, p1, p2, p3, p4, p5, p6⟩ := HX.out w1 X1.out
        clear b1
        go_wp2_with fail
        refine (CRb.out _).mono ?_
        rintro e w2 ⟨rfl, b2⟩
        have B2 := Lib.hid (B1.out.trans (b2.mono B1.out.size))
        have X2 := Lib.hid (nbox_more X1.out b2)
        clear p0 p1 p2 p3 p4 p5 p6
        obtain ⟨p0, p1, p2, p3, p4, p5, p6⟩ := HX.out w2 X2.out
        clear b2
        go_wp2_with fail
        refine (CVa.out _).mono ?_
        rintro e w3 ⟨rfl, b3⟩
        have B3 := Lib.hid (B2.out.trans (b3.mono B2.out.size))
        have X3 := Lib.hid (nbox_more X2.out b3)
        clear p0 p1 p2 p3 p4 p5 p6
        obtain ⟨p0, p1, p2, p3, p4, p5, p6⟩ := HX.out w3 X3.out
        clear b3
        go_wp2_with fail
        refine (CNa.out _).mono ?_
        rintro e w4 ⟨rfl, b4⟩
        have B4 := Lib.hid (B3.out.trans (b4.mono B3.out.size))
        have X4 := Lib.hid (nbox_more X3.out b4)
        clear p0 p1 p2 p3 p4 p5 p6
        obtain ⟨p0, p1, p2, p3, p4, p5, p6⟩ := HX.out w4 X4.out
        clear b4
        go_wp2_with fail
        refine (CNb.out _).mono ?_
        rintro e w5 ⟨rfl, b5⟩
        have B5 := Lib.hid (B4.out.trans (b5.mono B4.out.size))
        have X5 := Lib.hid (nbox_more X4.out b5)
        clear p0 p1 p2 p3 p4 p5 p6
        obtain ⟨p0, p1, p2, p3, p4, p5, p6⟩ := HX.out w5 X5.out
        clear b5
        go_wp2
        go_ret
        exact ⟨rfl, B5.out⟩
      | true =>
        obtain rfl : Value.iface 156 (.agg #[]) = r := by
          obtain ⟨d1, d2, d3, d4, d5, d6⟩ := HD.out
          have d7 := HAB.out
          simp only [decide_eq_true_eq, decide_eq_false_iff_not] at d1 d2 d3 d4 d5 d6
          rw [← HR.out]
          unfold twoK
          rw [if_neg (by omega), if_neg (by omega), if_neg (by omega), if_pos (by omega)]; rfl
        go_enter Tryz.func122, Tryz.ntmps122
        go_wp2_with fail
        refine (CRa.out _).mono ?_
        rintro e w1 ⟨rfl, b1⟩
        have B1 := Lib.hid (HB.out.trans (b1.mono HB.out.size))
        have X1 := Lib.hid (nbox_on b1)
        obtain ⟨p0, p1, p2, p3, p4, p5, p6⟩ := HX.out w1 X1.out
        clear b1
        go_wp2_with fail
        refine (CRb.out _).mono ?_
        rintro e w2 ⟨rfl, b2⟩
        have B2 := Lib.hid (B1.out.trans (b2.mono B1.out.size))
        have X2 := Lib.hid (nbox_more X1.out b2)
        clear p0 p1 p2 p3 p4 p5 p6
        obtain ⟨p0, p1, p2, p3, p4, p5, p6⟩ := HX.out w2 X2.out
        clear b2
        go_wp2_with fail
        refine (CVa.out _).mono ?_
        rintro e w3 ⟨rfl, b3⟩
        have B3 := Lib.hid (B2.out.trans (b3.mono B2.out.size))
        have X3 := Lib.hid (nbox_more X2.out b3)
        clear p0 p1 p2 p3 p4 p5 p6
        obtain ⟨p0, p1, p2, p3, p4, p5, p6⟩ := HX.out w3 X3.out
        clear b3
        go_wp2_with fail
        refine (CNa.out _).mono ?_
        rintro e w4 ⟨rfl, b4⟩
        have B4 := Lib.hid (B3.out.trans (b4.mono B3.out.size))
        have X4 := Lib.hid (nbox_more X3.out b4)
        clear p0 p1 p2 p3 p4 p5 p6
        obtain ⟨p0, p1, p2, p3, p4, p5, p6⟩ := HX.out w4 X4.out
        clear b4
        go_wp2_with fail
        refine (CNb.out _).mono ?_
        rintro e w5 ⟨rfl, b5⟩
        have B5 := Lib.hid (B4.out.trans (b5.mono B4.out.size))
        have X5 := Lib.hid (nbox_more X4.out b5)
        clear p0 p1 p2 p3 p4 p5 p6
        obtain ⟨p0, p1, p2, p3, p4, p5, p6⟩ := HX.out w5 X5.out
        clear b5
        go_wp2
        go_ret
        exact ⟨rfl, B5.out⟩
    · have hn2 : ((n : Int) != 0) = true := by simp [hn]
      obtain rfl : Value.nilIface = r := by
        obtain ⟨d1, d2, d3, d4, d5, d6⟩ := HD.out
        have d7 := HAB.out
        simp only [decide_eq_true_eq, decide_eq_false_iff_not] at d1 d2 d3 d4 d5 d6
        rw [← HR.out]
        unfold twoK
        rw [if_neg (by omega), if_neg (by omega), if_pos (by omega)]; rfl
      clear hn
      go_enter Tryz.func122, Tryz.ntmps122
      go_wp2_with fail
      refine (CRa.out _).mono ?_
      rintro e w1 ⟨rfl, b1⟩
      have B1 := Lib.hid (HB.out.trans (b1.mono HB.out.size))
      have X1 := Lib.hid (nbox_on b1)
      obtain ⟨p0, p1, p2, p3, p4, p5, p6⟩ := HX.out w1 X1.out
      clear b1
      go_wp2_with fail
      refine (CRb.out _).mono ?_
      rintro e w2 ⟨rfl, b2⟩
      have B2 := Lib.hid (B1.out.trans (b2.mono B1.out.size))
      have X2 := Lib.hid (nbox_more X1.out b2)
      clear p0 p1 p2 p3 p4 p5 p6
      obtain ⟨p0, p1, p2, p3, p4, p5, p6⟩ := HX.out w2 X2.out
      clear b2
      go_wp2_with fail
      refine (CVa.out _).mono ?_
      rintro e w3 ⟨rfl, b3⟩
      have B3 := Lib.hid (B2.out.trans (b3.mono B2.out.size))
      have X3 := Lib.hid (nbox_more X2.out b3)
      clear p0 p1 p2 p3 p4 p5 p6
      obtain ⟨p0, p1, p2, p3, p4, p5, p6⟩ := HX.out w3 X3.out
      clear b3
      go_wp2
      go_ret
      exact ⟨rfl, B3.out⟩
  | true =>
  cases vb with
  | false =>
    by_cases hn : n = 0
    · subst hn
      cases na with
      | false =>
        obtain rfl : Value.iface 158 (.agg #[]) = r := by
          obtain ⟨d1, d2, d3, d4, d5, d6⟩ := HD.out
          have d7 := HAB.out
          simp only [decide_eq_true_eq, decide_eq_false_iff_not] at d1 d2 d3 d4 d5 d6
          rw [← HR.out]
          unfold twoK
          rw [if_neg (by omega), if_neg (by omega), if_neg (by omega), if_neg (by omega)]; rfl
        go_enter Tryz.func122, Tryz.ntmps122
        go_wp2_with fail
        refine (CRa.out _).mono ?_
        rintro e w1 ⟨rfl, b1⟩
        have B1 := Lib.hid (HB.out.trans (b1.mono HB.out.size))
        have X1 := Lib.hid (nbox_on b1)
        obtain ⟨p0, p1, p2, p3, p4, p5, p6⟩ := HX.out w1 X1.out
        clear b1
        go_wp2_with fail
        refine (CRb.out _).mono ?_
        rintro e w2 ⟨rfl, b2⟩
        have B2 := Lib.hid (B1.out.trans (b2.mono B1.out.size))
        have X2 := Lib.hid (nbox_more X1.out b2)
        clear p0 p1 p2 p3 p4 p5 p6
        obtain ⟨p0, p1, p2, p3, p4, p5, p6⟩ := HX.out w2 X2.out
        clear b2
        go_wp2_with fail
        refine (CVa.out _).mono ?_
        rintro e w3 ⟨rfl, b3⟩
        have B3 := Lib.hid (B2.out.trans (b3.mono B2.out.size))
        have X3 := Lib.hid (nbox_more X2.out b3)
        clear p0 p1 p2 p3 p4 p5 p6
        obtain ⟨p0, p1, p2, p3, p4, p5, p6⟩ := HX.out w3 X3.out
        clear b3
        go_wp2_with fail
        refine (CVb.out _).mono ?_
        rintro e w4 ⟨rfl, b4⟩
        have B4 := Lib.hid (B3.out.trans (b4.mono B3.out.size))
        have X4 := Lib.hid (nbox_more X3.out b4)
        clear p0 p1 p2 p3 p4 p5 p6
        obtain ⟨p0, p1, p2, p3, p4, p5, p6⟩ := HX.out w4 X4.out
        clear b4
        go_wp2_with fail
        refine (CNa.out _).mono ?_
        rintro e w5 ⟨rfl, b5⟩
        have B5 := Lib.hid (B4.out.trans (b5.mono B4.out.size))
        have X5 := Lib.hid (nbox_more X4.out b5)
        clear p0 p1 p2 p3 p4 p5 p6
        obtain ⟨p0, p1, p2, p3, p4, p5, p6⟩ := HX.out w5 X5.out
        clear b5
        go_wp2
        go_ret
        exact ⟨rfl, B5.out⟩
      | true =>
      cases nb with
      | false =>
        obtain rfl : Value.iface 158 (.agg #[]) = r := by
          obtain ⟨d1, d2, d3, d4, d5, d6⟩ := HD.out
          have d7 := HAB.out
          simp only [decide_eq_true_eq, decide_eq_false_iff_not] at d1 d2 d3 d4 d5 d6
          rw [← HR.out]
          unfold twoK
          rw [if_neg (by omega), if_neg (by omega), if_neg (by omega), if_neg (by omega)]; rfl
        go_enter Tryz.func122, Tryz.ntmps122
        go_wp2_with fail
        refine (CRa.out _).mono ?_
        rintro e w1 ⟨rfl, b1⟩
        have B1 := Lib.hid (HB.out.trans (b1.mono HB.out.size))
        have X1 := Lib.hid (nbox_on b1)
        obtain ⟨p0, p1, p2, p3, p4, p5, p6⟩ := HX.out w1 X1.out
        clear b1
        go_wp2_with fail
        refine (CRb.out _).mono ?_
        rintro e w2 ⟨rfl, b2⟩
        have B2 := Lib.hid (B1.out.trans (b2.mono B1.out.size))
        have X2 := Lib.hid (nbox_more X1.out b2)
        clear p0 p1 p2 p3 p4 p5 p6
        obtain ⟨p0, p1, p2, p3, p4, p5, p6⟩ := HX.out w2 X2.out
        clear b2
        go_wp2_with fail
        refine (CVa.out _).mono ?_
        rintro e w3 ⟨rfl, b3⟩
        have B3 := Lib.hid (B2.out.trans (b3.mono B2.out.size))
        have X3 := Lib.hid (nbox_more X2.out b3)
        clear p0 p1 p2 p3 p4 p5 p6
        obtain ⟨p0, p1, p2, p3, p4, p5, p6⟩ := HX.out w3 X3.out
        clear b3
        go_wp2_with fail
        refine (CVb.out _).mono ?_
        rintro e w4 ⟨rfl, b4⟩
        have B4 := Lib.hid (B3.out.trans (b4.mono B3.out.size))
        have X4 := Lib.hid (nbox_more X3.out b4)
        clear p0 p1 p2 p3 p4 p5 p6
        obtain ⟨p0, p1, p2, p3, p4, p5, p6⟩ := HX.out w4 X4.out
        clear b4
        go_wp2_with fail
        refine (CNa.out _).mono ?_
        rintro e w5 ⟨rfl, b5⟩
        have B5 := Lib.hid (B4.out.trans (b5.mono B4.out.size))
        have X5 := Lib.hid (nbox_more X4.out b5)
        clear p0 p1 p2 p3 p4 p5 p6
        obtain ⟨p0, p1, p2, p3, p4, p5, p6⟩ := HX.out w5 X5.out
        clear b5
        go_wp2_with fail
        refine (CNb.out _).mono ?_
        rintro e w6 ⟨rfl, b6⟩
        have B6 := Lib.hid (B5.out.trans (b6.mono B5.out.size))
        have X6 := Lib.hid (nbox_more X5.out b6)
        clear p0 p1 p2 p3 p4 p5 p6
        obtain ⟨p0, p1, p2, p3, p4, p5, p6⟩ := HX.out w6 X6.out
        clear b6
        go_wp2
        go_ret
        exact ⟨rfl, B6.out⟩
      | true =>
        obtain rfl : Value.iface 156 (.agg #[]) = r := by
          obtain ⟨d1, d2, d3, d4, d5, d6⟩ := HD.out
          have d7 := HAB.out
          simp only [decide_eq_true_eq, decide_eq_false_iff_not] at d1 d2 d3 d4 d5 d6
          rw [← HR.out]
          unfold twoK
          rw [if_neg (by omega), if_neg (by omega), if_neg (by omega), if_pos (by omega)]; rfl
        go_enter Tryz.func122, Tryz.ntmps122
        go_wp2_with fail
        refine (CRa.out _).mono ?_
        rintro e w1 ⟨rfl, b1⟩
        have B1 := Lib.hid (HB.out.trans (b1.mono HB.out.size))
        have X1 := Lib.hid (nbox_on b1)
        obtain ⟨p0, p1, p2, p3, p4, p5, p6⟩ := HX.out w1 X1.out
        clear b1
        go_wp2_with fail
        refine (CRb.out _).mono ?_
        rintro e w2 ⟨rfl, b2⟩
        have B2 := Lib.hid (B1.out.trans (b2.mono B1.out.size))
        have X2 := Lib.hid (nbox_more X1.out b2)
        clear p0 p1 p2 p3 p4 p5 p6
        obtain ⟨p0, p1, p2, p3, p4, p5, p6⟩ := HX.out w2 X2.out
        clear b2
        go_wp2_with fail
        refine (CVa.out _).mono ?_
        rintro e w3 ⟨rfl, b3⟩
        have B3 := Lib.hid (B2.out.trans (b3.mono B2.out.size))
        have X3 := Lib.hid (nbox_more X2.out b3)
        clear p0 p1 p2 p3 p4 p5 p6
        obtain ⟨p0, p1, p2, p3, p4, p5, p6⟩ := HX.out w3 X3.out
        clear b3
        go_wp2_with fail
        refine (CVb.out _).mono ?_
        rintro e w4 ⟨rfl, b4⟩
        have B4 := Lib.hid (B3.out.trans (b4.mono B3.out.size))
        have X4 := Lib.hid (nbox_more X3.out b4)
        clear p0 p1 p2 p3 p4 p5 p6
        obtain ⟨p0, p1, p2, p3, p4, p5, p6⟩ := HX.out w4 X4.out
        clear b4
        go_wp2_with fail
        refine (CNa.out _).mono ?_
        rintro e w5 ⟨rfl, b5⟩
        have B5 := Lib.hid (B4.out.trans (b5.mono B4.out.size))
        have X5 := Lib.hid (nbox_more X4.out b5)
        clear p0 p1 p2 p3 p4 p5 p6
        obtain ⟨p0, p1, p2, p3, p4, p5, p6⟩ := HX.out w5 X5.out
        clear b5
        go_wp2_with fail
        refine (CNb.out _).mono ?_
        rintro e w6 ⟨rfl, b6⟩
        have B6 := Lib.hid (B5.out.trans (b6.mono B5.out.size))
        have X6 := Lib.hid (nbox_more X5.out b6)
        clear p0 p1 p2 p3 p4 p5 p6
        obtain ⟨p0, p1, p2, p3, p4, p5, p6⟩ := HX.out w6 X6.out
        clear b6
        go_wp2
        go_ret
        exact ⟨rfl, B6.out⟩
    · have hn2 : ((n : Int) != 0) = true := by simp [hn]
      obtain rfl : Value.nilIface = r := by
        obtain ⟨d1, d2, d3, d4, d5, d6⟩ := HD.out
        have d7 := HAB.out
        simp only [decide_eq_true_eq, decide_eq_false_iff_not] at d1 d2 d3 d4 d5 d6
        rw [← HR.out]
        unfold twoK
        rw [if_neg (by omega), if_neg (by omega), if_pos (by omega)]; rfl
      clear hn
      go_enter Tryz.func122, Tryz.ntmps122
      go_wp2_with fail
      refine (CRa.out _).mono ?_
      rintro e w1 ⟨rfl, b1⟩
      have B1 := Lib.hid (HB.out.trans (b1.mono HB.out.size))
      have X1 := Lib.hid (nbox_on b1)
      obtain ⟨p0, p1, p2, p3, p4, p5, p6⟩ := HX.out w1 X1.out
      clear b1
      go_wp2_with fail
      refine (CRb.out _).mono ?_
      rintro e w2 ⟨rfl, b2⟩
      have B2 := Lib.hid (B1.out.trans (b2.mono B1.out.size))
      have X2 := Lib.hid (nbox_more X1.out b2)
      clear p0 p1 p2 p3 p4 p5 p6
      obtain ⟨p0, p1, p2, p3, p4, p5, p6⟩ := HX.out w2 X2.out
      clear b2
      go_wp2_with fail
      refine (CVa.out _).mono ?_
      rintro e w3 ⟨rfl, b3⟩
      have B3 := Lib.hid (B2.out.trans (b3.mono B2.out.size))
      have X3 := Lib.hid (nbox_more X2.out b3)
      clear p0 p1 p2 p3 p4 p5 p6
      obtain ⟨p0, p1, p2, p3, p4, p5, p6⟩ := HX.out w3 X3.out
      clear b3
      go_wp2_with fail
      refine (CVb.out _).mono ?_
      rintro e w4 ⟨rfl, b4⟩
      have B4 := Lib.hid (B3.out.trans (b4.mono B3.out.size))
      have X4 := Lib.hid (nbox_more X3.out b4)
      clear p0 p1 p2 p3 p4 p5 p6
      obtain ⟨p0, p1, p2, p3, p4, p5, p6⟩ := HX.out w4 X4.out
      clear b4
      go_wp2
      go_ret
      exact ⟨rfl, B4.out⟩
  | true =>
    obtain rfl : Value.iface 158 (.agg #[]) = r := by
      obtain ⟨d1, d2, d3, d4, d5, d6⟩ := HD.out
      have d7 := HAB.out
      simp only [decide_eq_true_eq] at d1 d2 d3 d4 d5 d6
      rw [← HR.out]
      unfold twoK
      rw [if_neg (by omega), if_pos (by omega)]; rfl
    go_enter Tryz.func122, Tryz.ntmps122
    go_wp2_with fail
    refine (CRa.out _).mono ?_
    rintro e w1 ⟨rfl, b1⟩
    have B1 := Lib.hid (HB.out.trans (b1.mono HB.out.size))
    have X1 := Lib.hid (nbox_on b1)
    obtain ⟨p0, p1, p2, p3, p4, p5, p6⟩ := HX.out w1 X1.out
    clear b1
    go_wp2_with fail
    refine (CRb.out _).mono ?_
    rintro e w2 ⟨rfl, b2⟩
    have B2 := Lib.hid (B1.out.trans (b2.mono B1.out.size))
    have X2 := Lib.hid (nbox_more X1.out b2)
    clear p0 p1 p2 p3 p4 p5 p6
    obtain ⟨p0, p1, p2, p3, p4, p5, p6⟩ := HX.out w2 X2.out
    clear b2
    go_wp2_with fail
    refine (CVa.out _).mono ?_
    rintro e w3 ⟨rfl, b3⟩
    have B3 := Lib.hid (B2.out.trans (b3.mono B2.out.size))
    have X3 := Lib.hid (nbox_more X2.out b3)
    clear p0 p1 p2 p3 p4 p5 p6
    obtain ⟨p0, p1, p2, p3, p4, p5, p6⟩ := HX.out w3 X3.out
    clear b3
    go_wp2_with fail
    refine (CVb.out _).mono ?_
    rintro e w4 ⟨rfl, b4⟩
    have B4 := Lib.hid (B3.out.trans (b4.mono B3.out.size))
    have X4 := Lib.hid (nbox_more X3.out b4)
    clear p0 p1 p2 p3 p4 p5 p6
    obtain ⟨p0, p1, p2, p3, p4, p5, p6⟩ := HX.out w4 X4.out
    clear b4
    go_wp2
    go_ret
    exact ⟨rfl, B4.out⟩
end Go.Proofs.YtddglepimbfdkaaGreatDoor.Knd
