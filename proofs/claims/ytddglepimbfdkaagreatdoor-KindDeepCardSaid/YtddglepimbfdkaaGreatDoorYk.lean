/- Walks (kind): the calls on a query that was read; a first answer that the document fixes. -/
import Derived.Test.YtddglepimbfdkaaGreatDoorYi
namespace Go.Proofs.YtddglepimbfdkaaGreatDoor.Knd
open Go.RowKit Go.Lib
open Go.Proofs.YtddglepimbfdkaaGreatDoor.Par

theorem kof_is {x : Ex} {k e : Int} (hk : (kindE x : Nat) = k) (he : (errK (kindE x) : Nat) = e) (P : Nat → Prop) (w : World) (a b : ByteArray) (z m : Int) (o1 : Option Addr) (k1 c1 : Nat) (o2 : Option Addr) (k2 c2 : Nat) (o3 : Option Addr) (k3 c3 : Nat) (hN : Nod w P [.string a, .string b, .int .i64 z, .int .i64 m, .slice o1 k1 c1, .slice o2 k2 c2, .slice o3 k3 c3] x) :
    Calls Tryz.prog 22 #[.agg #[.string a, .string b, .int .i64 z, .int .i64 m, .slice o1 k1 c1, .slice o2 k2 c2, .slice o3 k3 c3]] w fun r w' => r = .returned (.tuple #[.int .i64 k, .int .i64 e]) ∧ Below w.heap.size w w' := by
  subst hk; subst he; exact kof_any x P w _ _ _ _ _ _ _ _ _ _ _ _ _ hN
theorem kcheck_is {x : Ex} {k : Int} (hk : (chkK (kindE x) : Nat) = k) (P : Nat → Prop) (w : World) (a b : ByteArray) (z m : Int) (o1 : Option Addr) (k1 c1 : Nat) (o2 : Option Addr) (k2 c2 : Nat) (o3 : Option Addr) (k3 c3 : Nat) (od li ob : Int) (hN : Nod w P [.string a, .string b, .int .i64 z, .int .i64 m, .slice o1 k1 c1, .slice o2 k2 c2, .slice o3 k3 c3] x) :
    Calls Tryz.prog 30 #[.agg #[.string a, .string b, .int .i64 z, .int .i64 m, .slice o1 k1 c1, .slice o2 k2 c2, .slice o3 k3 c3, .int .i64 od, .int .i64 li, .int .i64 ob]] w fun r w' => r = .returned (.int .i64 k) ∧ Below w.heap.size w w' := by
  subst hk; exact kcheck_any x P w _ _ _ _ _ _ _ _ _ _ _ _ _ od li ob hN
theorem dec_is {f : Nat} {g : Ex → Nat} {x : Ex} {k : Int} (h : DeC f g x) (hk : (g x : Nat) = k) (P : Nat → Prop) (w : World) (a b : ByteArray) (z m : Int) (o1 : Option Addr) (k1 c1 : Nat) (o2 : Option Addr) (k2 c2 : Nat) (o3 : Option Addr) (k3 c3 : Nat) (hN : Nod w P [.string a, .string b, .int .i64 z, .int .i64 m, .slice o1 k1 c1, .slice o2 k2 c2, .slice o3 k3 c3] x) :
    Calls Tryz.prog f #[.agg #[.string a, .string b, .int .i64 z, .int .i64 m, .slice o1 k1 c1, .slice o2 k2 c2, .slice o3 k3 c3]] w fun r w' => r = .returned (.int .i64 k) ∧ Below w.heap.size w w' := by
  subst hk; exact h P w _ _ _ _ _ _ _ _ _ _ _ _ _ hN
def r1 : Ex := .bin (bz [43]) 0 [] (.fn (bz [114, 97, 116, 101]) (.sel (bz [99, 112, 117]) 300 [])) (.num 1)
def r2 : Ex := .fn (bz [114, 97, 116, 101]) (.sel (bz [99, 112, 117]) 0 [])
theorem alive_r1 : readL [114, 97, 116, 101, 40, 99, 112, 117, 91, 53, 109, 93, 41, 32, 43, 32, 49] = some ⟨r1, 0, -1, -1⟩ := by decide +kernel
theorem alive_r2 : readL [114, 97, 116, 101, 40, 99, 112, 117, 41] = some ⟨r2, 0, -1, -1⟩ := by decide +kernel
theorem r1_facts : kindE r1 = 2 ∧ kindE r2 = 0 ∧ deepE r1 = 3 ∧ countE r1 = 4 := by decide +kernel

set_option maxHeartbeats 8000000 in
set_option maxRecDepth 100000 in
theorem alive_kind (w : World) (h : Env w) : Calls Tryz.prog 21 #[] w fun e w' => e = .returned (.bool true) ∧ Below w.heap.size w w' := by
  obtain ⟨f1, f2, f3, f4⟩ := r1_facts
  have C1 := Lib.hid (fun W (hb : Below w.heap.size w W) => read_is ⟨#[114, 97, 116, 101, 40, 99, 112, 117, 91, 53, 109, 93, 41, 32, 43, 32, 49]⟩ (by decide) ⟨r1, 0, -1, -1⟩ alive_r1 0 rfl W (h.below hb))
  have C2 := Lib.hid (fun W (hb : Below w.heap.size w W) => read_is ⟨#[114, 97, 116, 101, 40, 99, 112, 117, 41]⟩ (by decide) ⟨r2, 0, -1, -1⟩ alive_r2 0 rfl W (h.below hb))
  have K1 := Lib.hid (fun P W a b z m o1 k1 c1 o2 k2 c2 o3 k3 c3 hN => kof_is (x := r1) (k := 2) (e := 0) (by rw [f1]; rfl) (by rw [f1]; rfl) P W a b z m o1 k1 c1 o2 k2 c2 o3 k3 c3 hN)
  have K2 := Lib.hid (fun P W a b z m o1 k1 c1 o2 k2 c2 o3 k3 c3 hN => kof_is (x := r2) (k := 0) (e := 3) (by rw [f2]; rfl) (by rw [f2]; rfl) P W a b z m o1 k1 c1 o2 k2 c2 o3 k3 c3 hN)
  have K3 := Lib.hid (fun P W a b z m o1 k1 c1 o2 k2 c2 o3 k3 c3 od li ob hN => kcheck_is (x := r1) (k := 0) (by rw [f1]; rfl) P W a b z m o1 k1 c1 o2 k2 c2 o3 k3 c3 od li ob hN)
  have K4 := Lib.hid (fun P W a b z m o1 k1 c1 o2 k2 c2 o3 k3 c3 hN => dec_is (deep_any _ r1 (Nat.le_refl _) (by rw [f4]; decide)) (k := 3) (by rw [f3]; rfl) P W a b z m o1 k1 c1 o2 k2 c2 o3 k3 c3 hN)
  clear f1 f2 f3 f4 h
  go_enter Tryz.func21, Tryz.ntmps21
  go_wp2_with fail
  refine (C1.out _ (Below.refl _ _)).mono ?_
  rintro e w2 ⟨⟨a, tx, z, m, o1, k1, c1, o2, k2, c2, o3, k3, c3, rfl, hn⟩, b2⟩
  have B2 := Lib.hid b2
  have HN := Lib.hid (hn.under ((Below.refl _ _).alloc (Nat.le_refl _) (Obj.cells #[.string a, .string tx, .int .i64 z, .int .i64 m, .slice o1 k1 c1, .slice o2 k2 c2, .slice o3 k3 c3, .int .i64 0, .int .i64 (-1), .int .i64 (-1)] 29)))
  have HX2 := Lib.hid (box_start w2 (Obj.cells #[.string a, .string tx, .int .i64 z, .int .i64 m, .slice o1 k1 c1, .slice o2 k2 c2, .slice o3 k3 c3, .int .i64 0, .int .i64 (-1), .int .i64 (-1)] 29))
  clear b2 hn
  go_wp2_with fail
  refine (C2.out _ (below_past B2.out HX2.out)).mono ?_
  rintro e w4 ⟨⟨a', tx', z', m', o1', k1', c1', o2', k2', c2', o3', k3', c3', rfl, hn'⟩, b4⟩
  obtain ⟨w5, hw5⟩ : ∃ w5, w4.alloc (Obj.cells #[.string a', .string tx', .int .i64 z', .int .i64 m', .slice o1' k1' c1', .slice o2' k2' c2', .slice o3' k3' c3', .int .i64 0, .int .i64 (-1), .int .i64 (-1)] 29) = w5 := ⟨_, rfl⟩
  have hX5 : Below (w2.heap.size + 1) (w2.alloc (Obj.cells #[.string a, .string tx, .int .i64 z, .int .i64 m, .slice o1 k1 c1, .slice o2 k2 c2, .slice o3 k3 c3, .int .i64 0, .int .i64 (-1), .int .i64 (-1)] 29)) w5 := by rw [← hw5]; exact box_more (box_more HX2.out b4) ((Below.refl w4.heap.size w4).alloc (Nat.le_refl _) _)
  have hY5 : Below (w4.heap.size + 1) (w4.alloc (Obj.cells #[.string a', .string tx', .int .i64 z', .int .i64 m', .slice o1' k1' c1', .slice o2' k2' c2', .slice o3' k3' c3', .int .i64 0, .int .i64 (-1), .int .i64 (-1)] 29)) w5 := by rw [← hw5]; exact box_start _ _
  have hN5 := HN.out.under ((b4.trans ((show Below w4.heap.size w4 w5 by rw [← hw5]; exact (Below.refl _ _).alloc (Nat.le_refl _) _).mono b4.size)) : Below (w2.alloc (Obj.cells #[.string a, .string tx, .int .i64 z, .int .i64 m, .slice o1 k1 c1, .slice o2 k2 c2, .slice o3 k3 c3, .int .i64 0, .int .i64 (-1), .int .i64 (-1)] 29)).heap.size (w2.alloc (Obj.cells #[.string a, .string tx, .int .i64 z, .int .i64 m, .slice o1 k1 c1, .slice o2 k2 c2, .slice o3 k3 c3, .int .i64 0, .int .i64 (-1), .int .i64 (-1)] 29)) w5)
  have hN5' := hn'.under (show Below w4.heap.size w4 w5 by rw [← hw5]; exact (Below.refl _ _).alloc (Nat.le_refl _) _)
  have HB5 := Lib.hid (below_past B2.out hX5)
  have hz1 : w2.heap.size + 1 ≤ w5.heap.size := by have := hX5.size; rw [qbox_size] at this; exact this
  have hz2 : w4.heap.size + 1 ≤ w5.heap.size := by have := hY5.size; rw [qbox_size] at this; exact this
  have HKS := Lib.hid (fun W (hb : Below w5.heap.size w5 W) => (show (W.cell? ⟨w2.heap.size, 0, none⟩ = some (.string a) ∧ W.cell? ⟨w2.heap.size, 1, none⟩ = some (.string tx) ∧ W.cell? ⟨w2.heap.size, 2, none⟩ = some (.int .i64 z) ∧ W.cell? ⟨w2.heap.size, 3, none⟩ = some (.int .i64 m) ∧ W.cell? ⟨w2.heap.size, 4, none⟩ = some (.slice o1 k1 c1) ∧ W.cell? ⟨w2.heap.size, 5, none⟩ = some (.slice o2 k2 c2) ∧ W.cell? ⟨w2.heap.size, 6, none⟩ = some (.slice o3 k3 c3) ∧ W.cell? ⟨w2.heap.size, 7, none⟩ = some (.int .i64 0) ∧ W.cell? ⟨w2.heap.size, 8, none⟩ = some (.int .i64 (-1)) ∧ W.cell? ⟨w2.heap.size, 9, none⟩ = some (.int .i64 (-1))) ∧ (W.cell? ⟨w4.heap.size, 0, none⟩ = some (.string a') ∧ W.cell? ⟨w4.heap.size, 1, none⟩ = some (.string tx') ∧ W.cell? ⟨w4.heap.size, 2, none⟩ = some (.int .i64 z') ∧ W.cell? ⟨w4.heap.size, 3, none⟩ = some (.int .i64 m') ∧ W.cell? ⟨w4.heap.size, 4, none⟩ = some (.slice o1' k1' c1') ∧ W.cell? ⟨w4.heap.size, 5, none⟩ = some (.slice o2' k2' c2') ∧ W.cell? ⟨w4.heap.size, 6, none⟩ = some (.slice o3' k3' c3') ∧ W.cell? ⟨w4.heap.size, 7, none⟩ = some (.int .i64 0) ∧ W.cell? ⟨w4.heap.size, 8, none⟩ = some (.int .i64 (-1)) ∧ W.cell? ⟨w4.heap.size, 9, none⟩ = some (.int .i64 (-1))) from
    ⟨qbox_reads _ _ _ _ _ _ _ _ _ _ _ _ _ _ _ _ _ _ (hX5.trans (hb.mono hz1)), qbox_reads _ _ _ _ _ _ _ _ _ _ _ _ _ _ _ _ _ _ (hY5.trans (hb.mono hz2))⟩))
  have HNN := Lib.hid (And.intro hN5 hN5')
  have HW5 := Lib.hid hw5
  obtain ⟨⟨p0, p1, p2, p3, p4, p5, p6, p7, p8, p9⟩, q0, q1, q2, q3, q4, q5, q6, q7, q8, q9⟩ := HKS.out w5 (Below.refl _ _)
  rw [← HW5.out] at p0 p1 p2 p3 p4 p5 p6 p7 p8 p9 q0 q1 q2 q3 q4 q5 q6 q7 q8 q9
  clear b4 hn' hX5 hY5 hN5 hN5' hz1 hz2 hw5
  go_wp2_with fail
  rw [show w4.alloc (Obj.cells #[.string a', .string tx', .int .i64 z', .int .i64 m', .slice o1' k1' c1', .slice o2' k2' c2', .slice o3' k3' c3', .int .i64 0, .int .i64 (-1), .int .i64 (-1)] 29) = w5 from HW5.out]
  refine (K1.out _ _ _ _ _ _ _ _ _ _ _ _ _ _ _ HNN.out.1).mono ?_
  rintro e w6 ⟨rfl, b6⟩
  have H6 := Lib.hid b6
  clear b6 p0 p1 p2 p3 p4 p5 p6 p7 p8 p9 q0 q1 q2 q3 q4 q5 q6 q7 q8 q9
  obtain ⟨⟨p0, p1, p2, p3, p4, p5, p6, p7, p8, p9⟩, q0, q1, q2, q3, q4, q5, q6, q7, q8, q9⟩ := HKS.out w6 H6.out
  go_wp2_with fail
  refine (K2.out _ _ _ _ _ _ _ _ _ _ _ _ _ _ _ (HNN.out.2.under H6.out)).mono ?_
  rintro e w7 ⟨rfl, b7⟩
  have H7 := Lib.hid (H6.out.trans (b7.mono H6.out.size))
  clear b7 p0 p1 p2 p3 p4 p5 p6 p7 p8 p9 q0 q1 q2 q3 q4 q5 q6 q7 q8 q9
  obtain ⟨⟨p0, p1, p2, p3, p4, p5, p6, p7, p8, p9⟩, q0, q1, q2, q3, q4, q5, q6, q7, q8, q9⟩ := HKS.out w7 H7.out
  go_wp2_with fail
  refine (K3.out _ _ _ _ _ _ _ _ _ _ _ _ _ _ _ _ _ _ (HNN.out.1.under H7.out)).mono ?_
  rintro e w8 ⟨rfl, b8⟩
  have H8 := Lib.hid (H7.out.trans (b8.mono H7.out.size))
  clear b8 p0 p1 p2 p3 p4 p5 p6 p7 p8 p9 q0 q1 q2 q3 q4 q5 q6 q7 q8 q9
  obtain ⟨⟨p0, p1, p2, p3, p4, p5, p6, p7, p8, p9⟩, q0, q1, q2, q3, q4, q5, q6, q7, q8, q9⟩ := HKS.out w8 H8.out
  go_wp2_with fail
  refine (K4.out _ _ _ _ _ _ _ _ _ _ _ _ _ _ _ (HNN.out.1.under H8.out)).mono ?_
  rintro e w9 ⟨rfl, b9⟩
  have H9 := Lib.hid (H8.out.trans (b9.mono H8.out.size))
  clear b9
  go_wp2
  go_ret
  exact ⟨rfl, HB5.out.trans (H9.out.mono HB5.out.size)⟩

end Go.Proofs.YtddglepimbfdkaaGreatDoor.Knd
