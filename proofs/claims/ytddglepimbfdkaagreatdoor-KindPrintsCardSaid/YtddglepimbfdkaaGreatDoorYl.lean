/- A query and what it is printed as have the same kind (the law). -/
import Derived.Test.YtddglepimbfdkaaGreatDoorYk
import Derived.Test.YtddglepimbfdkaaGreatDoorHi
import Derived.Deep.CutRange
namespace Go.Proofs.YtddglepimbfdkaaGreatDoor.Knd
open Go.RowKit Go.Lib
open Go.Proofs.YtddglepimbfdkaaGreatDoor.Par


set_option maxHeartbeats 8000000 in
set_option maxRecDepth 100000 in
theorem prints_long (s : ByteArray) (w : World) (h : Env w) (i0 : (s.size : Int) ≤ 600) (q1 : Qr) (hr1 : readL s.data.toList = some q1) (hlong : 600 < (printL q1).length) :
    Calls Tryz.prog 8 #[.string s] w fun e w' => e = .returned (.bool true) ∧ Below w.heap.size w w' := by
  have g1 := readL_good (by rw [← Lib.size_eq]; omega) hr1
  have hrd := print_read g1
  obtain ⟨x, oo, li, ob⟩ := q1
  obtain ⟨od, hod⟩ : ∃ od : Int, (oo : Int) = od := ⟨_, rfl⟩
  have C0 := Lib.hid (fun W (hb : Below w.heap.size w W) => alive_kind W (h.below hb))
  have C1 := Lib.hid (fun W (hb : Below w.heap.size w W) => read_is s (by omega) ⟨x, oo, li, ob⟩ hr1 od hod W (h.below hb))
  have P1 := Lib.hid (fun W P a tx z m o1 k1 c1 o2 k2 c2 o3 k3 c3 => print_any ⟨x, oo, li, ob⟩ g1 od hod W P a tx z m o1 k1 c1 o2 k2 c2 o3 k3 c3)
  obtain ⟨X, hX⟩ : ∃ X : ByteArray, (⟨(printL ⟨x, oo, li, ob⟩).toArray⟩ : ByteArray) = X := ⟨_, rfl⟩
  rw [hX] at P1
  have hXl : X.data.toList = printL ⟨x, oo, li, ob⟩ := by rw [← hX]
  have HE := Lib.hid (fun W (hb : Below w.heap.size w W) => h.below hb)
  dsimp only at C1 P1
  have i1 : (X.size : Int) > 600 := by
    rw [← hXl, ← Lib.size_eq] at hlong; omega
  clear hX hXl hrd g1 hr1 hod h hlong
  go_enter Tryz.func8, Tryz.ntmps8
  go_wp2_with fail
  refine (C0.out _ (Below.refl _ _)).mono ?_
  rintro e w1 ⟨rfl, b1⟩
  have B1 := Lib.hid b1
  clear b1
  go_wp2_with fail
  refine (C1.out _ B1.out).mono ?_
  rintro e w2 ⟨⟨a, tx, z, m, o1, k1, c1, o2, k2, c2, o3, k3, c3, rfl, hn⟩, b2⟩
  have B2 := Lib.hid (B1.out.trans (b2.mono B1.out.size))
  have HN := Lib.hid (hn.under ((Below.refl _ _).alloc (Nat.le_refl _) (Obj.cells #[.string a, .string tx, .int .i64 z, .int .i64 m, .slice o1 k1 c1, .slice o2 k2 c2, .slice o3 k3 c3, .int .i64 od, .int .i64 li, .int .i64 ob] 29)))
  have HX2 := Lib.hid (box_start w2 (Obj.cells #[.string a, .string tx, .int .i64 z, .int .i64 m, .slice o1 k1 c1, .slice o2 k2 c2, .slice o3 k3 c3, .int .i64 od, .int .i64 li, .int .i64 ob] 29))
  clear b2 hn
  go_wp2_with fail
  refine (P1.out _ _ _ _ _ _ _ _ _ _ _ _ _ _ _ (HE.out _ (below_past B2.out HX2.out)) HN.out).mono ?_
  rintro e w3 ⟨rfl, b3⟩
  have B3 := Lib.hid (below_past B2.out (box_more HX2.out b3))
  clear b3
  go_wp2
  go_ret
  exact ⟨rfl, B3.out⟩

set_option maxHeartbeats 16000000 in
set_option maxRecDepth 100000 in
theorem prints_main (s : ByteArray) (w : World) (h : Env w) (i0 : (s.size : Int) ≤ 600) (q1 : Qr) (hr1 : readL s.data.toList = some q1) (hshort : ¬ 600 < (printL q1).length) :
    Calls Tryz.prog 8 #[.string s] w fun e w' => e = .returned (.bool true) ∧ Below w.heap.size w w' := by
  have g1 := readL_good (by rw [← Lib.size_eq]; omega) hr1
  have hrd := print_read g1
  obtain ⟨x, oo, li, ob⟩ := q1
  obtain ⟨od, hod⟩ : ∃ od : Int, (oo : Int) = od := ⟨_, rfl⟩
  have C0 := Lib.hid (fun W (hb : Below w.heap.size w W) => alive_kind W (h.below hb))
  have C1 := Lib.hid (fun W (hb : Below w.heap.size w W) => read_is s (by omega) ⟨x, oo, li, ob⟩ hr1 od hod W (h.below hb))
  have P1 := Lib.hid (fun W P a tx z m o1 k1 c1 o2 k2 c2 o3 k3 c3 => print_any ⟨x, oo, li, ob⟩ g1 od hod W P a tx z m o1 k1 c1 o2 k2 c2 o3 k3 c3)
  obtain ⟨X, hX⟩ : ∃ X : ByteArray, (⟨(printL ⟨x, oo, li, ob⟩).toArray⟩ : ByteArray) = X := ⟨_, rfl⟩
  rw [hX] at P1
  have hXl : X.data.toList = printL ⟨x, oo, li, ob⟩ := by rw [← hX]
  have HE := Lib.hid (fun W (hb : Below w.heap.size w W) => h.below hb)
  dsimp only at C1 P1
  have hXs : X.size ≤ 600 := by rw [Lib.size_eq, hXl]; omega
  have i1 : ¬ (X.size : Int) > 600 := by omega
  have C2 := Lib.hid (fun W (hb : Below w.heap.size w W) => read_is X hXs ⟨x, oo, li, ob⟩ (by rw [hXl]; exact hrd) od hod W (h.below hb))
  dsimp only at C2
  have hcnt : countE x ≤ 200 := g1.2.2.2.2
  have hgood : Par.Good x := g1.1
  obtain ⟨k, hk⟩ : ∃ k : Int, (kindE x : Nat) = k := ⟨_, rfl⟩
  obtain ⟨ke, hke⟩ : ∃ k : Int, (errK (kindE x) : Nat) = k := ⟨_, rfl⟩
  obtain ⟨kc, hkc⟩ : ∃ k : Int, (chkK (kindE x) : Nat) = k := ⟨_, rfl⟩
  obtain ⟨dd, hdd⟩ : ∃ k : Int, (deepE x : Nat) = k := ⟨_, rfl⟩
  obtain ⟨M, hM⟩ : ∃ M, metE x = M := ⟨_, rfl⟩
  obtain ⟨n, hn0⟩ : ∃ n, M.length = n := ⟨_, rfl⟩
  have hMn := Lib.hid hn0
  have hn200 : n ≤ 200 := by have := metE_len x; rw [hM] at this; omega
  have KO := Lib.hid (fun P W a b z m o1 k1 c1 o2 k2 c2 o3 k3 c3 hN => kof_is (x := x) hk hke P W a b z m o1 k1 c1 o2 k2 c2 o3 k3 c3 hN)
  have KC := Lib.hid (fun P W a b z m o1 k1 c1 o2 k2 c2 o3 k3 c3 od li ob hN => kcheck_is (x := x) hkc P W a b z m o1 k1 c1 o2 k2 c2 o3 k3 c3 od li ob hN)
  have KD := Lib.hid (fun P W a b z m o1 k1 c1 o2 k2 c2 o3 k3 c3 hN => dec_is (deep_any _ x (Nat.le_refl _) (by omega)) hdd P W a b z m o1 k1 c1 o2 k2 c2 o3 k3 c3 hN)
  have KM := Lib.hid (kmet_any x (by omega) (good_sels x hgood))
  unfold MeC at KM
  rw [hM] at KM
  clear hX hXl hrd g1 hr1 hod h hshort hk hke hkc hdd hM hn0 hcnt hgood
  go_enter Tryz.func8, Tryz.ntmps8
  go_wp2_with fail
  refine (C0.out _ (Below.refl _ _)).mono ?_
  rintro e w1 ⟨rfl, b1⟩
  have B1 := Lib.hid b1
  clear b1
  go_wp2_with fail
  refine (C1.out _ B1.out).mono ?_
  rintro e w2 ⟨⟨a, tx, z, m, o1, k1, c1, o2, k2, c2, o3, k3, c3, rfl, hn⟩, b2⟩
  have B2 := Lib.hid (B1.out.trans (b2.mono B1.out.size))
  have HN := Lib.hid (hn.under ((Below.refl _ _).alloc (Nat.le_refl _) (Obj.cells #[.string a, .string tx, .int .i64 z, .int .i64 m, .slice o1 k1 c1, .slice o2 k2 c2, .slice o3 k3 c3, .int .i64 od, .int .i64 li, .int .i64 ob] 29)))
  have HX2 := Lib.hid (box_start w2 (Obj.cells #[.string a, .string tx, .int .i64 z, .int .i64 m, .slice o1 k1 c1, .slice o2 k2 c2, .slice o3 k3 c3, .int .i64 od, .int .i64 li, .int .i64 ob] 29))
  clear b2 hn
  go_wp2_with fail
  refine (P1.out _ _ _ _ _ _ _ _ _ _ _ _ _ _ _ (HE.out _ (below_past B2.out HX2.out)) HN.out).mono ?_
  rintro e w3 ⟨rfl, b3⟩
  have B3 := Lib.hid (below_past B2.out (box_more HX2.out b3))
  go_wp2_with fail
  refine (C2.out _ B3.out).mono ?_
  rintro e w4 ⟨⟨a', tx', z', m', o1', k1', c1', o2', k2', c2', o3', k3', c3', rfl, hn'⟩, b4x⟩
  have b4 := b3.trans (b4x.mono b3.size)
  obtain ⟨w5, hw5⟩ : ∃ w5, w4.alloc (Obj.cells #[.string a', .string tx', .int .i64 z', .int .i64 m', .slice o1' k1' c1', .slice o2' k2' c2', .slice o3' k3' c3', .int .i64 od, .int .i64 li, .int .i64 ob] 29) = w5 := ⟨_, rfl⟩
  have hX5 : Below (w2.heap.size + 1) (w2.alloc (Obj.cells #[.string a, .string tx, .int .i64 z, .int .i64 m, .slice o1 k1 c1, .slice o2 k2 c2, .slice o3 k3 c3, .int .i64 od, .int .i64 li, .int .i64 ob] 29)) w5 := by rw [← hw5]; exact box_more (box_more HX2.out b4) ((Below.refl w4.heap.size w4).alloc (Nat.le_refl _) _)
  have hY5 : Below (w4.heap.size + 1) (w4.alloc (Obj.cells #[.string a', .string tx', .int .i64 z', .int .i64 m', .slice o1' k1' c1', .slice o2' k2' c2', .slice o3' k3' c3', .int .i64 od, .int .i64 li, .int .i64 ob] 29)) w5 := by rw [← hw5]; exact box_start _ _
  have hN5 := HN.out.under ((b4.trans ((show Below w4.heap.size w4 w5 by rw [← hw5]; exact (Below.refl _ _).alloc (Nat.le_refl _) _).mono b4.size)) : Below (w2.alloc (Obj.cells #[.string a, .string tx, .int .i64 z, .int .i64 m, .slice o1 k1 c1, .slice o2 k2 c2, .slice o3 k3 c3, .int .i64 od, .int .i64 li, .int .i64 ob] 29)).heap.size (w2.alloc (Obj.cells #[.string a, .string tx, .int .i64 z, .int .i64 m, .slice o1 k1 c1, .slice o2 k2 c2, .slice o3 k3 c3, .int .i64 od, .int .i64 li, .int .i64 ob] 29)) w5)
  have hN5' := hn'.under (show Below w4.heap.size w4 w5 by rw [← hw5]; exact (Below.refl _ _).alloc (Nat.le_refl _) _)
  have HB5 := Lib.hid (below_past B2.out hX5)
  have hz1 : w2.heap.size + 1 ≤ w5.heap.size := by have := hX5.size; rw [qbox_size] at this; exact this
  have hz2 : w4.heap.size + 1 ≤ w5.heap.size := by have := hY5.size; rw [qbox_size] at this; exact this
  have HKS := Lib.hid (fun W (hb : Below w5.heap.size w5 W) => (show W.cell? ⟨w2.heap.size, 0, none⟩ = some (.string a) ∧ W.cell? ⟨w2.heap.size, 1, none⟩ = some (.string tx) ∧ W.cell? ⟨w2.heap.size, 2, none⟩ = some (.int .i64 z) ∧ W.cell? ⟨w2.heap.size, 3, none⟩ = some (.int .i64 m) ∧ W.cell? ⟨w2.heap.size, 4, none⟩ = some (.slice o1 k1 c1) ∧ W.cell? ⟨w2.heap.size, 5, none⟩ = some (.slice o2 k2 c2) ∧ W.cell? ⟨w2.heap.size, 6, none⟩ = some (.slice o3 k3 c3) ∧ W.cell? ⟨w2.heap.size, 7, none⟩ = some (.int .i64 od) ∧ W.cell? ⟨w2.heap.size, 8, none⟩ = some (.int .i64 li) ∧ W.cell? ⟨w2.heap.size, 9, none⟩ = some (.int .i64 ob) ∧ W.cell? ⟨w4.heap.size, 0, none⟩ = some (.string a') ∧ W.cell? ⟨w4.heap.size, 1, none⟩ = some (.string tx') ∧ W.cell? ⟨w4.heap.size, 2, none⟩ = some (.int .i64 z') ∧ W.cell? ⟨w4.heap.size, 3, none⟩ = some (.int .i64 m') ∧ W.cell? ⟨w4.heap.size, 4, none⟩ = some (.slice o1' k1' c1') ∧ W.cell? ⟨w4.heap.size, 5, none⟩ = some (.slice o2' k2' c2') ∧ W.cell? ⟨w4.heap.size, 6, none⟩ = some (.slice o3' k3' c3') ∧ W.cell? ⟨w4.heap.size, 7, none⟩ = some (.int .i64 od) ∧ W.cell? ⟨w4.heap.size, 8, none⟩ = some (.int .i64 li) ∧ W.cell? ⟨w4.heap.size, 9, none⟩ = some (.int .i64 ob) from by
    obtain ⟨p0, p1, p2, p3, p4, p5, p6, p7, p8, p9⟩ := qbox_reads _ _ _ _ _ _ _ _ _ _ _ _ _ _ _ _ _ _ (hX5.trans (hb.mono hz1))
    obtain ⟨q0, q1, q2, q3, q4, q5, q6, q7, q8, q9⟩ := qbox_reads _ _ _ _ _ _ _ _ _ _ _ _ _ _ _ _ _ _ (hY5.trans (hb.mono hz2))
    exact ⟨p0, p1, p2, p3, p4, p5, p6, p7, p8, p9, q0, q1, q2, q3, q4, q5, q6, q7, q8, q9⟩))
  have HNN := Lib.hid (And.intro hN5 hN5')
  have HW5 := Lib.hid hw5
  obtain ⟨r0, r1, r2, r3, r4, r5, r6, r7, r8, r9, r10, r11, r12, r13, r14, r15, r16, r17, r18, r19⟩ := HKS.out w5 (Below.refl _ _)
  rw [← HW5.out] at r0 r1 r2 r3 r4 r5 r6 r7 r8 r9 r10 r11 r12 r13 r14 r15 r16 r17 r18 r19
  clear b3 b4x b4 hn' hX5 hY5 hN5 hN5' hz1 hz2 hw5
  go_wp2_with fail
  rw [show w4.alloc (Obj.cells #[.string a', .string tx', .int .i64 z', .int .i64 m', .slice o1' k1' c1', .slice o2' k2' c2', .slice o3' k3' c3', .int .i64 od, .int .i64 li, .int .i64 ob] 29) = w5 from HW5.out]
  refine (KO.out _ _ _ _ _ _ _ _ _ _ _ _ _ _ _ HNN.out.1).mono ?_
  rintro e w6 ⟨rfl, b6⟩
  have H6 := Lib.hid b6
  clear b6 r0 r1 r2 r3 r4 r5 r6 r7 r8 r9 r10 r11 r12 r13 r14 r15 r16 r17 r18 r19
  obtain ⟨r0, r1, r2, r3, r4, r5, r6, r7, r8, r9, r10, r11, r12, r13, r14, r15, r16, r17, r18, r19⟩ := HKS.out w6 H6.out
  go_wp2_with fail
  refine (KO.out _ _ _ _ _ _ _ _ _ _ _ _ _ _ _ (HNN.out.2.under H6.out)).mono ?_
  rintro e w7 ⟨rfl, b7⟩
  have H7 := Lib.hid (H6.out.trans (b7.mono H6.out.size))
  clear b7 r0 r1 r2 r3 r4 r5 r6 r7 r8 r9 r10 r11 r12 r13 r14 r15 r16 r17 r18 r19
  have CMa := Lib.hid (fun (W : World) (hb : Hid (Below w5.heap.size w5 W)) => (KM.out _ W a tx z m o1 k1 c1 o2 k2 c2 o3 k3 c3 (HNN.out.1.under hb.out)).mono (R' := fun e w' => ∃ (o : Option Addr) (c : Nat), e = .returned (.slice o n c) ∧ (w'.cell? ⟨w2.heap.size, 0, none⟩ = some (.string a) ∧ w'.cell? ⟨w2.heap.size, 1, none⟩ = some (.string tx) ∧ w'.cell? ⟨w2.heap.size, 2, none⟩ = some (.int .i64 z) ∧ w'.cell? ⟨w2.heap.size, 3, none⟩ = some (.int .i64 m) ∧ w'.cell? ⟨w2.heap.size, 4, none⟩ = some (.slice o1 k1 c1) ∧ w'.cell? ⟨w2.heap.size, 5, none⟩ = some (.slice o2 k2 c2) ∧ w'.cell? ⟨w2.heap.size, 6, none⟩ = some (.slice o3 k3 c3) ∧ w'.cell? ⟨w2.heap.size, 7, none⟩ = some (.int .i64 od) ∧ w'.cell? ⟨w2.heap.size, 8, none⟩ = some (.int .i64 li) ∧ w'.cell? ⟨w2.heap.size, 9, none⟩ = some (.int .i64 ob) ∧ w'.cell? ⟨w4.heap.size, 0, none⟩ = some (.string a') ∧ w'.cell? ⟨w4.heap.size, 1, none⟩ = some (.string tx') ∧ w'.cell? ⟨w4.heap.size, 2, none⟩ = some (.int .i64 z') ∧ w'.cell? ⟨w4.heap.size, 3, none⟩ = some (.int .i64 m') ∧ w'.cell? ⟨w4.heap.size, 4, none⟩ = some (.slice o1' k1' c1') ∧ w'.cell? ⟨w4.heap.size, 5, none⟩ = some (.slice o2' k2' c2') ∧ w'.cell? ⟨w4.heap.size, 6, none⟩ = some (.slice o3' k3' c3') ∧ w'.cell? ⟨w4.heap.size, 7, none⟩ = some (.int .i64 od) ∧ w'.cell? ⟨w4.heap.size, 8, none⟩ = some (.int .i64 li) ∧ w'.cell? ⟨w4.heap.size, 9, none⟩ = some (.int .i64 ob)) ∧ Hid (w'.ownsRow w5.heap.size 9 1 (.slice o n c) n (BkX.flatE M)) ∧ Hid (Below W.heap.size W w') ∧ Hid (Below w5.heap.size w5 w')) (fun e w' q => by
    obtain ⟨⟨v, hv, hr⟩, hbw⟩ := q
    rw [hMn.out] at hr
    obtain ⟨o, c, rfl⟩ := row_form hr
    have hq := hb.out.trans (hbw.mono hb.out.size)
    exact ⟨o, c, hv, HKS.out w' hq, own_low hr hb.out.size, hbw, hq⟩))
  have CMb := Lib.hid (fun (W : World) (hb : Hid (Below w5.heap.size w5 W)) => (KM.out _ W a' tx' z' m' o1' k1' c1' o2' k2' c2' o3' k3' c3' (HNN.out.2.under hb.out)).mono (R' := fun e w' => ∃ (o : Option Addr) (c : Nat), e = .returned (.slice o n c) ∧ (w'.cell? ⟨w2.heap.size, 0, none⟩ = some (.string a) ∧ w'.cell? ⟨w2.heap.size, 1, none⟩ = some (.string tx) ∧ w'.cell? ⟨w2.heap.size, 2, none⟩ = some (.int .i64 z) ∧ w'.cell? ⟨w2.heap.size, 3, none⟩ = some (.int .i64 m) ∧ w'.cell? ⟨w2.heap.size, 4, none⟩ = some (.slice o1 k1 c1) ∧ w'.cell? ⟨w2.heap.size, 5, none⟩ = some (.slice o2 k2 c2) ∧ w'.cell? ⟨w2.heap.size, 6, none⟩ = some (.slice o3 k3 c3) ∧ w'.cell? ⟨w2.heap.size, 7, none⟩ = some (.int .i64 od) ∧ w'.cell? ⟨w2.heap.size, 8, none⟩ = some (.int .i64 li) ∧ w'.cell? ⟨w2.heap.size, 9, none⟩ = some (.int .i64 ob) ∧ w'.cell? ⟨w4.heap.size, 0, none⟩ = some (.string a') ∧ w'.cell? ⟨w4.heap.size, 1, none⟩ = some (.string tx') ∧ w'.cell? ⟨w4.heap.size, 2, none⟩ = some (.int .i64 z') ∧ w'.cell? ⟨w4.heap.size, 3, none⟩ = some (.int .i64 m') ∧ w'.cell? ⟨w4.heap.size, 4, none⟩ = some (.slice o1' k1' c1') ∧ w'.cell? ⟨w4.heap.size, 5, none⟩ = some (.slice o2' k2' c2') ∧ w'.cell? ⟨w4.heap.size, 6, none⟩ = some (.slice o3' k3' c3') ∧ w'.cell? ⟨w4.heap.size, 7, none⟩ = some (.int .i64 od) ∧ w'.cell? ⟨w4.heap.size, 8, none⟩ = some (.int .i64 li) ∧ w'.cell? ⟨w4.heap.size, 9, none⟩ = some (.int .i64 ob)) ∧ Hid (w'.ownsRow w5.heap.size 9 1 (.slice o n c) n (BkX.flatE M)) ∧ Hid (Below W.heap.size W w') ∧ Hid (Below w5.heap.size w5 w')) (fun e w' q => by
    obtain ⟨⟨v, hv, hr⟩, hbw⟩ := q
    rw [hMn.out] at hr
    obtain ⟨o, c, rfl⟩ := row_form hr
    have hq := hb.out.trans (hbw.mono hb.out.size)
    exact ⟨o, c, hv, HKS.out w' hq, own_low hr hb.out.size, hbw, hq⟩))
  have CDa := Lib.hid (fun (W : World) (hb : Hid (Below w5.heap.size w5 W)) => (KD.out _ W a tx z m o1 k1 c1 o2 k2 c2 o3 k3 c3 (HNN.out.1.under hb.out)).mono (R' := fun e w' => e = .returned (.int .i64 dd) ∧ _ ∧ Hid (Below w5.heap.size w5 w')) (fun e w' q => have hq := hb.out.trans (q.2.mono hb.out.size); ⟨q.1, HKS.out w' hq, hq⟩))
  have CDb := Lib.hid (fun (W : World) (hb : Hid (Below w5.heap.size w5 W)) => (KD.out _ W a' tx' z' m' o1' k1' c1' o2' k2' c2' o3' k3' c3' (HNN.out.2.under hb.out)).mono (R' := fun e w' => e = .returned (.int .i64 dd) ∧ _ ∧ Hid (Below w5.heap.size w5 w')) (fun e w' q => have hq := hb.out.trans (q.2.mono hb.out.size); ⟨q.1, HKS.out w' hq, hq⟩))
  have CCa := Lib.hid (fun (W : World) (hb : Hid (Below w5.heap.size w5 W)) => (KC.out _ W a tx z m o1 k1 c1 o2 k2 c2 o3 k3 c3 od li ob (HNN.out.1.under hb.out)).mono (R' := fun e w' => e = .returned (.int .i64 kc) ∧ _ ∧ Hid (Below w5.heap.size w5 w')) (fun e w' q => have hq := hb.out.trans (q.2.mono hb.out.size); ⟨q.1, HKS.out w' hq, hq⟩))
  have CCb := Lib.hid (fun (W : World) (hb : Hid (Below w5.heap.size w5 W)) => (KC.out _ W a' tx' z' m' o1' k1' c1' o2' k2' c2' o3' k3' c3' od li ob (HNN.out.2.under hb.out)).mono (R' := fun e w' => e = .returned (.int .i64 kc) ∧ _ ∧ Hid (Below w5.heap.size w5 w')) (fun e w' q => have hq := hb.out.trans (q.2.mono hb.out.size); ⟨q.1, HKS.out w' hq, hq⟩))
  obtain ⟨r0, r1, r2, r3, r4, r5, r6, r7, r8, r9, r10, r11, r12, r13, r14, r15, r16, r17, r18, r19⟩ := HKS.out w7 H7.out
  have rb := Lib.hid (show Below w5.heap.size w5 w7.drew from H7.out.drew)
  go_wp2_with fail
  go_cut [12, 13] from 54 to 59 (fun u12 u13 wx => ∃ (om : Option Addr) (cm : Nat) (on : Option Addr) (cn : Nat), u12 = .slice om n cm ∧ u13 = .slice on n cn ∧ Hid (wx.ownsRow w5.heap.size 9 1 (.slice om n cm) n (BkX.flatE M)) ∧ Hid (wx.ownsRow w5.heap.size 9 1 (.slice on n cn) n (BkX.flatE M)) ∧ Hid (Below w5.heap.size w5 wx))
  case first =>
    go_region_held3 (fun w' => w'.cell? ⟨w2.heap.size, 0, none⟩ = some (.string a) ∧ w'.cell? ⟨w2.heap.size, 1, none⟩ = some (.string tx) ∧ w'.cell? ⟨w2.heap.size, 2, none⟩ = some (.int .i64 z) ∧ w'.cell? ⟨w2.heap.size, 3, none⟩ = some (.int .i64 m) ∧ w'.cell? ⟨w2.heap.size, 4, none⟩ = some (.slice o1 k1 c1) ∧ w'.cell? ⟨w2.heap.size, 5, none⟩ = some (.slice o2 k2 c2) ∧ w'.cell? ⟨w2.heap.size, 6, none⟩ = some (.slice o3 k3 c3) ∧ w'.cell? ⟨w2.heap.size, 7, none⟩ = some (.int .i64 od) ∧ w'.cell? ⟨w2.heap.size, 8, none⟩ = some (.int .i64 li) ∧ w'.cell? ⟨w2.heap.size, 9, none⟩ = some (.int .i64 ob) ∧ w'.cell? ⟨w4.heap.size, 0, none⟩ = some (.string a') ∧ w'.cell? ⟨w4.heap.size, 1, none⟩ = some (.string tx') ∧ w'.cell? ⟨w4.heap.size, 2, none⟩ = some (.int .i64 z') ∧ w'.cell? ⟨w4.heap.size, 3, none⟩ = some (.int .i64 m') ∧ w'.cell? ⟨w4.heap.size, 4, none⟩ = some (.slice o1' k1' c1') ∧ w'.cell? ⟨w4.heap.size, 5, none⟩ = some (.slice o2' k2' c2') ∧ w'.cell? ⟨w4.heap.size, 6, none⟩ = some (.slice o3' k3' c3') ∧ w'.cell? ⟨w4.heap.size, 7, none⟩ = some (.int .i64 od) ∧ w'.cell? ⟨w4.heap.size, 8, none⟩ = some (.int .i64 li) ∧ w'.cell? ⟨w4.heap.size, 9, none⟩ = some (.int .i64 ob)) (first | exact ⟨s0, s1, s2, s3, s4, s5, s6, s7, s8, s9, s10, s11, s12, s13, s14, s15, s16, s17, s18, s19⟩ | exact ⟨r0, r1, r2, r3, r4, r5, r6, r7, r8, r9, r10, r11, r12, r13, r14, r15, r16, r17, r18, r19⟩) (first
      | (go_at_call 24; go_fit (CMa.out _ rb); rintro e wq ⟨om, cm, rfl, ⟨s0, s1, s2, s3, s4, s5, s6, s7, s8, s9, s10, s11, s12, s13, s14, s15, s16, s17, s18, s19⟩, sm, tm, sb⟩)
      | (go_at_call 24; go_fit (CMb.out _ rb); rintro e wq ⟨on, cn, rfl, ⟨s0, s1, s2, s3, s4, s5, s6, s7, s8, s9, s10, s11, s12, s13, s14, s15, s16, s17, s18, s19⟩, sn, tn, sb⟩)
      | (go_at_call 24; go_fit (CMa.out _ sb); rintro e wq2 ⟨om, cm, rfl, ⟨s0, s1, s2, s3, s4, s5, s6, s7, s8, s9, s10, s11, s12, s13, s14, s15, s16, s17, s18, s19⟩, sm, tm, sb2⟩)
      | (go_at_call 24; go_fit (CMb.out _ sb); rintro e wq2 ⟨on, cn, rfl, ⟨s0, s1, s2, s3, s4, s5, s6, s7, s8, s9, s10, s11, s12, s13, s14, s15, s16, s17, s18, s19⟩, sn, tn, sb2⟩))
    all_goals go_wp2_with fail
    all_goals go_meet
    all_goals first
      | exact ⟨om, cm, on, cn, rfl, rfl, own_below sm.out tn.out, sn, sb2⟩
      | exact ⟨om, cm, on, cn, rfl, rfl, sm, own_below sn.out tm.out, sb2⟩
  case rest =>
  rename World => wc
  obtain ⟨om, cm, on, cn, rfl, rfl, ho1, ho2, hbc⟩ := hcut
  clear CMa CMb r0 r1 r2 r3 r4 r5 r6 r7 r8 r9 r10 r11 r12 r13 r14 r15 r16 r17 r18 r19 rb KM
  have HNL := Lib.hid (row_len ho1.out)
  go_wp2_with fail
  go_loopw [14] (fun v wr => ∃ i : Nat, v = .int .i64 i ∧ i ≤ n ∧ Hid (Below wc.heap.size wc wr)) (fun v _ => n - (Go.RowKit.intOf v).toNat)
  case atStart => exact ⟨0, rfl, Nat.zero_le _, Below.refl _ _⟩
  case round =>
    obtain ⟨i, rfl, hin, HZ⟩ := hrel
    by_cases hlt : i < n
    · have j1 : (i : Int) < n := by omega
      obtain ⟨t, ht⟩ : ∃ t, M[i]? = some t := ⟨_, List.getElem?_eq_getElem (by rw [HNL.out]; exact hlt)⟩
      obtain ⟨ga, rfl, -, hga, ha0⟩ := row_at ho1.out ht
      obtain ⟨gb, rfl, -, hgb, hb0⟩ := row_at ho2.out ht
      have e0 := (HZ.out.cell (p := ⟨ga, i, none⟩) hga).trans ha0
      have d0 := (HZ.out.cell (p := ⟨gb, i, none⟩) hgb).trans hb0
      clear ha0 hb0 ht
      have hrr : (t.toList != t.toList) = false := by simp
      go_wp2_with fail
      go_quiet (fail)
      have HZ2 := Lib.hid (HZ.out.trans ((quietB (w := wr) ⟨nq, rfl⟩).mono HZ.out.size))
      go_wp2
      go_roundw
      case rel => exact ⟨i + 1, by go_num, by omega, HZ2⟩
      case measure => simp [Go.RowKit.intOf]; omega
    · have j1 : ¬ (i : Int) < n := by omega
      have hb9 := Lib.hid (hbc.out.trans (HZ.out.mono hbc.out.size))
      obtain ⟨r0, r1, r2, r3, r4, r5, r6, r7, r8, r9, r10, r11, r12, r13, r14, r15, r16, r17, r18, r19⟩ := HKS.out wr hb9.out
      have rb := Lib.hid (show Below w5.heap.size w5 wr.drew from hb9.out.drew)
      clear ho1 ho2 HNL HZ
      go_wp2_with fail
      go_region_held3 (fun w' => w'.cell? ⟨w2.heap.size, 0, none⟩ = some (.string a) ∧ w'.cell? ⟨w2.heap.size, 1, none⟩ = some (.string tx) ∧ w'.cell? ⟨w2.heap.size, 2, none⟩ = some (.int .i64 z) ∧ w'.cell? ⟨w2.heap.size, 3, none⟩ = some (.int .i64 m) ∧ w'.cell? ⟨w2.heap.size, 4, none⟩ = some (.slice o1 k1 c1) ∧ w'.cell? ⟨w2.heap.size, 5, none⟩ = some (.slice o2 k2 c2) ∧ w'.cell? ⟨w2.heap.size, 6, none⟩ = some (.slice o3 k3 c3) ∧ w'.cell? ⟨w2.heap.size, 7, none⟩ = some (.int .i64 od) ∧ w'.cell? ⟨w2.heap.size, 8, none⟩ = some (.int .i64 li) ∧ w'.cell? ⟨w2.heap.size, 9, none⟩ = some (.int .i64 ob) ∧ w'.cell? ⟨w4.heap.size, 0, none⟩ = some (.string a') ∧ w'.cell? ⟨w4.heap.size, 1, none⟩ = some (.string tx') ∧ w'.cell? ⟨w4.heap.size, 2, none⟩ = some (.int .i64 z') ∧ w'.cell? ⟨w4.heap.size, 3, none⟩ = some (.int .i64 m') ∧ w'.cell? ⟨w4.heap.size, 4, none⟩ = some (.slice o1' k1' c1') ∧ w'.cell? ⟨w4.heap.size, 5, none⟩ = some (.slice o2' k2' c2') ∧ w'.cell? ⟨w4.heap.size, 6, none⟩ = some (.slice o3' k3' c3') ∧ w'.cell? ⟨w4.heap.size, 7, none⟩ = some (.int .i64 od) ∧ w'.cell? ⟨w4.heap.size, 8, none⟩ = some (.int .i64 li) ∧ w'.cell? ⟨w4.heap.size, 9, none⟩ = some (.int .i64 ob)) (first | exact ⟨s0, s1, s2, s3, s4, s5, s6, s7, s8, s9, s10, s11, s12, s13, s14, s15, s16, s17, s18, s19⟩ | exact ⟨r0, r1, r2, r3, r4, r5, r6, r7, r8, r9, r10, r11, r12, r13, r14, r15, r16, r17, r18, r19⟩) (first
        | (go_at_call 26; go_fit (CDa.out _ rb); rintro e wq ⟨rfl, ⟨s0, s1, s2, s3, s4, s5, s6, s7, s8, s9, s10, s11, s12, s13, s14, s15, s16, s17, s18, s19⟩, sb⟩)
        | (go_at_call 26; go_fit (CDa.out _ sb); rintro e wq ⟨rfl, ⟨s0, s1, s2, s3, s4, s5, s6, s7, s8, s9, s10, s11, s12, s13, s14, s15, s16, s17, s18, s19⟩, sb⟩)
        | (go_at_call 26; go_fit (CDb.out _ rb); rintro e wq ⟨rfl, ⟨s0, s1, s2, s3, s4, s5, s6, s7, s8, s9, s10, s11, s12, s13, s14, s15, s16, s17, s18, s19⟩, sb⟩)
        | (go_at_call 26; go_fit (CDb.out _ sb); rintro e wq ⟨rfl, ⟨s0, s1, s2, s3, s4, s5, s6, s7, s8, s9, s10, s11, s12, s13, s14, s15, s16, s17, s18, s19⟩, sb⟩)
        | (go_at_call 30; go_fit (CCa.out _ rb); rintro e wq ⟨rfl, ⟨s0, s1, s2, s3, s4, s5, s6, s7, s8, s9, s10, s11, s12, s13, s14, s15, s16, s17, s18, s19⟩, sb⟩)
        | (go_at_call 30; go_fit (CCa.out _ sb); rintro e wq ⟨rfl, ⟨s0, s1, s2, s3, s4, s5, s6, s7, s8, s9, s10, s11, s12, s13, s14, s15, s16, s17, s18, s19⟩, sb⟩)
        | (go_at_call 30; go_fit (CCb.out _ rb); rintro e wq ⟨rfl, ⟨s0, s1, s2, s3, s4, s5, s6, s7, s8, s9, s10, s11, s12, s13, s14, s15, s16, s17, s18, s19⟩, sb⟩)
        | (go_at_call 30; go_fit (CCb.out _ sb); rintro e wq ⟨rfl, ⟨s0, s1, s2, s3, s4, s5, s6, s7, s8, s9, s10, s11, s12, s13, s14, s15, s16, s17, s18, s19⟩, sb⟩))
      all_goals
        go_wp2
        go_ret
        exact ⟨rfl, HB5.out.trans (sb.out.mono HB5.out.size)⟩

set_option maxHeartbeats 4000000 in
set_option maxRecDepth 100000 in
theorem prints_any (s : ByteArray) (w : World) (h : Env w) (hs : s.size ≤ maxLen) :
    Calls Tryz.prog 8 #[.string s] w fun e w' => e = .returned (.bool true) ∧ Below w.heap.size w w' := by
  unfold maxLen at hs
  have C0 := Lib.hid (fun W (hb : Below w.heap.size w W) => alive_kind W (h.below hb))
  by_cases hbig : 600 < s.size
  · have i1 : (s.size : Int) > 600 := by omega
    clear hbig h
    go_enter Tryz.func8, Tryz.ntmps8
    go_wp2_with (go_at_call 21; refine (C0.out _ (Below.refl _ _)).mono ?_; rintro e w1 ⟨rfl, b1⟩)
    go_ret
    exact ⟨rfl, b1⟩
  · have i1 : (s.size : Int) ≤ 600 := by omega
    cases hr1 : readL s.data.toList with
    | some q1 =>
      by_cases hl : 600 < (printL q1).length
      · exact prints_long s w h i1 q1 hr1 hl
      · exact prints_main s w h i1 q1 hr1 hl
    | none =>
      have C1 := Lib.hid (fun W (hb : Below w.heap.size w W) => read_not s (by omega) hr1 W (h.below hb))
      clear h hr1 hbig
      go_enter Tryz.func8, Tryz.ntmps8
      go_wp2_with fail
      refine (C0.out _ (Below.refl _ _)).mono ?_
      rintro e w1 ⟨rfl, b1⟩
      have B1 := Lib.hid b1
      clear b1
      go_wp2_with fail
      refine (C1.out _ B1.out).mono ?_
      rintro e w2 ⟨rfl, b2⟩
      have B2 := Lib.hid (below_box (B1.out.trans (b2.mono B1.out.size)) (QBox ⟨#[]⟩ ⟨#[]⟩ 0 0 none 0 0 none 0 0 none 0 0 0 0 0))
      clear b2
      go_wp2
      go_ret
      exact ⟨rfl, B2.out⟩
end Go.Proofs.YtddglepimbfdkaaGreatDoor.Knd
