/- Queries are written alike just if they are the same (the law). -/
import Derived.Test.YtmdmjnidfcopcaaGreatDoorHi
import Derived.Test.YtmdmjnidfcopcaaGreatDoorNy
import Derived.Deep.CutRange
namespace Go.Proofs.YtmdmjnidfcopcaaGreatDoor.Par
open Go.RowKit Go.Lib
open Go.Proofs.YtmdmjnidfcopcaaGreatDoor.Sto

set_option maxHeartbeats 8000000 in
set_option maxRecDepth 100000 in
theorem unlike_main (s t : ByteArray) (w : World) (h : Env w) (i0 : (s.size : Int) ≤ 600) (i1 : (t.size : Int) ≤ 600) (q1 q2 : Qr) (hr1 : readL s.data.toList = some q1) (hr2 : readL t.data.toList = some q2) :
    Calls Tryz.prog 4 #[.string s, .string t] w fun e w' => e = .returned (.bool true) ∧ Below w.heap.size w w' := by
  have cA := Lib.hid (fun W (hb : Below w.heap.size w W) => alive_any W (h.below hb))
  have hE := Lib.hid (fun W (hb : Below w.heap.size w W) => h.below hb)
  have g1 := readL_good (by rw [← Lib.size_eq]; omega) hr1
  have g2 := readL_good (by rw [← Lib.size_eq]; omega) hr2
  have hinj := print_inj g1 g2
  obtain ⟨x, o, li, ob⟩ := q1
  obtain ⟨y, o', li', ob'⟩ := q2
  obtain ⟨od, hod⟩ : ∃ od : Int, (o : Int) = od := ⟨_, rfl⟩
  obtain ⟨od', hod'⟩ : ∃ od : Int, (o' : Int) = od := ⟨_, rfl⟩
  have C1 := Lib.hid (fun W (hb : Below w.heap.size w W) => read_is s (by omega) ⟨x, o, li, ob⟩ hr1 od hod W (h.below hb))
  have C2 := Lib.hid (fun W (hb : Below w.heap.size w W) => read_is t (by omega) ⟨y, o', li', ob'⟩ hr2 od' hod' W (h.below hb))
  have P1 := Lib.hid (fun W P a tx z m o1 k1 c1 o2 k2 c2 o3 k3 c3 => print_any ⟨x, o, li, ob⟩ g1 od hod W P a tx z m o1 k1 c1 o2 k2 c2 o3 k3 c3)
  have P2 := Lib.hid (fun W P a' tx' z' m' o1' k1' c1' o2' k2' c2' o3' k3' c3' => print_any ⟨y, o', li', ob'⟩ g2 od' hod' W P a' tx' z' m' o1' k1' c1' o2' k2' c2' o3' k3' c3')
  dsimp only at C1 C2 P1 P2
  have HF := Lib.hid (good_few x g1.1)
  obtain ⟨X, hX⟩ : ∃ X : ByteArray, (⟨(printL ⟨x, o, li, ob⟩).toArray⟩ : ByteArray) = X := ⟨_, rfl⟩
  obtain ⟨Y, hY⟩ : ∃ X : ByteArray, (⟨(printL ⟨y, o', li', ob'⟩).toArray⟩ : ByteArray) = X := ⟨_, rfl⟩
  rw [hX] at P1
  rw [hY] at P2
  obtain ⟨r, hrr⟩ : ∃ r, decide (od = od' ∧ li = li' ∧ ob = ob' ∧ x = y) = r := ⟨_, rfl⟩
  have HR := Lib.hid hrr
  have HXY := Lib.hid (show X = Y ↔ r = true by
    rw [← hX, ← hY, ← hrr, decide_eq_true_eq]
    have e1 : (⟨(printL ⟨x, o, li, ob⟩).toArray⟩ : ByteArray) = ⟨(printL ⟨y, o', li', ob'⟩).toArray⟩ ↔ printL ⟨x, o, li, ob⟩ = printL ⟨y, o', li', ob'⟩ := by simp
    rw [e1, hinj, Qr.mk.injEq]
    constructor
    · rintro ⟨f1, f2, f3, f4⟩; exact ⟨by omega, f3, f4, f1⟩
    · rintro ⟨f1, f2, f3, f4⟩; exact ⟨f4, by omega, f2, f3⟩)
  obtain ⟨rr, hrr2⟩ : ∃ r, decide (x = y) = r := ⟨_, rfl⟩
  have HRR := Lib.hid hrr2
  clear hX hY hinj g1 g2 hr1 hr2 hod hod' hrr hrr2 h
  go_enter Tryz.func4, Tryz.ntmps4
  go_wp2_with fail
  refine (cA.out _ (Below.refl _ _)).mono ?_
  rintro e w1 ⟨rfl, b1⟩
  have B1 := Lib.hid b1
  clear b1
  go_wp2_with fail
  refine (C1.out _ B1.out).mono ?_
  rintro e w2 ⟨⟨a, tx, z, m, o1, k1, c1, o2, k2, c2, o3, k3, c3, rfl, hn⟩, b2⟩
  have B2 := Lib.hid (B1.out.trans (b2.mono B1.out.size))
  have HN := Lib.hid (hn.under ((Below.refl _ _).alloc (Nat.le_refl _) (QBox a tx z m o1 k1 c1 o2 k2 c2 o3 k3 c3 od li ob)))
  have HX2 := Lib.hid (box_start w2 (QBox a tx z m o1 k1 c1 o2 k2 c2 o3 k3 c3 od li ob))
  clear b2 hn
  go_wp2_with fail
  refine (C2.out _ (below_past B2.out HX2.out)).mono ?_
  rintro e w4 ⟨⟨a', tx', z', m', o1', k1', c1', o2', k2', c2', o3', k3', c3', rfl, hn'⟩, b4⟩
  obtain ⟨w5, hw5⟩ : ∃ w5, w4.alloc (QBox a' tx' z' m' o1' k1' c1' o2' k2' c2' o3' k3' c3' od' li' ob') = w5 := ⟨_, rfl⟩
  have hX5 : Below (w2.heap.size + 1) (w2.alloc (QBox a tx z m o1 k1 c1 o2 k2 c2 o3 k3 c3 od li ob)) w5 := by rw [← hw5]; exact box_more (box_more HX2.out b4) ((Below.refl w4.heap.size w4).alloc (Nat.le_refl _) _)
  have hY5 : Below (w4.heap.size + 1) (w4.alloc (QBox a' tx' z' m' o1' k1' c1' o2' k2' c2' o3' k3' c3' od' li' ob')) w5 := by rw [← hw5]; exact box_start _ _
  have hN5 := HN.out.under ((b4.trans ((show Below w4.heap.size w4 w5 by rw [← hw5]; exact (Below.refl _ _).alloc (Nat.le_refl _) _).mono b4.size)) : Below (w2.alloc (QBox a tx z m o1 k1 c1 o2 k2 c2 o3 k3 c3 od li ob)).heap.size (w2.alloc (QBox a tx z m o1 k1 c1 o2 k2 c2 o3 k3 c3 od li ob)) w5)
  have hN5' := hn'.under (show Below w4.heap.size w4 w5 by rw [← hw5]; exact (Below.refl _ _).alloc (Nat.le_refl _) _)
  have HB5 := Lib.hid (below_past B2.out hX5)
  have hz1 : w2.heap.size + 1 ≤ w5.heap.size := by have := hX5.size; rw [qbox_size] at this; exact this
  have hz2 : w4.heap.size + 1 ≤ w5.heap.size := by have := hY5.size; rw [qbox_size] at this; exact this
  have HKS := Lib.hid (fun W (hb : Below w5.heap.size w5 W) => (show W.cell? ⟨w2.heap.size, 0, none⟩ = some (.string a) ∧ W.cell? ⟨w2.heap.size, 1, none⟩ = some (.string tx) ∧ W.cell? ⟨w2.heap.size, 2, none⟩ = some (.int .i64 z) ∧ W.cell? ⟨w2.heap.size, 3, none⟩ = some (.int .i64 m) ∧ W.cell? ⟨w2.heap.size, 4, none⟩ = some (.slice o1 k1 c1) ∧ W.cell? ⟨w2.heap.size, 5, none⟩ = some (.slice o2 k2 c2) ∧ W.cell? ⟨w2.heap.size, 6, none⟩ = some (.slice o3 k3 c3) ∧ W.cell? ⟨w2.heap.size, 7, none⟩ = some (.int .i64 od) ∧ W.cell? ⟨w2.heap.size, 8, none⟩ = some (.int .i64 li) ∧ W.cell? ⟨w2.heap.size, 9, none⟩ = some (.int .i64 ob) ∧ W.cell? ⟨w4.heap.size, 0, none⟩ = some (.string a') ∧ W.cell? ⟨w4.heap.size, 1, none⟩ = some (.string tx') ∧ W.cell? ⟨w4.heap.size, 2, none⟩ = some (.int .i64 z') ∧ W.cell? ⟨w4.heap.size, 3, none⟩ = some (.int .i64 m') ∧ W.cell? ⟨w4.heap.size, 4, none⟩ = some (.slice o1' k1' c1') ∧ W.cell? ⟨w4.heap.size, 5, none⟩ = some (.slice o2' k2' c2') ∧ W.cell? ⟨w4.heap.size, 6, none⟩ = some (.slice o3' k3' c3') ∧ W.cell? ⟨w4.heap.size, 7, none⟩ = some (.int .i64 od') ∧ W.cell? ⟨w4.heap.size, 8, none⟩ = some (.int .i64 li') ∧ W.cell? ⟨w4.heap.size, 9, none⟩ = some (.int .i64 ob') from by
    obtain ⟨p0, p1, p2, p3, p4, p5, p6, p7, p8, p9⟩ := qbox_reads _ _ _ _ _ _ _ _ _ _ _ _ _ _ _ _ _ _ (hX5.trans (hb.mono hz1))
    obtain ⟨v0, v1, v2, v3, v4, v5, v6, v7, v8, v9⟩ := qbox_reads _ _ _ _ _ _ _ _ _ _ _ _ _ _ _ _ _ _ (hY5.trans (hb.mono hz2))
    exact ⟨p0, p1, p2, p3, p4, p5, p6, p7, p8, p9, v0, v1, v2, v3, v4, v5, v6, v7, v8, v9⟩))
  have HNN := Lib.hid (And.intro hN5 hN5')
  have HW5 := Lib.hid hw5
  have CPa := Lib.hid (fun (W : World) (hb : Hid (Below w5.heap.size w5 W)) => (P1.out W _ a tx z m o1 k1 c1 o2 k2 c2 o3 k3 c3 (hE.out W (HB5.out.trans (hb.out.mono HB5.out.size))) (HNN.out.1.under hb.out)).mono (R' := fun e w' => e = .returned (.string X) ∧ (w'.cell? ⟨w2.heap.size, 0, none⟩ = some (.string a) ∧ w'.cell? ⟨w2.heap.size, 1, none⟩ = some (.string tx) ∧ w'.cell? ⟨w2.heap.size, 2, none⟩ = some (.int .i64 z) ∧ w'.cell? ⟨w2.heap.size, 3, none⟩ = some (.int .i64 m) ∧ w'.cell? ⟨w2.heap.size, 4, none⟩ = some (.slice o1 k1 c1) ∧ w'.cell? ⟨w2.heap.size, 5, none⟩ = some (.slice o2 k2 c2) ∧ w'.cell? ⟨w2.heap.size, 6, none⟩ = some (.slice o3 k3 c3) ∧ w'.cell? ⟨w2.heap.size, 7, none⟩ = some (.int .i64 od) ∧ w'.cell? ⟨w2.heap.size, 8, none⟩ = some (.int .i64 li) ∧ w'.cell? ⟨w2.heap.size, 9, none⟩ = some (.int .i64 ob) ∧ w'.cell? ⟨w4.heap.size, 0, none⟩ = some (.string a') ∧ w'.cell? ⟨w4.heap.size, 1, none⟩ = some (.string tx') ∧ w'.cell? ⟨w4.heap.size, 2, none⟩ = some (.int .i64 z') ∧ w'.cell? ⟨w4.heap.size, 3, none⟩ = some (.int .i64 m') ∧ w'.cell? ⟨w4.heap.size, 4, none⟩ = some (.slice o1' k1' c1') ∧ w'.cell? ⟨w4.heap.size, 5, none⟩ = some (.slice o2' k2' c2') ∧ w'.cell? ⟨w4.heap.size, 6, none⟩ = some (.slice o3' k3' c3') ∧ w'.cell? ⟨w4.heap.size, 7, none⟩ = some (.int .i64 od') ∧ w'.cell? ⟨w4.heap.size, 8, none⟩ = some (.int .i64 li') ∧ w'.cell? ⟨w4.heap.size, 9, none⟩ = some (.int .i64 ob')) ∧ Hid (Below w5.heap.size w5 w')) (fun e w' q => have hq := hb.out.trans (q.2.mono hb.out.size); ⟨q.1, HKS.out w' hq, hq⟩))
  have CPb := Lib.hid (fun (W : World) (hb : Hid (Below w5.heap.size w5 W)) => (P2.out W _ a' tx' z' m' o1' k1' c1' o2' k2' c2' o3' k3' c3' (hE.out W (HB5.out.trans (hb.out.mono HB5.out.size))) (HNN.out.2.under hb.out)).mono (R' := fun e w' => e = .returned (.string Y) ∧ (w'.cell? ⟨w2.heap.size, 0, none⟩ = some (.string a) ∧ w'.cell? ⟨w2.heap.size, 1, none⟩ = some (.string tx) ∧ w'.cell? ⟨w2.heap.size, 2, none⟩ = some (.int .i64 z) ∧ w'.cell? ⟨w2.heap.size, 3, none⟩ = some (.int .i64 m) ∧ w'.cell? ⟨w2.heap.size, 4, none⟩ = some (.slice o1 k1 c1) ∧ w'.cell? ⟨w2.heap.size, 5, none⟩ = some (.slice o2 k2 c2) ∧ w'.cell? ⟨w2.heap.size, 6, none⟩ = some (.slice o3 k3 c3) ∧ w'.cell? ⟨w2.heap.size, 7, none⟩ = some (.int .i64 od) ∧ w'.cell? ⟨w2.heap.size, 8, none⟩ = some (.int .i64 li) ∧ w'.cell? ⟨w2.heap.size, 9, none⟩ = some (.int .i64 ob) ∧ w'.cell? ⟨w4.heap.size, 0, none⟩ = some (.string a') ∧ w'.cell? ⟨w4.heap.size, 1, none⟩ = some (.string tx') ∧ w'.cell? ⟨w4.heap.size, 2, none⟩ = some (.int .i64 z') ∧ w'.cell? ⟨w4.heap.size, 3, none⟩ = some (.int .i64 m') ∧ w'.cell? ⟨w4.heap.size, 4, none⟩ = some (.slice o1' k1' c1') ∧ w'.cell? ⟨w4.heap.size, 5, none⟩ = some (.slice o2' k2' c2') ∧ w'.cell? ⟨w4.heap.size, 6, none⟩ = some (.slice o3' k3' c3') ∧ w'.cell? ⟨w4.heap.size, 7, none⟩ = some (.int .i64 od') ∧ w'.cell? ⟨w4.heap.size, 8, none⟩ = some (.int .i64 li') ∧ w'.cell? ⟨w4.heap.size, 9, none⟩ = some (.int .i64 ob')) ∧ Hid (Below w5.heap.size w5 w')) (fun e w' q => have hq := hb.out.trans (q.2.mono hb.out.size); ⟨q.1, HKS.out w' hq, hq⟩))
  have CS := Lib.hid (fun (W : World) (hb : Hid (Below w5.heap.size w5 W)) => (lsame_any x y HF.out r _ _ W a tx z m o1 k1 c1 o2 k2 c2 o3 k3 c3 od li ob a' tx' z' m' o1' k1' c1' o2' k2' c2' o3' k3' c3' od' li' ob' (HNN.out.1.under hb.out) (HNN.out.2.under hb.out) HR.out).mono (R' := fun e w' => e = .returned (.bool r) ∧ (w'.cell? ⟨w2.heap.size, 0, none⟩ = some (.string a) ∧ w'.cell? ⟨w2.heap.size, 1, none⟩ = some (.string tx) ∧ w'.cell? ⟨w2.heap.size, 2, none⟩ = some (.int .i64 z) ∧ w'.cell? ⟨w2.heap.size, 3, none⟩ = some (.int .i64 m) ∧ w'.cell? ⟨w2.heap.size, 4, none⟩ = some (.slice o1 k1 c1) ∧ w'.cell? ⟨w2.heap.size, 5, none⟩ = some (.slice o2 k2 c2) ∧ w'.cell? ⟨w2.heap.size, 6, none⟩ = some (.slice o3 k3 c3) ∧ w'.cell? ⟨w2.heap.size, 7, none⟩ = some (.int .i64 od) ∧ w'.cell? ⟨w2.heap.size, 8, none⟩ = some (.int .i64 li) ∧ w'.cell? ⟨w2.heap.size, 9, none⟩ = some (.int .i64 ob) ∧ w'.cell? ⟨w4.heap.size, 0, none⟩ = some (.string a') ∧ w'.cell? ⟨w4.heap.size, 1, none⟩ = some (.string tx') ∧ w'.cell? ⟨w4.heap.size, 2, none⟩ = some (.int .i64 z') ∧ w'.cell? ⟨w4.heap.size, 3, none⟩ = some (.int .i64 m') ∧ w'.cell? ⟨w4.heap.size, 4, none⟩ = some (.slice o1' k1' c1') ∧ w'.cell? ⟨w4.heap.size, 5, none⟩ = some (.slice o2' k2' c2') ∧ w'.cell? ⟨w4.heap.size, 6, none⟩ = some (.slice o3' k3' c3') ∧ w'.cell? ⟨w4.heap.size, 7, none⟩ = some (.int .i64 od') ∧ w'.cell? ⟨w4.heap.size, 8, none⟩ = some (.int .i64 li') ∧ w'.cell? ⟨w4.heap.size, 9, none⟩ = some (.int .i64 ob')) ∧ Hid (Below w5.heap.size w5 w')) (fun e w' q => have hq := hb.out.trans (q.2.mono hb.out.size); ⟨q.1, HKS.out w' hq, hq⟩))
  have CP := Lib.hid (fun (W : World) (hb : Hid (Below w5.heap.size w5 W)) => (psame_any _ x y (Nat.le_refl _) HF.out _ _ W a tx z m o1 k1 c1 o2 k2 c2 o3 k3 c3 a' tx' z' m' o1' k1' c1' o2' k2' c2' o3' k3' c3' (HNN.out.1.under hb.out) (HNN.out.2.under hb.out)).mono (R' := fun e w' => e = .returned (.bool rr) ∧ (w'.cell? ⟨w2.heap.size, 0, none⟩ = some (.string a) ∧ w'.cell? ⟨w2.heap.size, 1, none⟩ = some (.string tx) ∧ w'.cell? ⟨w2.heap.size, 2, none⟩ = some (.int .i64 z) ∧ w'.cell? ⟨w2.heap.size, 3, none⟩ = some (.int .i64 m) ∧ w'.cell? ⟨w2.heap.size, 4, none⟩ = some (.slice o1 k1 c1) ∧ w'.cell? ⟨w2.heap.size, 5, none⟩ = some (.slice o2 k2 c2) ∧ w'.cell? ⟨w2.heap.size, 6, none⟩ = some (.slice o3 k3 c3) ∧ w'.cell? ⟨w2.heap.size, 7, none⟩ = some (.int .i64 od) ∧ w'.cell? ⟨w2.heap.size, 8, none⟩ = some (.int .i64 li) ∧ w'.cell? ⟨w2.heap.size, 9, none⟩ = some (.int .i64 ob) ∧ w'.cell? ⟨w4.heap.size, 0, none⟩ = some (.string a') ∧ w'.cell? ⟨w4.heap.size, 1, none⟩ = some (.string tx') ∧ w'.cell? ⟨w4.heap.size, 2, none⟩ = some (.int .i64 z') ∧ w'.cell? ⟨w4.heap.size, 3, none⟩ = some (.int .i64 m') ∧ w'.cell? ⟨w4.heap.size, 4, none⟩ = some (.slice o1' k1' c1') ∧ w'.cell? ⟨w4.heap.size, 5, none⟩ = some (.slice o2' k2' c2') ∧ w'.cell? ⟨w4.heap.size, 6, none⟩ = some (.slice o3' k3' c3') ∧ w'.cell? ⟨w4.heap.size, 7, none⟩ = some (.int .i64 od') ∧ w'.cell? ⟨w4.heap.size, 8, none⟩ = some (.int .i64 li') ∧ w'.cell? ⟨w4.heap.size, 9, none⟩ = some (.int .i64 ob')) ∧ Hid (Below w5.heap.size w5 w')) (fun e w' q => have hq := hb.out.trans (q.2.mono hb.out.size); ⟨by rw [← HRR.out]; exact q.1, HKS.out w' hq, hq⟩))
  have CR := Lib.hid (fun (W : World) (hb : Hid (Below w5.heap.size w5 W)) => (rsame_any _ x y (Nat.le_refl _) HF.out _ _ W a tx z m o1 k1 c1 o2 k2 c2 o3 k3 c3 a' tx' z' m' o1' k1' c1' o2' k2' c2' o3' k3' c3' (HNN.out.1.under hb.out) (HNN.out.2.under hb.out)).mono (R' := fun e w' => e = .returned (.bool rr) ∧ (w'.cell? ⟨w2.heap.size, 0, none⟩ = some (.string a) ∧ w'.cell? ⟨w2.heap.size, 1, none⟩ = some (.string tx) ∧ w'.cell? ⟨w2.heap.size, 2, none⟩ = some (.int .i64 z) ∧ w'.cell? ⟨w2.heap.size, 3, none⟩ = some (.int .i64 m) ∧ w'.cell? ⟨w2.heap.size, 4, none⟩ = some (.slice o1 k1 c1) ∧ w'.cell? ⟨w2.heap.size, 5, none⟩ = some (.slice o2 k2 c2) ∧ w'.cell? ⟨w2.heap.size, 6, none⟩ = some (.slice o3 k3 c3) ∧ w'.cell? ⟨w2.heap.size, 7, none⟩ = some (.int .i64 od) ∧ w'.cell? ⟨w2.heap.size, 8, none⟩ = some (.int .i64 li) ∧ w'.cell? ⟨w2.heap.size, 9, none⟩ = some (.int .i64 ob) ∧ w'.cell? ⟨w4.heap.size, 0, none⟩ = some (.string a') ∧ w'.cell? ⟨w4.heap.size, 1, none⟩ = some (.string tx') ∧ w'.cell? ⟨w4.heap.size, 2, none⟩ = some (.int .i64 z') ∧ w'.cell? ⟨w4.heap.size, 3, none⟩ = some (.int .i64 m') ∧ w'.cell? ⟨w4.heap.size, 4, none⟩ = some (.slice o1' k1' c1') ∧ w'.cell? ⟨w4.heap.size, 5, none⟩ = some (.slice o2' k2' c2') ∧ w'.cell? ⟨w4.heap.size, 6, none⟩ = some (.slice o3' k3' c3') ∧ w'.cell? ⟨w4.heap.size, 7, none⟩ = some (.int .i64 od') ∧ w'.cell? ⟨w4.heap.size, 8, none⟩ = some (.int .i64 li') ∧ w'.cell? ⟨w4.heap.size, 9, none⟩ = some (.int .i64 ob')) ∧ Hid (Below w5.heap.size w5 w')) (fun e w' q => have hq := hb.out.trans (q.2.mono hb.out.size); ⟨by rw [← HRR.out]; exact q.1, HKS.out w' hq, hq⟩))
  obtain ⟨r0, r1, r2, r3, r4, r5, r6, r7, r8, r9, r10, r11, r12, r13, r14, r15, r16, r17, r18, r19⟩ := HKS.out w5 (Below.refl _ _)
  have rb := Lib.hid (show Below w5.heap.size w5 w5.drew from (Below.refl _ _).drew)
  clear b4 hn' hX5 hY5 hN5 hN5' hz1 hz2 hw5
  go_wp2_with fail
  rw [show w4.alloc (QBox a' tx' z' m' o1' k1' c1' o2' k2' c2' o3' k3' c3' od' li' ob') = w5 from HW5.out]
  go_cut [9, 10] from 40 to 43 (fun u9 u10 wx => u9 = .string X ∧ u10 = .string Y ∧ Hid (Below w5.heap.size w5 wx))
  case first =>
    go_region_held3 (fun w' => w'.cell? ⟨w2.heap.size, 0, none⟩ = some (.string a) ∧ w'.cell? ⟨w2.heap.size, 1, none⟩ = some (.string tx) ∧ w'.cell? ⟨w2.heap.size, 2, none⟩ = some (.int .i64 z) ∧ w'.cell? ⟨w2.heap.size, 3, none⟩ = some (.int .i64 m) ∧ w'.cell? ⟨w2.heap.size, 4, none⟩ = some (.slice o1 k1 c1) ∧ w'.cell? ⟨w2.heap.size, 5, none⟩ = some (.slice o2 k2 c2) ∧ w'.cell? ⟨w2.heap.size, 6, none⟩ = some (.slice o3 k3 c3) ∧ w'.cell? ⟨w2.heap.size, 7, none⟩ = some (.int .i64 od) ∧ w'.cell? ⟨w2.heap.size, 8, none⟩ = some (.int .i64 li) ∧ w'.cell? ⟨w2.heap.size, 9, none⟩ = some (.int .i64 ob) ∧ w'.cell? ⟨w4.heap.size, 0, none⟩ = some (.string a') ∧ w'.cell? ⟨w4.heap.size, 1, none⟩ = some (.string tx') ∧ w'.cell? ⟨w4.heap.size, 2, none⟩ = some (.int .i64 z') ∧ w'.cell? ⟨w4.heap.size, 3, none⟩ = some (.int .i64 m') ∧ w'.cell? ⟨w4.heap.size, 4, none⟩ = some (.slice o1' k1' c1') ∧ w'.cell? ⟨w4.heap.size, 5, none⟩ = some (.slice o2' k2' c2') ∧ w'.cell? ⟨w4.heap.size, 6, none⟩ = some (.slice o3' k3' c3') ∧ w'.cell? ⟨w4.heap.size, 7, none⟩ = some (.int .i64 od') ∧ w'.cell? ⟨w4.heap.size, 8, none⟩ = some (.int .i64 li') ∧ w'.cell? ⟨w4.heap.size, 9, none⟩ = some (.int .i64 ob')) (first | exact ⟨s0, s1, s2, s3, s4, s5, s6, s7, s8, s9, s10, s11, s12, s13, s14, s15, s16, s17, s18, s19⟩ | exact ⟨r0, r1, r2, r3, r4, r5, r6, r7, r8, r9, r10, r11, r12, r13, r14, r15, r16, r17, r18, r19⟩) (first
      | (go_at_call 16; go_fit (CPa.out _ rb); rintro e wq ⟨rfl, ⟨s0, s1, s2, s3, s4, s5, s6, s7, s8, s9, s10, s11, s12, s13, s14, s15, s16, s17, s18, s19⟩, sb⟩)
      | (go_at_call 16; go_fit (CPb.out _ rb); rintro e wq ⟨rfl, ⟨s0, s1, s2, s3, s4, s5, s6, s7, s8, s9, s10, s11, s12, s13, s14, s15, s16, s17, s18, s19⟩, sb⟩)
      | (go_at_call 16; go_fit (CPa.out _ sb); rintro e wq2 ⟨rfl, ⟨s0, s1, s2, s3, s4, s5, s6, s7, s8, s9, s10, s11, s12, s13, s14, s15, s16, s17, s18, s19⟩, sb⟩)
      | (go_at_call 16; go_fit (CPb.out _ sb); rintro e wq2 ⟨rfl, ⟨s0, s1, s2, s3, s4, s5, s6, s7, s8, s9, s10, s11, s12, s13, s14, s15, s16, s17, s18, s19⟩, sb⟩))
    all_goals go_wp2_with fail
    all_goals go_meet
    all_goals exact ⟨rfl, rfl, sb⟩
  case rest =>
  rename World => w6
  obtain ⟨rfl, rfl, hb6⟩ := hcut
  clear r0 r1 r2 r3 r4 r5 r6 r7 r8 r9 r10 r11 r12 r13 r14 r15 r16 r17 r18 r19 rb
  obtain ⟨r0, r1, r2, r3, r4, r5, r6, r7, r8, r9, r10, r11, r12, r13, r14, r15, r16, r17, r18, r19⟩ := HKS.out w6 hb6.out
  have rb := Lib.hid (show Below w5.heap.size w5 w6.drew from hb6.out.drew)
  have hxy := HXY.out
  cases r with
  | true =>
    obtain rfl := hxy.2 rfl
    clear hxy HXY
    go_wp2_with fail
    go_region_held3 (fun w' => w'.cell? ⟨w2.heap.size, 0, none⟩ = some (.string a) ∧ w'.cell? ⟨w2.heap.size, 1, none⟩ = some (.string tx) ∧ w'.cell? ⟨w2.heap.size, 2, none⟩ = some (.int .i64 z) ∧ w'.cell? ⟨w2.heap.size, 3, none⟩ = some (.int .i64 m) ∧ w'.cell? ⟨w2.heap.size, 4, none⟩ = some (.slice o1 k1 c1) ∧ w'.cell? ⟨w2.heap.size, 5, none⟩ = some (.slice o2 k2 c2) ∧ w'.cell? ⟨w2.heap.size, 6, none⟩ = some (.slice o3 k3 c3) ∧ w'.cell? ⟨w2.heap.size, 7, none⟩ = some (.int .i64 od) ∧ w'.cell? ⟨w2.heap.size, 8, none⟩ = some (.int .i64 li) ∧ w'.cell? ⟨w2.heap.size, 9, none⟩ = some (.int .i64 ob) ∧ w'.cell? ⟨w4.heap.size, 0, none⟩ = some (.string a') ∧ w'.cell? ⟨w4.heap.size, 1, none⟩ = some (.string tx') ∧ w'.cell? ⟨w4.heap.size, 2, none⟩ = some (.int .i64 z') ∧ w'.cell? ⟨w4.heap.size, 3, none⟩ = some (.int .i64 m') ∧ w'.cell? ⟨w4.heap.size, 4, none⟩ = some (.slice o1' k1' c1') ∧ w'.cell? ⟨w4.heap.size, 5, none⟩ = some (.slice o2' k2' c2') ∧ w'.cell? ⟨w4.heap.size, 6, none⟩ = some (.slice o3' k3' c3') ∧ w'.cell? ⟨w4.heap.size, 7, none⟩ = some (.int .i64 od') ∧ w'.cell? ⟨w4.heap.size, 8, none⟩ = some (.int .i64 li') ∧ w'.cell? ⟨w4.heap.size, 9, none⟩ = some (.int .i64 ob')) (first | exact ⟨s0, s1, s2, s3, s4, s5, s6, s7, s8, s9, s10, s11, s12, s13, s14, s15, s16, s17, s18, s19⟩ | exact ⟨r0, r1, r2, r3, r4, r5, r6, r7, r8, r9, r10, r11, r12, r13, r14, r15, r16, r17, r18, r19⟩) (first
      | (go_at_call 17; go_fit (CS.out _ rb); rintro e wq ⟨rfl, ⟨s0, s1, s2, s3, s4, s5, s6, s7, s8, s9, s10, s11, s12, s13, s14, s15, s16, s17, s18, s19⟩, sb⟩)
      | (go_at_call 15; go_fit (CP.out _ sb); rintro e wq2 ⟨rfl, ⟨s0, s1, s2, s3, s4, s5, s6, s7, s8, s9, s10, s11, s12, s13, s14, s15, s16, s17, s18, s19⟩, sb⟩)
      | (go_at_call 21; go_fit (CR.out _ sb); rintro e wq3 ⟨rfl, ⟨s0, s1, s2, s3, s4, s5, s6, s7, s8, s9, s10, s11, s12, s13, s14, s15, s16, s17, s18, s19⟩, sb⟩))
    all_goals
      go_wp2
      go_ret
      exact ⟨rfl, HB5.out.trans (sb.out.mono HB5.out.size)⟩
  | false =>
    have hne : X ≠ Y := fun e => by have := hxy.1 e; cases this
    obtain ⟨n1, n2, n3⟩ := str_ne hne
    clear hxy HXY hne
    go_wp2_with fail
    go_region_held3 (fun w' => w'.cell? ⟨w2.heap.size, 0, none⟩ = some (.string a) ∧ w'.cell? ⟨w2.heap.size, 1, none⟩ = some (.string tx) ∧ w'.cell? ⟨w2.heap.size, 2, none⟩ = some (.int .i64 z) ∧ w'.cell? ⟨w2.heap.size, 3, none⟩ = some (.int .i64 m) ∧ w'.cell? ⟨w2.heap.size, 4, none⟩ = some (.slice o1 k1 c1) ∧ w'.cell? ⟨w2.heap.size, 5, none⟩ = some (.slice o2 k2 c2) ∧ w'.cell? ⟨w2.heap.size, 6, none⟩ = some (.slice o3 k3 c3) ∧ w'.cell? ⟨w2.heap.size, 7, none⟩ = some (.int .i64 od) ∧ w'.cell? ⟨w2.heap.size, 8, none⟩ = some (.int .i64 li) ∧ w'.cell? ⟨w2.heap.size, 9, none⟩ = some (.int .i64 ob) ∧ w'.cell? ⟨w4.heap.size, 0, none⟩ = some (.string a') ∧ w'.cell? ⟨w4.heap.size, 1, none⟩ = some (.string tx') ∧ w'.cell? ⟨w4.heap.size, 2, none⟩ = some (.int .i64 z') ∧ w'.cell? ⟨w4.heap.size, 3, none⟩ = some (.int .i64 m') ∧ w'.cell? ⟨w4.heap.size, 4, none⟩ = some (.slice o1' k1' c1') ∧ w'.cell? ⟨w4.heap.size, 5, none⟩ = some (.slice o2' k2' c2') ∧ w'.cell? ⟨w4.heap.size, 6, none⟩ = some (.slice o3' k3' c3') ∧ w'.cell? ⟨w4.heap.size, 7, none⟩ = some (.int .i64 od') ∧ w'.cell? ⟨w4.heap.size, 8, none⟩ = some (.int .i64 li') ∧ w'.cell? ⟨w4.heap.size, 9, none⟩ = some (.int .i64 ob')) (first | exact ⟨s0, s1, s2, s3, s4, s5, s6, s7, s8, s9, s10, s11, s12, s13, s14, s15, s16, s17, s18, s19⟩ | exact ⟨r0, r1, r2, r3, r4, r5, r6, r7, r8, r9, r10, r11, r12, r13, r14, r15, r16, r17, r18, r19⟩) (first
      | (go_at_call 17; go_fit (CS.out _ rb); rintro e wq ⟨rfl, ⟨s0, s1, s2, s3, s4, s5, s6, s7, s8, s9, s10, s11, s12, s13, s14, s15, s16, s17, s18, s19⟩, sb⟩)
      | (go_at_call 15; go_fit (CP.out _ sb); rintro e wq2 ⟨rfl, ⟨s0, s1, s2, s3, s4, s5, s6, s7, s8, s9, s10, s11, s12, s13, s14, s15, s16, s17, s18, s19⟩, sb⟩)
      | (go_at_call 21; go_fit (CR.out _ sb); rintro e wq3 ⟨rfl, ⟨s0, s1, s2, s3, s4, s5, s6, s7, s8, s9, s10, s11, s12, s13, s14, s15, s16, s17, s18, s19⟩, sb⟩))
    all_goals
      go_wp2
      go_ret
      exact ⟨rfl, HB5.out.trans (sb.out.mono HB5.out.size)⟩

set_option maxHeartbeats 8000000 in
set_option maxRecDepth 100000 in
theorem unlike_any (s t : ByteArray) (w : World) (h : Env w) (hs : s.size ≤ maxLen) (ht : t.size ≤ maxLen) :
    Calls Tryz.prog 4 #[.string s, .string t] w fun e w' => e = .returned (.bool true) ∧ Below w.heap.size w w' := by
  unfold maxLen at hs ht
  by_cases hbig : 600 < s.size ∨ 600 < t.size
  · have cA := Lib.hid (fun W (hb : Below w.heap.size w W) => alive_any W (h.below hb))
    have i1 : (600 : Int) < s.size ∨ ((s.size : Int) ≤ 600 ∧ (600 : Int) < t.size) := by omega
    clear hbig h
    rcases i1 with i1 | ⟨i1, i2⟩
    all_goals
      go_enter Tryz.func4, Tryz.ntmps4
      go_wp2_with (go_at_call 10; refine (cA.out _ (Below.refl _ _)).mono ?_; rintro e w1 ⟨rfl, b1⟩)
      go_ret
      exact ⟨rfl, b1⟩
  · have i1 : (s.size : Int) ≤ 600 := by omega
    have i2 : (t.size : Int) ≤ 600 := by omega
    clear hbig
    cases hr1 : readL s.data.toList with
    | none =>
      have cA := Lib.hid (fun W (hb : Below w.heap.size w W) => alive_any W (h.below hb))
      have C1 := Lib.hid (fun W (hb : Below w.heap.size w W) => read_not s (by omega) hr1 W (h.below hb))
      have C2 := Lib.hid (fun W (hb : Below w.heap.size w W) => read_raw t (by unfold maxLen; omega) W (h.below hb))
      clear h hr1
      go_enter Tryz.func4, Tryz.ntmps4
      go_wp2_with fail
      refine (cA.out _ (Below.refl _ _)).mono ?_
      rintro e w1 ⟨rfl, b1⟩
      have B1 := Lib.hid b1
      clear b1
      go_wp2_with fail
      refine (C1.out _ B1.out).mono ?_
      rintro e w2 ⟨rfl, b2⟩
      have B2 := Lib.hid (below_box (B1.out.trans (b2.mono B1.out.size)) (QBox ⟨#[]⟩ ⟨#[]⟩ 0 0 none 0 0 none 0 0 none 0 0 0 0 0))
      clear b2
      go_wp2_with fail
      refine (C2.out _ B2.out).mono ?_
      rintro e w4 ⟨⟨a, tx, z, m, o1, k1, c1, o2, k2, c2, o3, k3, c3, od, li, ob, k, rfl⟩, b4⟩
      have B4 := Lib.hid (below_box (B2.out.trans (b4.mono B2.out.size)) (QBox a tx z m o1 k1 c1 o2 k2 c2 o3 k3 c3 od li ob))
      clear b4
      go_wp2
      go_ret
      exact ⟨rfl, B4.out⟩
    | some q1 =>
      cases hr2 : readL t.data.toList with
      | some q2 => exact unlike_main s t w h i1 i2 q1 q2 hr1 hr2
      | none =>
        have cA := Lib.hid (fun W (hb : Below w.heap.size w W) => alive_any W (h.below hb))
        obtain ⟨od, hod⟩ : ∃ od : Int, (q1.order : Int) = od := ⟨_, rfl⟩
        have C1 := Lib.hid (fun W (hb : Below w.heap.size w W) => read_is s (by omega) q1 hr1 od hod W (h.below hb))
        have C2 := Lib.hid (fun W (hb : Below w.heap.size w W) => read_not t (by omega) hr2 W (h.below hb))
        generalize q1.limit = li at C1
        generalize q1.offset = ob at C1
        clear h hr1 hr2 hod
        go_enter Tryz.func4, Tryz.ntmps4
        go_wp2_with fail
        refine (cA.out _ (Below.refl _ _)).mono ?_
        rintro e w1 ⟨rfl, b1⟩
        have B1 := Lib.hid b1
        clear b1
        go_wp2_with fail
        refine (C1.out _ B1.out).mono ?_
        rintro e w2 ⟨⟨a, tx, z, m, o1, k1, c1, o2, k2, c2, o3, k3, c3, rfl, hn⟩, b2⟩
        have B2 := Lib.hid (below_box (B1.out.trans (b2.mono B1.out.size)) (QBox a tx z m o1 k1 c1 o2 k2 c2 o3 k3 c3 od li ob))
        clear b2 hn
        go_wp2_with fail
        refine (C2.out _ B2.out).mono ?_
        rintro e w4 ⟨rfl, b4⟩
        have B4 := Lib.hid (below_box (B2.out.trans (b4.mono B2.out.size)) (QBox ⟨#[]⟩ ⟨#[]⟩ 0 0 none 0 0 none 0 0 none 0 0 0 0 0))
        clear b4
        go_wp2
        go_ret
        exact ⟨rfl, B4.out⟩
end Go.Proofs.YtmdmjnidfcopcaaGreatDoor.Par
