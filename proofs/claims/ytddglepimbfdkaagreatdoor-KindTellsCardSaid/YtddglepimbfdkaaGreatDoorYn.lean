/- Of every query its kind, how deep it is, which metrics it names (the law). -/
import Derived.Test.YtddglepimbfdkaaGreatDoorYk
import Derived.Test.YtddglepimbfdkaaGreatDoorYj
import Derived.Test.YtddglepimbfdkaaGreatDoorTxk
import Derived.Deep.RegionHeld
namespace Go.Proofs.YtddglepimbfdkaaGreatDoor.Knd
open Go.RowKit Go.Lib
open Go.Proofs.YtddglepimbfdkaaGreatDoor.Par


set_option maxHeartbeats 16000000 in
set_option maxRecDepth 100000 in
theorem tells_main (s : ByteArray) (w : World) (h : Env w) (i0 : (s.size : Int) ≤ 600) (q1 : Qr) (hr1 : readL s.data.toList = some q1) :
    Calls Tryz.prog 6 #[.string s] w fun e w' => e = .returned (.bool true) ∧ Below w.heap.size w w' := by
  have g1 := readL_good (by rw [← Lib.size_eq]; omega) hr1
  obtain ⟨x, oo, li, ob⟩ := q1
  obtain ⟨od, hod⟩ : ∃ od : Int, (oo : Int) = od := ⟨_, rfl⟩
  have C0 := Lib.hid (fun W (hb : Below w.heap.size w W) => alive_kind W (h.below hb))
  have C1 := Lib.hid (fun W (hb : Below w.heap.size w W) => read_is s (by omega) ⟨x, oo, li, ob⟩ hr1 od hod W (h.below hb))
  dsimp only at C1
  obtain ⟨kk, hkk⟩ : ∃ k : Int, (kindE x : Nat) = k := ⟨_, rfl⟩
  obtain ⟨ke, hke⟩ : ∃ k : Int, (errK (kindE x) : Nat) = k := ⟨_, rfl⟩
  obtain ⟨kc, hkc⟩ : ∃ k : Int, (chkK (kindE x) : Nat) = k := ⟨_, rfl⟩
  have hcase : (kk = 0 ∧ ke = 3 ∧ kc = 3) ∨ (kk = 1 ∧ ke = 0 ∧ kc = 0) ∨ (kk = 2 ∧ ke = 0 ∧ kc = 0) ∨ (kk = 3 ∧ ke = 0 ∧ kc = 3) := by
    have h := kindE_le x
    rw [← hkk, ← hke, ← hkc]
    rcases (show kindE x = 0 ∨ kindE x = 1 ∨ kindE x = 2 ∨ kindE x = 3 by omega) with h | h | h | h <;> rw [h] <;> simp [errK, chkK]
  have hcnt : countE x ≤ 200 := g1.2.2.2.2
  have hgood : Par.Good x := g1.1
  obtain ⟨dd, hdd⟩ : ∃ k : Int, (deepE x : Nat) = k := ⟨_, rfl⟩
  have hml := metE_len x
  have KO := Lib.hid (fun P W a b z m o1 k1 c1 o2 k2 c2 o3 k3 c3 hN => kof_is (x := x) hkk hke P W a b z m o1 k1 c1 o2 k2 c2 o3 k3 c3 hN)
  have KC := Lib.hid (fun P W a b z m o1 k1 c1 o2 k2 c2 o3 k3 c3 od li ob hN => kcheck_is (x := x) hkc P W a b z m o1 k1 c1 o2 k2 c2 o3 k3 c3 od li ob hN)
  have RO := Lib.hid (fun P W a b z m o1 k1 c1 o2 k2 c2 o3 k3 c3 hN => dec_is (rof_any _ x (Nat.le_refl _)) hkk P W a b z m o1 k1 c1 o2 k2 c2 o3 k3 c3 hN)
  have KD := Lib.hid (fun P W a b z m o1 k1 c1 o2 k2 c2 o3 k3 c3 hN => dec_is (deep_any _ x (Nat.le_refl _) (by omega)) hdd P W a b z m o1 k1 c1 o2 k2 c2 o3 k3 c3 hN)
  have RD := Lib.hid (fun P W a b z m o1 k1 c1 o2 k2 c2 o3 k3 c3 hN => dec_is (rdeep_any _ x (Nat.le_refl _) (by omega)) hdd P W a b z m o1 k1 c1 o2 k2 c2 o3 k3 c3 hN)
  have KM0 := kmet_any x (by omega) (good_sels x hgood)
  have RM0 := rmet_any _ x (Nat.le_refl _) (by omega)
  unfold MeC at KM0 RM0
  obtain ⟨M, hM⟩ : ∃ M, metE x = M := ⟨_, rfl⟩
  rw [hM] at KM0 RM0 hml
  obtain ⟨n, hn0⟩ : ∃ n, M.length = n := ⟨_, rfl⟩
  have hMn := Lib.hid hn0
  have KM := Lib.hid (fun P W a b z m o1 k1 c1 o2 k2 c2 o3 k3 c3 hN => (KM0 P W a b z m o1 k1 c1 o2 k2 c2 o3 k3 c3 hN).mono (R' := fun e w' => (∃ (o : Option Addr) (c : Nat), e = .returned (.slice o n c) ∧ w'.ownsRow W.heap.size 9 1 (.slice o n c) n (BkX.flatE M)) ∧ Below W.heap.size W w') (fun e w' q => by
    obtain ⟨⟨v, hv, hr⟩, hbw⟩ := q
    rw [hn0] at hr
    obtain ⟨o, c, rfl⟩ := row_form hr
    exact ⟨⟨o, c, hv, hr⟩, hbw⟩))
  have RM := Lib.hid (fun P W a b z m o1 k1 c1 o2 k2 c2 o3 k3 c3 hN => (RM0 P W a b z m o1 k1 c1 o2 k2 c2 o3 k3 c3 hN).mono (R' := fun e w' => (∃ (o : Option Addr) (c : Nat), e = .returned (.slice o n c) ∧ w'.ownsRow W.heap.size 9 1 (.slice o n c) n (BkX.flatE M)) ∧ Below W.heap.size W w') (fun e w' q => by
    obtain ⟨⟨v, hv, hr⟩, hbw⟩ := q
    rw [hn0] at hr
    obtain ⟨o, c, rfl⟩ := row_form hr
    exact ⟨⟨o, c, hv, hr⟩, hbw⟩))
  have hn200 : n ≤ 200 := by omega
  clear g1 hr1 hod h hkk hke hkc hdd hM hn0 hcnt hgood hml KM0 RM0
  go_enter Tryz.func6, Tryz.ntmps6
  go_wp2_with fail
  refine (C0.out _ (Below.refl _ _)).mono ?_
  rintro e w1 ⟨rfl, b1⟩
  have B1 := Lib.hid b1
  clear b1
  go_wp2_with fail
  refine (C1.out _ B1.out).mono ?_
  rintro e w2 ⟨⟨a, tx, z, m, o1, k1, c1, o2, k2, c2, o3, k3, c3, rfl, hn⟩, b2⟩
  obtain ⟨w5, hw5⟩ : ∃ w5, w2.alloc (Obj.cells #[.string a, .string tx, .int .i64 z, .int .i64 m, .slice o1 k1 c1, .slice o2 k2 c2, .slice o3 k3 c3, .int .i64 od, .int .i64 li, .int .i64 ob] 29) = w5 := ⟨_, rfl⟩
  have hX5 : Below (w2.heap.size + 1) (w2.alloc (Obj.cells #[.string a, .string tx, .int .i64 z, .int .i64 m, .slice o1 k1 c1, .slice o2 k2 c2, .slice o3 k3 c3, .int .i64 od, .int .i64 li, .int .i64 ob] 29)) w5 := by rw [← hw5]; exact box_start _ _
  have hz1 : w2.heap.size + 1 ≤ w5.heap.size := by have := hX5.size; rw [qbox_size] at this; exact this
  have HN5 := Lib.hid (hn.under (show Below w2.heap.size w2 w5 by rw [← hw5]; exact (Below.refl _ _).alloc (Nat.le_refl _) _))
  have HB5 := Lib.hid (below_past (B1.out.trans (b2.mono B1.out.size)) hX5)
  have HKS := Lib.hid (fun W (hb : Below w5.heap.size w5 W) => (show W.cell? ⟨w2.heap.size, 0, none⟩ = some (.string a) ∧ W.cell? ⟨w2.heap.size, 1, none⟩ = some (.string tx) ∧ W.cell? ⟨w2.heap.size, 2, none⟩ = some (.int .i64 z) ∧ W.cell? ⟨w2.heap.size, 3, none⟩ = some (.int .i64 m) ∧ W.cell? ⟨w2.heap.size, 4, none⟩ = some (.slice o1 k1 c1) ∧ W.cell? ⟨w2.heap.size, 5, none⟩ = some (.slice o2 k2 c2) ∧ W.cell? ⟨w2.heap.size, 6, none⟩ = some (.slice o3 k3 c3) ∧ W.cell? ⟨w2.heap.size, 7, none⟩ = some (.int .i64 od) ∧ W.cell? ⟨w2.heap.size, 8, none⟩ = some (.int .i64 li) ∧ W.cell? ⟨w2.heap.size, 9, none⟩ = some (.int .i64 ob) from
    qbox_reads _ _ _ _ _ _ _ _ _ _ _ _ _ _ _ _ _ _ (hX5.trans (hb.mono hz1))))
  have HW5 := Lib.hid hw5
  clear b2 hn hX5 hz1 hw5
  go_wp2_with fail
  rw [show w2.alloc (Obj.cells #[.string a, .string tx, .int .i64 z, .int .i64 m, .slice o1 k1 c1, .slice o2 k2 c2, .slice o3 k3 c3, .int .i64 od, .int .i64 li, .int .i64 ob] 29) = w5 from HW5.out]
  refine (KO.out _ _ _ _ _ _ _ _ _ _ _ _ _ _ _ HN5.out).mono ?_
  rintro e w6 ⟨rfl, b6⟩
  have H6 := Lib.hid b6
  clear b6
  obtain ⟨r0, r1, r2, r3, r4, r5, r6, r7, r8, r9⟩ := HKS.out w6 H6.out
  go_wp2_with fail
  refine (RO.out _ _ _ _ _ _ _ _ _ _ _ _ _ _ _ (HN5.out.under H6.out)).mono ?_
  rintro e w7 ⟨rfl, b7⟩
  have H7 := Lib.hid (H6.out.trans (b7.mono H6.out.size))
  clear b7 r0 r1 r2 r3 r4 r5 r6 r7 r8 r9
  obtain ⟨r0, r1, r2, r3, r4, r5, r6, r7, r8, r9⟩ := HKS.out (w7.alloc (Obj.cells #[.slice none 0 0, .slice none 0 0, .slice none 0 0, .slice none 0 0, .slice none 0 0, .slice none 0 0, .slice none 0 0, .slice none 0 0, .slice none 0 0, .slice none 0 0, .slice none 0 0, .slice none 0 0, .slice none 0 0, .slice none 0 0, .slice none 0 0, .slice none 0 0, .slice none 0 0, .slice none 0 0, .slice none 0 0, .slice none 0 0] 57)) (H7.out.alloc H7.out.size _)
  rcases hcase with ⟨rfl, rfl, rfl⟩ | ⟨rfl, rfl, rfl⟩ | ⟨rfl, rfl, rfl⟩ | ⟨rfl, rfl, rfl⟩
  all_goals
    go_wp2_with fail
    obtain ⟨W0, hW0⟩ : ∃ W0, w7.alloc (Obj.cells #[.slice none 0 0, .slice none 0 0, .slice none 0 0, .slice none 0 0, .slice none 0 0, .slice none 0 0, .slice none 0 0, .slice none 0 0, .slice none 0 0, .slice none 0 0, .slice none 0 0, .slice none 0 0, .slice none 0 0, .slice none 0 0, .slice none 0 0, .slice none 0 0, .slice none 0 0, .slice none 0 0, .slice none 0 0, .slice none 0 0] 57) = W0 := ⟨_, rfl⟩
    rw [hW0]
    clear r0 r1 r2 r3 r4 r5 r6 r7 r8 r9
    have HK0 := Lib.hid (show Txb.Bk w7.heap.size W0 0 by rw [← hW0]; exact Txb.bk_start w7)
    have HW0 := Lib.hid (show Below w7.heap.size w7 W0 by rw [← hW0]; exact (Below.refl _ _).alloc (Nat.le_refl _) _)
    obtain ⟨B, hB⟩ : ∃ B, w7.heap.size = B := ⟨_, rfl⟩
    have HBB := Lib.hid hB
    rw [hB] at HK0 HW0 ⊢
    have HKB := Lib.hid (fun W (hb : Below B w7 W) => (show (W.cell? ⟨w2.heap.size, 0, none⟩ = some (.string a) ∧ W.cell? ⟨w2.heap.size, 1, none⟩ = some (.string tx) ∧ W.cell? ⟨w2.heap.size, 2, none⟩ = some (.int .i64 z) ∧ W.cell? ⟨w2.heap.size, 3, none⟩ = some (.int .i64 m) ∧ W.cell? ⟨w2.heap.size, 4, none⟩ = some (.slice o1 k1 c1) ∧ W.cell? ⟨w2.heap.size, 5, none⟩ = some (.slice o2 k2 c2) ∧ W.cell? ⟨w2.heap.size, 6, none⟩ = some (.slice o3 k3 c3) ∧ W.cell? ⟨w2.heap.size, 7, none⟩ = some (.int .i64 od) ∧ W.cell? ⟨w2.heap.size, 8, none⟩ = some (.int .i64 li) ∧ W.cell? ⟨w2.heap.size, 9, none⟩ = some (.int .i64 ob)) ∧ Nod W (fun b => w1.heap.size ≤ b) [.string a, .string tx, .int .i64 z, .int .i64 m, .slice o1 k1 c1, .slice o2 k2 c2, .slice o3 k3 c3] x from ⟨HKS.out W (H7.out.trans (hb.mono (by rw [← HBB.out]; exact H7.out.size))), HN5.out.under (H7.out.trans (hb.mono (by rw [← HBB.out]; exact H7.out.size)))⟩))
    have HW7 := Lib.hid (HB5.out.trans (H7.out.mono HB5.out.size))
    have hBw : w.heap.size ≤ B := by have := HW7.out.size; rw [HBB.out] at this; exact this
    have h0 : B ≤ W0.heap.size := by have := HW0.out.size; rw [HBB.out] at this; exact this
    clear hW0 hB KO RO H6 H7 HN5
    refine (KM.out _ W0 _ _ _ _ _ _ _ _ _ _ _ _ _ (HKB.out W0 HW0.out).2).mono ?_
    rintro e w8 ⟨⟨oa, ca, rfl, ha⟩, b8⟩
    have h8 : W0.heap.size ≤ w8.heap.size := b8.size
    have HA := Lib.hid ha
    have HB8 := Lib.hid (HW0.out.trans (b8.mono h0))
    have HK8 := Lib.hid (HK0.out.before (Nat.le_refl _) b8)
    clear ha b8
    go_wp2_with fail
    refine (Txb.book_keep hMn.out HK8.out (by omega) h0 HA.out (by omega) (by omega) (s2 := w8.heap.size) h8 (fun b e => (HA.out.lt b e).2)).mono ?_
    rintro e w9 ⟨rfl, hk9, b9, f9⟩
    have h9 : w8.heap.size ≤ w9.heap.size := b9.size
    have HK9 := Lib.hid hk9
    have HA9 := Lib.hid (f9 _ _ _ (own_low HA.out h0))
    have HB9 := Lib.hid (HB8.out.trans b9)
    clear hk9 b9 f9
    obtain ⟨⟨r0, r1, r2, r3, r4, r5, r6, r7, r8, r9⟩, -⟩ := HKB.out w9 HB9.out
    go_wp2_with fail
    refine (KM.out _ w9 _ _ _ _ _ _ _ _ _ _ _ _ _ (HKB.out w9 HB9.out).2).mono ?_
    rintro e w10 ⟨⟨oc, cc, rfl, hb⟩, b10⟩
    have h10 : w9.heap.size ≤ w10.heap.size := b10.size
    have HV := Lib.hid hb
    have HA10 := Lib.hid (own_below HA9.out b10)
    have HB10 := Lib.hid (HB9.out.trans (b10.mono (by omega)))
    have HK10 := Lib.hid ((HK9.out.to h9).before (Nat.le_refl _) b10)
    clear hb b10 r0 r1 r2 r3 r4 r5 r6 r7 r8 r9
    go_wp2_with fail
    refine (Txb.book_keep hMn.out HK10.out (by omega) (by omega) HV.out (by omega) (by omega) (s2 := w10.heap.size) h10 (fun b e => (HV.out.lt b e).2)).mono ?_
    rintro e w11 ⟨rfl, hk11, b11, f11⟩
    have h11 : w10.heap.size ≤ w11.heap.size := b11.size
    have HK11 := Lib.hid (hk11.to h11)
    have HA11 := Lib.hid (f11 _ _ _ HA10.out)
    have HB11 := Lib.hid (HB10.out.trans b11)
    clear hk11 b11 f11
    have HFB := Lib.hid (fun W (hb : Below w11.heap.size w11 W) => (show Below B w7 W from HB11.out.trans (hb.mono (by omega))))
    have CD := Lib.hid (fun (W : World) (hb : Hid (Below w11.heap.size w11 W)) => (KD.out _ W a tx z m o1 k1 c1 o2 k2 c2 o3 k3 c3 (HKB.out W (HFB.out W hb.out)).2).mono (R' := fun e w' => e = .returned (.int .i64 dd) ∧ Hid (Below w11.heap.size w11 w')) (fun e w' q => ⟨q.1, hb.out.trans (q.2.mono hb.out.size)⟩))
    have CE := Lib.hid (fun (W : World) (hb : Hid (Below w11.heap.size w11 W)) => (RD.out _ W a tx z m o1 k1 c1 o2 k2 c2 o3 k3 c3 (HKB.out W (HFB.out W hb.out)).2).mono (R' := fun e w' => e = .returned (.int .i64 dd) ∧ Hid (Below w11.heap.size w11 w')) (fun e w' q => ⟨q.1, hb.out.trans (q.2.mono hb.out.size)⟩))
    have CC := Lib.hid (fun (W : World) (hb : Hid (Below w11.heap.size w11 W)) => (KC.out _ W a tx z m o1 k1 c1 o2 k2 c2 o3 k3 c3 od li ob (HKB.out W (HFB.out W hb.out)).2).mono (R' := fun e w' => e = .returned (.int .i64 _) ∧ Hid (Below w11.heap.size w11 w')) (fun e w' q => ⟨q.1, hb.out.trans (q.2.mono hb.out.size)⟩))
    have CR := Lib.hid (fun (W : World) (hb : Hid (Below w11.heap.size w11 W)) => (RM.out _ W a tx z m o1 k1 c1 o2 k2 c2 o3 k3 c3 (HKB.out W (HFB.out W hb.out)).2).mono (R' := fun e w' => ∃ (o : Option Addr) (c : Nat), e = .returned (.slice o n c) ∧ Hid (w'.ownsRow B 9 1 (.slice o n c) n (BkX.flatE M)) ∧ Hid (Below w11.heap.size w11 w')) (fun e w' q => by
      obtain ⟨⟨o, c, hv, hr⟩, hbw⟩ := q
      exact ⟨o, c, hv, own_low hr (by have := hb.out.size; omega), hb.out.trans (hbw.mono hb.out.size)⟩))
    have CS := Lib.hid (fun (W : World) (o : Option Addr) (c : Nat) (hb : Hid (Below w11.heap.size w11 W)) (hr : Hid (W.ownsRow B 9 1 (.slice o n c) n (BkX.flatE M))) => (BkX.sameRunes_any (.slice oa n ca) (.slice o n c) _ _ M (by rw [hMn.out]; omega) W (by rw [hMn.out]; exact own_below HA11.out hb.out) (by rw [hMn.out]; exact hr.out)).mono (R' := fun e w' => e = .returned (.bool true) ∧ Hid (Below w11.heap.size w11 w')) (fun e w' q => by
      obtain ⟨h1, m, rfl⟩ := q
      exact ⟨h1, ⟨hb.out.os, hb.out.tape, hb.out.output, hb.out.size, hb.out.block⟩⟩))
    have CA := Lib.hid (fun (W : World) (hb : Hid (Below w11.heap.size w11 W)) => (Txb.book_apart (HK11.out.below hb.out) (HFB.out W hb.out) (by rw [HBB.out]; exact Nat.le_refl _)).mono (R' := fun e w' => e = .returned (.bool true) ∧ Hid (Below B w7 w')) (fun e w' q => ⟨q.1, q.2⟩))
    clear KD RD KC RM KM HA9 HA10 HV HK8 HK9 HK10 HB8 HB9 HB10 HA HK0 h8 h9 h10 h11
    have rb := Lib.hid (show Below w11.heap.size w11 w11.drew from (Below.refl _ _).drew)
    obtain ⟨⟨r0, r1, r2, r3, r4, r5, r6, r7, r8, r9⟩, -⟩ := HKB.out w11 HB11.out
    go_wp2_with fail
    refine wp_region_held_drew (S := fun W => W.cell? ⟨w2.heap.size, 0, none⟩ = some (.string a) ∧ W.cell? ⟨w2.heap.size, 1, none⟩ = some (.string tx) ∧ W.cell? ⟨w2.heap.size, 2, none⟩ = some (.int .i64 z) ∧ W.cell? ⟨w2.heap.size, 3, none⟩ = some (.int .i64 m) ∧ W.cell? ⟨w2.heap.size, 4, none⟩ = some (.slice o1 k1 c1) ∧ W.cell? ⟨w2.heap.size, 5, none⟩ = some (.slice o2 k2 c2) ∧ W.cell? ⟨w2.heap.size, 6, none⟩ = some (.slice o3 k3 c3) ∧ W.cell? ⟨w2.heap.size, 7, none⟩ = some (.int .i64 od) ∧ W.cell? ⟨w2.heap.size, 8, none⟩ = some (.int .i64 li) ∧ W.cell? ⟨w2.heap.size, 9, none⟩ = some (.int .i64 ob)) (by kernel_rfl) ((HKB.out _ (HFB.out _ rb.out)).1) (fun hHeld => ?_)
    refine wpAnyH_take (i := 0) (v := ?_) rfl (by kernel_rfl) (by kernel_rfl) (by kernel_rfl) (fun _ _ _ h => h) (Or.inl ⟨by kernel_rfl, by intro w _; go_simp; try with_reducible rfl⟩) hHeld ?_
    go_simp
    refine wpAnyH_take (i := 1) (v := ?_) rfl (by kernel_rfl) (by kernel_rfl) (by kernel_rfl) (fun _ _ _ h => h) (Or.inl ⟨by kernel_rfl, by intro w _; go_simp; try with_reducible rfl⟩) hHeld ?_
    go_simp
    refine wpAnyH_take (i := 2) (v := ?_) rfl (by kernel_rfl) (by kernel_rfl) (by kernel_rfl) (fun _ _ _ h => h) (Or.inl ⟨by kernel_rfl, by intro w _; go_simp; try with_reducible rfl⟩) hHeld ?_
    go_simp
    refine wpAnyH_take (i := 3) (v := ?_) rfl (by kernel_rfl) (by kernel_rfl) (by kernel_rfl) (fun _ _ _ h => h) (Or.inl ⟨by kernel_rfl, by intro w _; go_simp; try with_reducible rfl⟩) hHeld ?_
    go_simp
    refine wpAnyH_take (i := 4) (v := ?_) rfl (by kernel_rfl) (by kernel_rfl) (by kernel_rfl) (fun _ _ _ h => h) (Or.inl ⟨by kernel_rfl, by intro w _; go_simp; try with_reducible rfl⟩) hHeld ?_
    go_simp
    refine wpAnyH_take (i := 5) (v := ?_) rfl (by kernel_rfl) (by kernel_rfl) (by kernel_rfl) (fun _ _ _ h => h) (Or.inl ⟨by kernel_rfl, by intro w _; go_simp; try with_reducible rfl⟩) hHeld ?_
    go_simp
    refine wpAnyH_take (i := 6) (v := ?_) rfl (by kernel_rfl) (by kernel_rfl) (by kernel_rfl) (fun _ _ _ h => h) (Or.inl ⟨by kernel_rfl, by intro w _; go_simp; try with_reducible rfl⟩) hHeld ?_
    go_simp
    refine wpAnyH_take (i := 7) (v := ?_) rfl (by kernel_rfl) (by kernel_rfl) (by kernel_rfl) (fun _ _ _ h => h) (Or.inl ⟨by kernel_rfl, by intro w _; go_simp; try with_reducible rfl⟩) hHeld ?_
    go_simp
    refine wpAnyH_take (i := 8) (v := ?_) rfl (by kernel_rfl) (by kernel_rfl) (by kernel_rfl) (fun _ _ _ h => h) (Or.inl ⟨by kernel_rfl, by intro w _; go_simp; try with_reducible rfl⟩) hHeld ?_
    go_simp
    refine wpAnyH_take (i := 9) (v := ?_) rfl (by kernel_rfl) (by kernel_rfl) (by kernel_rfl) (fun _ _ _ h => h) (Or.inl ⟨by kernel_rfl, by intro w _; go_simp; try with_reducible rfl⟩) hHeld ?_
    go_simp
    refine wpAnyH_take (i := 10) (v := ?_) rfl (by kernel_rfl) (by kernel_rfl) (by kernel_rfl) (fun _ _ _ h => h) (Or.inl ⟨by kernel_rfl, by intro w _; go_simp; try with_reducible rfl⟩) hHeld ?_
    go_simp
    refine wpAnyH_take (i := 11) (v := ?_) rfl (by kernel_rfl) (by kernel_rfl) (by kernel_rfl) (fun _ _ _ h => h) (Or.inl ⟨by kernel_rfl, by intro w _; go_simp; try with_reducible rfl⟩) hHeld ?_
    go_simp
    refine wpAnyH_take (i := 12) (v := ?_) rfl (by kernel_rfl) (by kernel_rfl) (by kernel_rfl) (fun _ _ _ h => h) (Or.inl ⟨by kernel_rfl, by intro w _; go_simp; try with_reducible rfl⟩) hHeld ?_
    go_simp
    refine wpAnyH_take (i := 13) (v := ?_) rfl (by kernel_rfl) (by kernel_rfl) (by kernel_rfl) (fun _ _ _ h => h) (Or.inl ⟨by kernel_rfl, by intro w _; go_simp; try with_reducible rfl⟩) hHeld ?_
    go_simp
  focus
    refine wpAnyH_take (i := 14) (v := ?_) rfl (by kernel_rfl) (by kernel_rfl) (by kernel_rfl) (fun _ _ _ h => h) (Or.inl ⟨by kernel_rfl, by intro w _; go_simp; try with_reducible rfl⟩) hHeld ?_
    go_simp
    refine wpAnyH_take (i := 15) (v := ?_) rfl (by kernel_rfl) (by kernel_rfl) (by kernel_rfl) (fun _ _ _ h => h) (Or.inl ⟨by kernel_rfl, by intro w _; go_simp; try with_reducible rfl⟩) hHeld ?_
    go_simp
  rotate_left
  focus
    refine wpAnyH_take (i := 14) (v := undef) rfl (by kernel_rfl) (by kernel_rfl) (by kernel_rfl) (fun _ _ _ h => h) (Or.inr ⟨by kernel_rfl, rfl⟩) hHeld ?_
    go_simp
    refine wpAnyH_take (i := 15) (v := undef) rfl (by kernel_rfl) (by kernel_rfl) (by kernel_rfl) (fun _ _ _ h => h) (Or.inr ⟨by kernel_rfl, rfl⟩) hHeld ?_
    go_simp
  rotate_left
  focus
    refine wpAnyH_take (i := 14) (v := undef) rfl (by kernel_rfl) (by kernel_rfl) (by kernel_rfl) (fun _ _ _ h => h) (Or.inr ⟨by kernel_rfl, rfl⟩) hHeld ?_
    go_simp
    refine wpAnyH_take (i := 15) (v := undef) rfl (by kernel_rfl) (by kernel_rfl) (by kernel_rfl) (fun _ _ _ h => h) (Or.inr ⟨by kernel_rfl, rfl⟩) hHeld ?_
    go_simp
  rotate_left
  focus
    refine wpAnyH_take (i := 14) (v := undef) rfl (by kernel_rfl) (by kernel_rfl) (by kernel_rfl) (fun _ _ _ h => h) (Or.inr ⟨by kernel_rfl, rfl⟩) hHeld ?_
    go_simp
    refine wpAnyH_take (i := 15) (v := undef) rfl (by kernel_rfl) (by kernel_rfl) (by kernel_rfl) (fun _ _ _ h => h) (Or.inr ⟨by kernel_rfl, rfl⟩) hHeld ?_
    go_simp
  rotate_left
  all_goals
    refine wpAnyH_take (i := 16) (v := ?_) rfl (by kernel_rfl) (by kernel_rfl) (by kernel_rfl) (fun _ _ _ h => h) (Or.inl ⟨by kernel_rfl, by intro w _; go_simp; try with_reducible rfl⟩) hHeld ?_
    go_simp
    refine wpAnyH_take (i := 17) (v := ?_) rfl (by kernel_rfl) (by kernel_rfl) (by kernel_rfl) (fun _ _ _ h => h) (Or.inl ⟨by kernel_rfl, by intro w _; go_simp; try with_reducible rfl⟩) hHeld ?_
    go_simp
    refine wpAnyH_take (i := 18) (v := ?_) rfl (by kernel_rfl) (by kernel_rfl) (by kernel_rfl) (fun _ _ _ h => h) (Or.inl ⟨by kernel_rfl, by intro w _; go_simp; try with_reducible rfl⟩) hHeld ?_
    go_simp
    refine wpAnyH_take (i := 19) (v := ?_) rfl (by kernel_rfl) (by kernel_rfl) (by kernel_rfl) (fun _ _ _ h => h) (Or.inl ⟨by kernel_rfl, by intro w _; go_simp; try with_reducible rfl⟩) hHeld ?_
    go_simp
    refine wpAnyH_take (i := 20) (v := ?_) rfl (by kernel_rfl) (by kernel_rfl) (by kernel_rfl) (fun _ _ _ h => h) (Or.inl ⟨by kernel_rfl, by intro w hSw; (try dsimp only at hSw); obtain ⟨r0, r1, r2, r3, r4, r5, r6, r7, r8, r9⟩ := hSw; go_simp; try with_reducible rfl⟩) hHeld ?_
    go_simp
    refine wpAnyH_take (i := 22) (v := ?_) rfl (by kernel_rfl) (by kernel_rfl) (by kernel_rfl) (fun _ _ _ h => h) (Or.inl ⟨by kernel_rfl, by intro w _; go_simp; try with_reducible rfl⟩) hHeld ?_
    go_simp
    refine wpAnyH_take (i := 23) (v := ?_) rfl (by kernel_rfl) (by kernel_rfl) (by kernel_rfl) (fun _ _ _ h => h) (Or.inl ⟨by kernel_rfl, by intro w hSw; (try dsimp only at hSw); obtain ⟨r0, r1, r2, r3, r4, r5, r6, r7, r8, r9⟩ := hSw; go_simp; try with_reducible rfl⟩) hHeld ?_
    go_simp
    refine wpAnyH_ready (rs := [21]) (by kernel_rfl) (by simp) ?_
    refine AllReadyH.cons rfl (fun K hK => ?_) AllReadyH.nil
    clear hHeld
    go_simp
    refine (CD.out _ rb).mono ?_; rintro e w12 ⟨rfl, sb⟩
    go_simp
    refine hK.out _ _ ((HKB.out _ (HFB.out _ sb.out)).1) (fun hHeld => ?_)
    clear hK K
    refine wpAnyH_ready (rs := [24]) (by kernel_rfl) (by simp) ?_
    refine AllReadyH.cons rfl (fun K hK => ?_) AllReadyH.nil
    clear hHeld
    go_simp
    refine (CE.out _ sb).mono ?_; rintro e w13 ⟨rfl, sb2⟩
    go_simp
    refine hK.out _ _ ((HKB.out _ (HFB.out _ sb2.out)).1) (fun hHeld => ?_)
    clear hK K
    refine wpAnyH_take (i := 25) (v := ?_) rfl (by kernel_rfl) (by kernel_rfl) (by kernel_rfl) (fun _ _ _ h => h) (Or.inl ⟨by kernel_rfl, by intro w _; go_simp; try with_reducible rfl⟩) hHeld ?_
    go_simp
    refine wpAnyH_take (i := 26) (v := ?_) rfl (by kernel_rfl) (by kernel_rfl) (by kernel_rfl) (fun _ _ _ h => h) (Or.inl ⟨by kernel_rfl, by intro w _; go_simp; try with_reducible rfl⟩) hHeld ?_
    go_simp
    refine wpAnyH_take (i := 27) (v := ?_) rfl (by kernel_rfl) (by kernel_rfl) (by kernel_rfl) (fun _ _ _ h => h) (Or.inl ⟨by kernel_rfl, by intro w _; go_simp; try with_reducible rfl⟩) hHeld ?_
    go_simp
    refine wpAnyH_take (i := 28) (v := ?_) rfl (by kernel_rfl) (by kernel_rfl) (by kernel_rfl) (fun _ _ _ h => h) (Or.inl ⟨by kernel_rfl, by intro w _; go_simp; try with_reducible rfl⟩) hHeld ?_
    go_simp
    refine wpAnyH_take (i := 29) (v := ?_) rfl (by kernel_rfl) (by kernel_rfl) (by kernel_rfl) (fun _ _ _ h => h) (Or.inl ⟨by kernel_rfl, by intro w _; go_simp; try with_reducible rfl⟩) hHeld ?_
    go_simp
    refine wpAnyH_take (i := 30) (v := ?_) rfl (by kernel_rfl) (by kernel_rfl) (by kernel_rfl) (fun _ _ _ h => h) (Or.inl ⟨by kernel_rfl, by intro w hSw; (try dsimp only at hSw); obtain ⟨r0, r1, r2, r3, r4, r5, r6, r7, r8, r9⟩ := hSw; go_simp; try with_reducible rfl⟩) hHeld ?_
    go_simp
    refine wpAnyH_ready (rs := [31]) (by kernel_rfl) (by simp) ?_
    refine AllReadyH.cons rfl (fun K hK => ?_) AllReadyH.nil
    clear hHeld
    go_simp
    refine (CR.out _ sb2).mono ?_; rintro e w14 ⟨ow, cw, rfl, sw, sb3⟩
    go_simp
    refine hK.out _ _ ((HKB.out _ (HFB.out _ sb3.out)).1) (fun hHeld => ?_)
    clear hK K
    refine wpAnyH_ready (rs := [32]) (by kernel_rfl) (by simp) ?_
    refine AllReadyH.cons rfl (fun K hK => ?_) AllReadyH.nil
    clear hHeld
    go_simp
    refine (CS.out _ ow cw sb3 sw).mono ?_; rintro e w15 ⟨rfl, sb4⟩
    go_simp
    refine hK.out _ _ ((HKB.out _ (HFB.out _ sb4.out)).1) (fun hHeld => ?_)
    clear hK K
    refine wpAnyH_take (i := 33) (v := ?_) rfl (by kernel_rfl) (by kernel_rfl) (by kernel_rfl) (fun _ _ _ h => h) (Or.inl ⟨by kernel_rfl, by intro w _; go_simp; try with_reducible rfl⟩) hHeld ?_
    go_simp
    refine wpAnyH_take (i := 34) (v := ?_) rfl (by kernel_rfl) (by kernel_rfl) (by kernel_rfl) (fun _ _ _ h => h) (Or.inl ⟨by kernel_rfl, by intro w _; go_simp; try with_reducible rfl⟩) hHeld ?_
    go_simp
    refine wpAnyH_take (i := 35) (v := ?_) rfl (by kernel_rfl) (by kernel_rfl) (by kernel_rfl) (fun _ _ _ h => h) (Or.inl ⟨by kernel_rfl, by intro w hSw; (try dsimp only at hSw); obtain ⟨r0, r1, r2, r3, r4, r5, r6, r7, r8, r9⟩ := hSw; go_simp; try with_reducible rfl⟩) hHeld ?_
    go_simp
    refine wpAnyH_take (i := 37) (v := ?_) rfl (by kernel_rfl) (by kernel_rfl) (by kernel_rfl) (fun _ _ _ h => h) (Or.inl ⟨by kernel_rfl, by intro w _; go_simp; try with_reducible rfl⟩) hHeld ?_
    go_simp
    refine wpAnyH_ready (rs := [36]) (by kernel_rfl) (by simp) ?_
    refine AllReadyH.cons rfl (fun K hK => ?_) AllReadyH.nil
    clear hHeld
    go_simp
    refine (CC.out _ sb4).mono ?_; rintro e w16 ⟨rfl, sb5⟩
    go_simp
    refine hK.out _ _ ((HKB.out _ (HFB.out _ sb5.out)).1) (fun hHeld => ?_)
    clear hK K
    refine wpAnyH_take (i := 38) (v := ?_) rfl (by kernel_rfl) (by kernel_rfl) (by kernel_rfl) (fun _ _ _ h => h) (Or.inl ⟨by kernel_rfl, by intro w _; go_simp; try with_reducible rfl⟩) hHeld ?_
    go_simp
    refine wpAnyH_take (i := 39) (v := ?_) rfl (by kernel_rfl) (by kernel_rfl) (by kernel_rfl) (fun _ _ _ h => h) (Or.inl ⟨by kernel_rfl, by intro w _; go_simp; try with_reducible rfl⟩) hHeld ?_
    go_simp
    refine wpAnyH_take (i := 40) (v := ?_) rfl (by kernel_rfl) (by kernel_rfl) (by kernel_rfl) (fun _ _ _ h => h) (Or.inl ⟨by kernel_rfl, by intro w _; go_simp; try with_reducible rfl⟩) hHeld ?_
    go_simp
    refine wpAnyH_take (i := 41) (v := ?_) rfl (by kernel_rfl) (by kernel_rfl) (by kernel_rfl) (fun _ _ _ h => h) (Or.inl ⟨by kernel_rfl, by intro w _; go_simp; try with_reducible rfl⟩) hHeld ?_
    go_simp
    refine wpAnyH_ready (rs := [42]) (by kernel_rfl) (by simp) ?_
    refine AllReadyH.cons rfl (fun K hK => ?_) AllReadyH.nil
    clear hHeld
    go_simp
    refine (CA.out _ sb5).mono ?_; rintro e w17 ⟨rfl, sb6⟩
    go_simp
    refine hK.out _ _ ((HKB.out _ sb6.out).1) (fun hHeld => ?_)
    clear hK K
    refine wpAnyH_take (i := 43) (v := ?_) rfl (by kernel_rfl) (by kernel_rfl) (by kernel_rfl) (fun _ _ _ h => h) (Or.inl ⟨by kernel_rfl, by intro w _; go_simp; try with_reducible rfl⟩) hHeld ?_
    go_simp
    refine wpAnyH_take (i := 44) (v := ?_) rfl (by kernel_rfl) (by kernel_rfl) (by kernel_rfl) (fun _ _ _ h => h) (Or.inl ⟨by kernel_rfl, by intro w _; go_simp; try with_reducible rfl⟩) hHeld ?_
    go_simp
    refine wpAnyH_done (by kernel_rfl) ?_ _
    go_wp2
    go_ret
    exact ⟨rfl, HW7.out.trans (sb6.out.mono hBw)⟩

set_option maxHeartbeats 4000000 in
set_option maxRecDepth 100000 in
theorem ktells_any (s : ByteArray) (w : World) (h : Env w) (hs : s.size ≤ maxLen) :
    Calls Tryz.prog 6 #[.string s] w fun e w' => e = .returned (.bool true) ∧ Below w.heap.size w w' := by
  unfold maxLen at hs
  have C0 := Lib.hid (fun W (hb : Below w.heap.size w W) => alive_kind W (h.below hb))
  by_cases hbig : 600 < s.size
  · have i1 : (s.size : Int) > 600 := by omega
    clear hbig h
    go_enter Tryz.func6, Tryz.ntmps6
    go_wp2_with (go_at_call 21; refine (C0.out _ (Below.refl _ _)).mono ?_; rintro e w1 ⟨rfl, b1⟩)
    go_ret
    exact ⟨rfl, b1⟩
  · have i1 : (s.size : Int) ≤ 600 := by omega
    cases hr1 : readL s.data.toList with
    | some q1 =>
      exact tells_main s w h i1 q1 hr1
    | none =>
      have C1 := Lib.hid (fun W (hb : Below w.heap.size w W) => read_not s (by omega) hr1 W (h.below hb))
      clear h hr1 hbig
      go_enter Tryz.func6, Tryz.ntmps6
      go_wp2_with fail
      refine (C0.out _ (Below.refl _ _)).mono ?_
      rintro e w1 ⟨rfl, b1⟩
      have B1 := Lib.hid b1
      clear b1
      go_wp2_with fail
      refine (C1.out _ B1.out).mono ?_
      rintro e w2 ⟨rfl, b2⟩
      have B2 := Lib.hid (below_box (B1.out.trans (b2.mono B1.out.size)) (QBox ⟨#[]⟩ ⟨#[]⟩ 0 0 none 0 0 none 0 0 none 0 0 0 0 0))
      clear b2
      go_wp2
      go_ret
      exact ⟨rfl, B2.out⟩
end Go.Proofs.YtddglepimbfdkaaGreatDoor.Knd
