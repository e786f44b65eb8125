/- A query in a sum is one deeper, two that are reckoned with are one deeper than the deeper one (the law). -/
import Derived.Test.YtddglepimbfdkaaGreatDoorYk
import Derived.Deep.CutRange
namespace Go.Proofs.YtddglepimbfdkaaGreatDoor.Knd
open Go.RowKit Go.Lib
open Go.Proofs.YtddglepimbfdkaaGreatDoor.Par


/-- Two parts that are reckoned with, as they lie in memory. -/
theorem both_nod {w : World} {P Q : Nat → Prop} {a tx : ByteArray} {z m : Int} {o1 : Option Addr} {k1 c1 : Nat} {o2 : Option Addr} {k2 c2 : Nat} {o3 : Option Addr} {k3 c3 : Nat} {a' tx' : ByteArray} {z' m' : Int} {o1' : Option Addr} {k1' c1' : Nat} {o2' : Option Addr} {k2' c2' : Nat} {o3' : Option Addr} {k3' c3' : Nat} {x y : Ex} (h1 : Nod w P [.string a, .string tx, .int .i64 z, .int .i64 m, .slice o1 k1 c1, .slice o2 k2 c2, .slice o3 k3 c3] x) (h2 : Nod w Q [.string a', .string tx', .int .i64 z', .int .i64 m', .slice o1' k1' c1', .slice o2' k2' c2', .slice o3' k3' c3'] y) :
    Nod (w.alloc (Obj.cells #[.string a, .string tx, .int .i64 z, .int .i64 m, .slice o1 k1 c1, .slice o2 k2 c2, .slice o3 k3 c3, .string a', .string tx', .int .i64 z', .int .i64 m', .slice o1' k1' c1', .slice o2' k2' c2', .slice o3' k3' c3'] 27)) (fun _ => True) [.string ⟨#[98, 105, 110]⟩, .string ⟨#[43]⟩, .int .i64 0, .int .i64 0, .slice none 0 0, .slice none 0 0, .slice (some ⟨w.heap.size, 0, none⟩) 2 2] (.bin (bz [43]) 0 [] x y) := by
  obtain ⟨W, hW⟩ : ∃ W, w.alloc (Obj.cells #[.string a, .string tx, .int .i64 z, .int .i64 m, .slice o1 k1 c1, .slice o2 k2 c2, .slice o3 k3 c3, .string a', .string tx', .int .i64 z', .int .i64 m', .slice o1' k1' c1', .slice o2' k2' c2', .slice o3' k3' c3'] 27) = W := ⟨_, rfl⟩
  have hb : Below w.heap.size w W := by rw [← hW]; exact (Below.refl _ _).alloc (Nat.le_refl _) _
  have e : W.heap[w.heap.size]? = some (Obj.cells #[.string a, .string tx, .int .i64 z, .int .i64 m, .slice o1 k1 c1, .slice o2 k2 c2, .slice o3 k3 c3, .string a', .string tx', .int .i64 z', .int .i64 m', .slice o1' k1' c1', .slice o2' k2' c2', .slice o3' k3' c3'] 27 (0, 0)) := by rw [← hW]; exact Array.getElem?_push_size
  have hl : w.heap.size < W.heap.size := (Array.getElem?_eq_some_iff.1 e).1
  have n1 := (h1.under hb).keep (Q := fun _ => True) fun b _ _ => ⟨rfl, trivial⟩
  have n2 := (h2.under hb).keep (Q := fun _ => True) fun b _ _ => ⟨rfl, trivial⟩
  rw [hW]
  refine Nod.mk (.bin (bz [43]) 0 [] x y) 0 0 none none (some ⟨w.heap.size, 0, none⟩) 0 0 0 0 2 2 [[.string a, .string tx, .int .i64 z, .int .i64 m, .slice o1 k1 c1, .slice o2 k2 c2, .slice o3 k3 c3], [.string a', .string tx', .int .i64 z', .int .i64 m', .slice o1' k1' c1', .slice o2' k2' c2', .slice o3' k3' c3']] rfl rfl ⟨rfl, Nat.le_refl _⟩ rfl rfl rfl (.inl rfl) (.inl rfl) (.inr ⟨w.heap.size, 0, rfl, trivial, hl, ?_⟩) ?_
  · intro j cs hcs i v hv
    match j, hcs with
    | 0, hcs =>
      obtain rfl := Option.some.inj hcs
      match i, hv with
      | 0, hv | 1, hv | 2, hv | 3, hv | 4, hv | 5, hv | 6, hv => obtain rfl := Option.some.inj hv; simp [World.cell?, e]
      | i + 7, hv => simp at hv
    | 1, hcs =>
      obtain rfl := Option.some.inj hcs
      match i, hv with
      | 0, hv | 1, hv | 2, hv | 3, hv | 4, hv | 5, hv | 6, hv => obtain rfl := Option.some.inj hv; simp [World.cell?, e]
      | i + 7, hv => simp at hv
    | j + 2, hcs => simp at hcs
  · intro j cs y' hcs hy
    match j, hcs, hy with
    | 0, hcs, hy => obtain rfl := Option.some.inj hcs; obtain rfl := Option.some.inj hy; exact n1
    | 1, hcs, hy => obtain rfl := Option.some.inj hcs; obtain rfl := Option.some.inj hy; exact n2
    | j + 2, hcs, hy => simp at hcs
/-- One with a sign ahead. -/
theorem neg_nod {w : World} {P : Nat → Prop} {a tx : ByteArray} {z m : Int} {o1 : Option Addr} {k1 c1 : Nat} {o2 : Option Addr} {k2 c2 : Nat} {o3 : Option Addr} {k3 c3 : Nat} {x : Ex} (h1 : Nod w P [.string a, .string tx, .int .i64 z, .int .i64 m, .slice o1 k1 c1, .slice o2 k2 c2, .slice o3 k3 c3] x) :
    Nod (w.alloc (Obj.cells #[.string a, .string tx, .int .i64 z, .int .i64 m, .slice o1 k1 c1, .slice o2 k2 c2, .slice o3 k3 c3] 27)) (fun _ => True) [.string ⟨#[110, 101, 103]⟩, .string ⟨#[]⟩, .int .i64 0, .int .i64 0, .slice none 0 0, .slice none 0 0, .slice (some ⟨w.heap.size, 0, none⟩) 1 1] (.neg x) := by
  obtain ⟨W, hW⟩ : ∃ W, w.alloc (Obj.cells #[.string a, .string tx, .int .i64 z, .int .i64 m, .slice o1 k1 c1, .slice o2 k2 c2, .slice o3 k3 c3] 27) = W := ⟨_, rfl⟩
  have hb : Below w.heap.size w W := by rw [← hW]; exact (Below.refl _ _).alloc (Nat.le_refl _) _
  have e : W.heap[w.heap.size]? = some (Obj.cells #[.string a, .string tx, .int .i64 z, .int .i64 m, .slice o1 k1 c1, .slice o2 k2 c2, .slice o3 k3 c3] 27 (0, 0)) := by rw [← hW]; exact Array.getElem?_push_size
  have hl : w.heap.size < W.heap.size := (Array.getElem?_eq_some_iff.1 e).1
  have n1 := (h1.under hb).keep (Q := fun _ => True) fun b _ _ => ⟨rfl, trivial⟩
  rw [hW]
  refine Nod.mk (.neg x) 0 0 none none (some ⟨w.heap.size, 0, none⟩) 0 0 0 0 1 1 [[.string a, .string tx, .int .i64 z, .int .i64 m, .slice o1 k1 c1, .slice o2 k2 c2, .slice o3 k3 c3]] rfl rfl ⟨rfl, Nat.le_refl _⟩ rfl rfl rfl (.inl rfl) (.inl rfl) (.inr ⟨w.heap.size, 0, rfl, trivial, hl, ?_⟩) ?_
  · intro j cs hcs i v hv
    match j, hcs with
    | 0, hcs =>
      obtain rfl := Option.some.inj hcs
      match i, hv with
      | 0, hv | 1, hv | 2, hv | 3, hv | 4, hv | 5, hv | 6, hv => obtain rfl := Option.some.inj hv; simp [World.cell?, e]
      | i + 7, hv => simp at hv
    | j + 1, hcs => simp at hcs
  · intro j cs y' hcs hy
    match j, hcs, hy with
    | 0, hcs, hy => obtain rfl := Option.some.inj hcs; obtain rfl := Option.some.inj hy; exact n1
    | j + 1, hcs, hy => simp at hcs

set_option maxHeartbeats 16000000 in
set_option maxRecDepth 100000 in
theorem deep_main (s t : ByteArray) (w : World) (h : Env w) (i0 : (s.size : Int) ≤ 200) (i00 : (t.size : Int) ≤ 200) (q1 q2 : Qr) (hr1 : readL s.data.toList = some q1) (hr2 : readL t.data.toList = some q2) :
    Calls Tryz.prog 7 #[.string s, .string t] w fun e w' => e = .returned (.bool true) ∧ Below w.heap.size w w' := by
  have g1 := readL_good (by rw [← Lib.size_eq]; omega) hr1
  have g2 := readL_good (by rw [← Lib.size_eq]; omega) hr2
  obtain ⟨x, oo, li, ob⟩ := q1
  obtain ⟨y, oo', li', ob'⟩ := q2
  obtain ⟨od, hod⟩ : ∃ od : Int, (oo : Int) = od := ⟨_, rfl⟩
  obtain ⟨od', hod'⟩ : ∃ od : Int, (oo' : Int) = od := ⟨_, rfl⟩
  have C0 := Lib.hid (fun W (hb : Below w.heap.size w W) => alive_kind W (h.below hb))
  have C1 := Lib.hid (fun W (hb : Below w.heap.size w W) => read_is s (by omega) ⟨x, oo, li, ob⟩ hr1 od hod W (h.below hb))
  have C2 := Lib.hid (fun W (hb : Below w.heap.size w W) => read_is t (by omega) ⟨y, oo', li', ob'⟩ hr2 od' hod' W (h.below hb))
  dsimp only at C1 C2
  have hc1 : countE x ≤ 200 := g1.2.2.2.2
  have hc2 : countE y ≤ 200 := g2.2.2.2.2
  have hg1 : Par.Good x := g1.1
  have hg2 : Par.Good y := g2.1
  obtain ⟨dx, hdx⟩ : ∃ k : Int, (deepE x : Nat) = k := ⟨_, rfl⟩
  obtain ⟨dy, hdy⟩ : ∃ k : Int, (deepE y : Nat) = k := ⟨_, rfl⟩
  obtain ⟨dm, hdm⟩ : ∃ k : Int, ((max (deepE x) (deepE y) : Nat) : Int) = k := ⟨_, rfl⟩
  have hx1 : 1 ≤ dx := by have := deepE_pos x; omega
  have hx2 : dx ≤ 200 := by have := deepE_le x; omega
  have hm1 : 0 ≤ dm ∧ dm ≤ 200 := by have := deepE_le x; have := deepE_le y; omega
  have mx : ∀ W ts t, (Builtin.max_ ts t #[.int .i64 dx, .int .i64 dy]).run Tryz.prog W = .ok (.int .i64 dm) W := fun W ts t => by
    rw [run_max_int2]
    congr 2
    split <;> omega
  have HCB : countE (.bin (bz [43]) 0 [] x y) ≤ 401 := by simp only [countE]; omega
  have KDx := Lib.hid (fun P W a b z m o1 k1 c1 o2 k2 c2 o3 k3 c3 hN => dec_is (deep_any _ x (Nat.le_refl _) (by omega)) hdx P W a b z m o1 k1 c1 o2 k2 c2 o3 k3 c3 hN)
  have KDy := Lib.hid (fun P W a b z m o1 k1 c1 o2 k2 c2 o3 k3 c3 hN => dec_is (deep_any _ y (Nat.le_refl _) (by omega)) hdy P W a b z m o1 k1 c1 o2 k2 c2 o3 k3 c3 hN)
  have KDb := Lib.hid (fun P W a b z m o1 k1 c1 o2 k2 c2 o3 k3 c3 hN => dec_is (deep_any _ (.bin (bz [43]) 0 [] x y) (Nat.le_refl _) (by omega)) (k := 1 + dm) (by rw [deepE]; omega) P W a b z m o1 k1 c1 o2 k2 c2 o3 k3 c3 hN)
  have KDn := Lib.hid (fun P W a b z m o1 k1 c1 o2 k2 c2 o3 k3 c3 hN => dec_is (deep_any _ (.neg x) (Nat.le_refl _) (by simp only [countE]; omega)) (k := 1 + dx) (by rw [deepE]; omega) P W a b z m o1 k1 c1 o2 k2 c2 o3 k3 c3 hN)
  have KMa := Lib.hid (kmet_any x (by omega) (good_sels x hg1))
  have KMb := Lib.hid (kmet_any (.bin (bz [43]) 0 [] x y) (by omega) (fun s hs => by
    rw [selsE, List.mem_append] at hs
    exact hs.elim (good_sels x hg1 s) (good_sels y hg2 s)))
  have hpre : metE x <+: metE (.bin (bz [43]) 0 [] x y) := by
    unfold metE
    rw [selsE, addAll_append]
    exact addAll_pre _ _
  unfold MeC at KMa KMb
  have hml := metE_len x
  obtain ⟨M, hM⟩ : ∃ M, metE x = M := ⟨_, rfl⟩
  obtain ⟨M2, hM2⟩ : ∃ M, metE (.bin (bz [43]) 0 [] x y) = M := ⟨_, rfl⟩
  rw [hM] at KMa hpre hml
  rw [hM2] at KMb hpre
  obtain ⟨n, hn0⟩ : ∃ n, M.length = n := ⟨_, rfl⟩
  obtain ⟨n2, hn2⟩ : ∃ n, M2.length = n := ⟨_, rfl⟩
  have hMn := Lib.hid hn0
  have hMn2 := Lib.hid hn2
  have hle : n ≤ n2 := by rw [← hn0, ← hn2]; exact hpre.length_le
  have HPRE := Lib.hid (fun (i : Nat) (t : ByteArray) (h : M[i]? = some t) => (show M2[i]? = some t by
    obtain ⟨r, rfl⟩ := hpre
    rw [List.getElem?_append_left (List.getElem?_eq_some_iff.1 h).1]; exact h))
  have i1 : ¬ (n2 : Int) < n := by omega
  have hn200 : n ≤ 200 := by omega
  clear g1 g2 hr1 hr2 hod hod' h hdx hdy hdm hM hM2 hn0 hn2 hc1 hc2 hg1 hg2 hpre HCB hml
  go_enter Tryz.func7, Tryz.ntmps7
  go_wp2_with fail
  refine (C0.out _ (Below.refl _ _)).mono ?_
  rintro e w1 ⟨rfl, b1⟩
  have B1 := Lib.hid b1
  clear b1
  go_wp2_with fail
  refine (C1.out _ B1.out).mono ?_
  rintro e w2 ⟨⟨a, tx, z, m, o1, k1, c1, o2, k2, c2, o3, k3, c3, rfl, hn⟩, b2⟩
  have B2 := Lib.hid (B1.out.trans (b2.mono B1.out.size))
  have HN := Lib.hid (hn.under ((Below.refl _ _).alloc (Nat.le_refl _) (Obj.cells #[.string a, .string tx, .int .i64 z, .int .i64 m, .slice o1 k1 c1, .slice o2 k2 c2, .slice o3 k3 c3, .int .i64 od, .int .i64 li, .int .i64 ob] 29)))
  have HX2 := Lib.hid (box_start w2 (Obj.cells #[.string a, .string tx, .int .i64 z, .int .i64 m, .slice o1 k1 c1, .slice o2 k2 c2, .slice o3 k3 c3, .int .i64 od, .int .i64 li, .int .i64 ob] 29))
  clear b2 hn
  go_wp2_with fail
  refine (C2.out _ (below_past B2.out HX2.out)).mono ?_
  rintro e w4 ⟨⟨a', tx', z', m', o1', k1', c1', o2', k2', c2', o3', k3', c3', rfl, hn'⟩, b4⟩
  obtain ⟨w5, hw5⟩ : ∃ w5, w4.alloc (Obj.cells #[.string a', .string tx', .int .i64 z', .int .i64 m', .slice o1' k1' c1', .slice o2' k2' c2', .slice o3' k3' c3', .int .i64 od', .int .i64 li', .int .i64 ob'] 29) = w5 := ⟨_, rfl⟩
  have hX5 : Below (w2.heap.size + 1) (w2.alloc (Obj.cells #[.string a, .string tx, .int .i64 z, .int .i64 m, .slice o1 k1 c1, .slice o2 k2 c2, .slice o3 k3 c3, .int .i64 od, .int .i64 li, .int .i64 ob] 29)) w5 := by rw [← hw5]; exact box_more (box_more HX2.out b4) ((Below.refl w4.heap.size w4).alloc (Nat.le_refl _) _)
  have hY5 : Below (w4.heap.size + 1) (w4.alloc (Obj.cells #[.string a', .string tx', .int .i64 z', .int .i64 m', .slice o1' k1' c1', .slice o2' k2' c2', .slice o3' k3' c3', .int .i64 od', .int .i64 li', .int .i64 ob'] 29)) w5 := by rw [← hw5]; exact box_start _ _
  have hN5 := HN.out.under ((b4.trans ((show Below w4.heap.size w4 w5 by rw [← hw5]; exact (Below.refl _ _).alloc (Nat.le_refl _) _).mono b4.size)) : Below (w2.alloc (Obj.cells #[.string a, .string tx, .int .i64 z, .int .i64 m, .slice o1 k1 c1, .slice o2 k2 c2, .slice o3 k3 c3, .int .i64 od, .int .i64 li, .int .i64 ob] 29)).heap.size (w2.alloc (Obj.cells #[.string a, .string tx, .int .i64 z, .int .i64 m, .slice o1 k1 c1, .slice o2 k2 c2, .slice o3 k3 c3, .int .i64 od, .int .i64 li, .int .i64 ob] 29)) w5)
  have hN5' := hn'.under (show Below w4.heap.size w4 w5 by rw [← hw5]; exact (Below.refl _ _).alloc (Nat.le_refl _) _)
  have HB5 := Lib.hid (below_past B2.out hX5)
  have hz1 : w2.heap.size + 1 ≤ w5.heap.size := by have := hX5.size; rw [qbox_size] at this; exact this
  have hz2 : w4.heap.size + 1 ≤ w5.heap.size := by have := hY5.size; rw [qbox_size] at this; exact this
  have HKS := Lib.hid (fun W (hb : Below w5.heap.size w5 W) => (show W.cell? ⟨w2.heap.size, 0, none⟩ = some (.string a) ∧ W.cell? ⟨w2.heap.size, 1, none⟩ = some (.string tx) ∧ W.cell? ⟨w2.heap.size, 2, none⟩ = some (.int .i64 z) ∧ W.cell? ⟨w2.heap.size, 3, none⟩ = some (.int .i64 m) ∧ W.cell? ⟨w2.heap.size, 4, none⟩ = some (.slice o1 k1 c1) ∧ W.cell? ⟨w2.heap.size, 5, none⟩ = some (.slice o2 k2 c2) ∧ W.cell? ⟨w2.heap.size, 6, none⟩ = some (.slice o3 k3 c3) ∧ W.cell? ⟨w2.heap.size, 7, none⟩ = some (.int .i64 od) ∧ W.cell? ⟨w2.heap.size, 8, none⟩ = some (.int .i64 li) ∧ W.cell? ⟨w2.heap.size, 9, none⟩ = some (.int .i64 ob) ∧ W.cell? ⟨w4.heap.size, 0, none⟩ = some (.string a') ∧ W.cell? ⟨w4.heap.size, 1, none⟩ = some (.string tx') ∧ W.cell? ⟨w4.heap.size, 2, none⟩ = some (.int .i64 z') ∧ W.cell? ⟨w4.heap.size, 3, none⟩ = some (.int .i64 m') ∧ W.cell? ⟨w4.heap.size, 4, none⟩ = some (.slice o1' k1' c1') ∧ W.cell? ⟨w4.heap.size, 5, none⟩ = some (.slice o2' k2' c2') ∧ W.cell? ⟨w4.heap.size, 6, none⟩ = some (.slice o3' k3' c3') ∧ W.cell? ⟨w4.heap.size, 7, none⟩ = some (.int .i64 od') ∧ W.cell? ⟨w4.heap.size, 8, none⟩ = some (.int .i64 li') ∧ W.cell? ⟨w4.heap.size, 9, none⟩ = some (.int .i64 ob') from by
    obtain ⟨p0, p1, p2, p3, p4, p5, p6, p7, p8, p9⟩ := qbox_reads _ _ _ _ _ _ _ _ _ _ _ _ _ _ _ _ _ _ (hX5.trans (hb.mono hz1))
    obtain ⟨q0, q1, q2, q3, q4, q5, q6, q7, q8, q9⟩ := qbox_reads _ _ _ _ _ _ _ _ _ _ _ _ _ _ _ _ _ _ (hY5.trans (hb.mono hz2))
    exact ⟨p0, p1, p2, p3, p4, p5, p6, p7, p8, p9, q0, q1, q2, q3, q4, q5, q6, q7, q8, q9⟩))
  have HNN := Lib.hid (And.intro hN5 hN5')
  have HW5 := Lib.hid hw5
  have CDa := Lib.hid (fun (W : World) (hb : Hid (Below w5.heap.size w5 W)) => (KDx.out _ W a tx z m o1 k1 c1 o2 k2 c2 o3 k3 c3 (HNN.out.1.under hb.out)).mono (R' := fun e w' => e = .returned (.int .i64 dx) ∧ (w'.cell? ⟨w2.heap.size, 0, none⟩ = some (.string a) ∧ w'.cell? ⟨w2.heap.size, 1, none⟩ = some (.string tx) ∧ w'.cell? ⟨w2.heap.size, 2, none⟩ = some (.int .i64 z) ∧ w'.cell? ⟨w2.heap.size, 3, none⟩ = some (.int .i64 m) ∧ w'.cell? ⟨w2.heap.size, 4, none⟩ = some (.slice o1 k1 c1) ∧ w'.cell? ⟨w2.heap.size, 5, none⟩ = some (.slice o2 k2 c2) ∧ w'.cell? ⟨w2.heap.size, 6, none⟩ = some (.slice o3 k3 c3) ∧ w'.cell? ⟨w2.heap.size, 7, none⟩ = some (.int .i64 od) ∧ w'.cell? ⟨w2.heap.size, 8, none⟩ = some (.int .i64 li) ∧ w'.cell? ⟨w2.heap.size, 9, none⟩ = some (.int .i64 ob) ∧ w'.cell? ⟨w4.heap.size, 0, none⟩ = some (.string a') ∧ w'.cell? ⟨w4.heap.size, 1, none⟩ = some (.string tx') ∧ w'.cell? ⟨w4.heap.size, 2, none⟩ = some (.int .i64 z') ∧ w'.cell? ⟨w4.heap.size, 3, none⟩ = some (.int .i64 m') ∧ w'.cell? ⟨w4.heap.size, 4, none⟩ = some (.slice o1' k1' c1') ∧ w'.cell? ⟨w4.heap.size, 5, none⟩ = some (.slice o2' k2' c2') ∧ w'.cell? ⟨w4.heap.size, 6, none⟩ = some (.slice o3' k3' c3') ∧ w'.cell? ⟨w4.heap.size, 7, none⟩ = some (.int .i64 od') ∧ w'.cell? ⟨w4.heap.size, 8, none⟩ = some (.int .i64 li') ∧ w'.cell? ⟨w4.heap.size, 9, none⟩ = some (.int .i64 ob')) ∧ Hid (Below w5.heap.size w5 w')) (fun e w' q => have hq := hb.out.trans (q.2.mono hb.out.size); ⟨q.1, HKS.out w' hq, hq⟩))
  have CDb := Lib.hid (fun (W : World) (hb : Hid (Below w5.heap.size w5 W)) => (KDy.out _ W a' tx' z' m' o1' k1' c1' o2' k2' c2' o3' k3' c3' (HNN.out.2.under hb.out)).mono (R' := fun e w' => e = .returned (.int .i64 dy) ∧ (w'.cell? ⟨w2.heap.size, 0, none⟩ = some (.string a) ∧ w'.cell? ⟨w2.heap.size, 1, none⟩ = some (.string tx) ∧ w'.cell? ⟨w2.heap.size, 2, none⟩ = some (.int .i64 z) ∧ w'.cell? ⟨w2.heap.size, 3, none⟩ = some (.int .i64 m) ∧ w'.cell? ⟨w2.heap.size, 4, none⟩ = some (.slice o1 k1 c1) ∧ w'.cell? ⟨w2.heap.size, 5, none⟩ = some (.slice o2 k2 c2) ∧ w'.cell? ⟨w2.heap.size, 6, none⟩ = some (.slice o3 k3 c3) ∧ w'.cell? ⟨w2.heap.size, 7, none⟩ = some (.int .i64 od) ∧ w'.cell? ⟨w2.heap.size, 8, none⟩ = some (.int .i64 li) ∧ w'.cell? ⟨w2.heap.size, 9, none⟩ = some (.int .i64 ob) ∧ w'.cell? ⟨w4.heap.size, 0, none⟩ = some (.string a') ∧ w'.cell? ⟨w4.heap.size, 1, none⟩ = some (.string tx') ∧ w'.cell? ⟨w4.heap.size, 2, none⟩ = some (.int .i64 z') ∧ w'.cell? ⟨w4.heap.size, 3, none⟩ = some (.int .i64 m') ∧ w'.cell? ⟨w4.heap.size, 4, none⟩ = some (.slice o1' k1' c1') ∧ w'.cell? ⟨w4.heap.size, 5, none⟩ = some (.slice o2' k2' c2') ∧ w'.cell? ⟨w4.heap.size, 6, none⟩ = some (.slice o3' k3' c3') ∧ w'.cell? ⟨w4.heap.size, 7, none⟩ = some (.int .i64 od') ∧ w'.cell? ⟨w4.heap.size, 8, none⟩ = some (.int .i64 li') ∧ w'.cell? ⟨w4.heap.size, 9, none⟩ = some (.int .i64 ob')) ∧ Hid (Below w5.heap.size w5 w')) (fun e w' q => have hq := hb.out.trans (q.2.mono hb.out.size); ⟨q.1, HKS.out w' hq, hq⟩))
  obtain ⟨r0, r1, r2, r3, r4, r5, r6, r7, r8, r9, r10, r11, r12, r13, r14, r15, r16, r17, r18, r19⟩ := HKS.out w5 (Below.refl _ _)
  have rb := Lib.hid (show Below w5.heap.size w5 w5.drew from (Below.refl _ _).drew)
  clear b4 hn' hX5 hY5 hN5 hN5' hz1 hz2 hw5
  go_wp2_with fail
  rw [show w4.alloc (Obj.cells #[.string a', .string tx', .int .i64 z', .int .i64 m', .slice o1' k1' c1', .slice o2' k2' c2', .slice o3' k3' c3', .int .i64 od', .int .i64 li', .int .i64 ob'] 29) = w5 from HW5.out]
  go_cut [9, 10] from 44 to 49 (fun u9 u10 wx => u9 = .int .i64 dx ∧ u10 = .int .i64 dy ∧ Hid (Below w5.heap.size w5 wx))
  case first =>
    go_region_held3 (fun w' => w'.cell? ⟨w2.heap.size, 0, none⟩ = some (.string a) ∧ w'.cell? ⟨w2.heap.size, 1, none⟩ = some (.string tx) ∧ w'.cell? ⟨w2.heap.size, 2, none⟩ = some (.int .i64 z) ∧ w'.cell? ⟨w2.heap.size, 3, none⟩ = some (.int .i64 m) ∧ w'.cell? ⟨w2.heap.size, 4, none⟩ = some (.slice o1 k1 c1) ∧ w'.cell? ⟨w2.heap.size, 5, none⟩ = some (.slice o2 k2 c2) ∧ w'.cell? ⟨w2.heap.size, 6, none⟩ = some (.slice o3 k3 c3) ∧ w'.cell? ⟨w2.heap.size, 7, none⟩ = some (.int .i64 od) ∧ w'.cell? ⟨w2.heap.size, 8, none⟩ = some (.int .i64 li) ∧ w'.cell? ⟨w2.heap.size, 9, none⟩ = some (.int .i64 ob) ∧ w'.cell? ⟨w4.heap.size, 0, none⟩ = some (.string a') ∧ w'.cell? ⟨w4.heap.size, 1, none⟩ = some (.string tx') ∧ w'.cell? ⟨w4.heap.size, 2, none⟩ = some (.int .i64 z') ∧ w'.cell? ⟨w4.heap.size, 3, none⟩ = some (.int .i64 m') ∧ w'.cell? ⟨w4.heap.size, 4, none⟩ = some (.slice o1' k1' c1') ∧ w'.cell? ⟨w4.heap.size, 5, none⟩ = some (.slice o2' k2' c2') ∧ w'.cell? ⟨w4.heap.size, 6, none⟩ = some (.slice o3' k3' c3') ∧ w'.cell? ⟨w4.heap.size, 7, none⟩ = some (.int .i64 od') ∧ w'.cell? ⟨w4.heap.size, 8, none⟩ = some (.int .i64 li') ∧ w'.cell? ⟨w4.heap.size, 9, none⟩ = some (.int .i64 ob')) (first | exact ⟨s0, s1, s2, s3, s4, s5, s6, s7, s8, s9, s10, s11, s12, s13, s14, s15, s16, s17, s18, s19⟩ | exact ⟨r0, r1, r2, r3, r4, r5, r6, r7, r8, r9, r10, r11, r12, r13, r14, r15, r16, r17, r18, r19⟩) (first
      | (go_at_call 26; go_fit (CDa.out _ rb); rintro e wq ⟨rfl, ⟨s0, s1, s2, s3, s4, s5, s6, s7, s8, s9, s10, s11, s12, s13, s14, s15, s16, s17, s18, s19⟩, sb⟩)
      | (go_at_call 26; go_fit (CDa.out _ sb); rintro e wq ⟨rfl, ⟨s0, s1, s2, s3, s4, s5, s6, s7, s8, s9, s10, s11, s12, s13, s14, s15, s16, s17, s18, s19⟩, sb⟩)
      | (go_at_call 26; go_fit (CDb.out _ rb); rintro e wq ⟨rfl, ⟨s0, s1, s2, s3, s4, s5, s6, s7, s8, s9, s10, s11, s12, s13, s14, s15, s16, s17, s18, s19⟩, sb⟩)
      | (go_at_call 26; go_fit (CDb.out _ sb); rintro e wq ⟨rfl, ⟨s0, s1, s2, s3, s4, s5, s6, s7, s8, s9, s10, s11, s12, s13, s14, s15, s16, s17, s18, s19⟩, sb⟩))
    all_goals go_wp2_with fail
    all_goals go_meet
    all_goals exact ⟨rfl, rfl, sb⟩
  case rest =>
  rename World => wc
  obtain ⟨rfl, rfl, hbc⟩ := hcut
  clear CDa CDb rb r0 r1 r2 r3 r4 r5 r6 r7 r8 r9 r10 r11 r12 r13 r14 r15 r16 r17 r18 r19
  obtain ⟨r0, r1, r2, r3, r4, r5, r6, r7, r8, r9, r10, r11, r12, r13, r14, r15, r16, r17, r18, r19⟩ := HKS.out wc hbc.out
  obtain ⟨w8, hw8⟩ : ∃ w8, (wc.alloc (Obj.cells #[.string a, .string tx, .int .i64 z, .int .i64 m, .slice o1 k1 c1, .slice o2 k2 c2, .slice o3 k3 c3, .string a', .string tx', .int .i64 z', .int .i64 m', .slice o1' k1' c1', .slice o2' k2' c2', .slice o3' k3' c3'] 27)).alloc (Obj.cells #[.string ⟨#[98, 105, 110]⟩, .string ⟨#[43]⟩, .int .i64 0, .int .i64 0, .slice none 0 0, .slice none 0 0, .slice (some ⟨wc.heap.size, 0, none⟩) 2 2] 27) = w8 := ⟨_, rfl⟩
  have hs8 : w8.heap.size = wc.heap.size + 2 := by rw [← hw8]; simp
  have hb8 : Below wc.heap.size wc w8 := by rw [← hw8]; exact ((Below.refl _ _).alloc (Nat.le_refl _) _).alloc (by simp) _
  have HB8 := Lib.hid (hbc.out.trans (hb8.mono hbc.out.size))
  have HNb := Lib.hid (show Nod w8 (fun _ => True) [.string ⟨#[98, 105, 110]⟩, .string ⟨#[43]⟩, .int .i64 0, .int .i64 0, .slice none 0 0, .slice none 0 0, .slice (some ⟨wc.heap.size, 0, none⟩) 2 2] (.bin (bz [43]) 0 [] x y) by
    rw [← hw8]
    exact (both_nod (HNN.out.1.under hbc.out) (HNN.out.2.under hbc.out)).under ((Below.refl _ _).alloc (Nat.le_refl _) _))
  have e8 : w8.heap[wc.heap.size + 1]? = some (Obj.cells #[.string ⟨#[98, 105, 110]⟩, .string ⟨#[43]⟩, .int .i64 0, .int .i64 0, .slice none 0 0, .slice none 0 0, .slice (some ⟨wc.heap.size, 0, none⟩) 2 2] 27 (0, 0)) := by
    rw [← hw8]
    have e : (wc.alloc (Obj.cells #[.string a, .string tx, .int .i64 z, .int .i64 m, .slice o1 k1 c1, .slice o2 k2 c2, .slice o3 k3 c3, .string a', .string tx', .int .i64 z', .int .i64 m', .slice o1' k1' c1', .slice o2' k2' c2', .slice o3' k3' c3'] 27)).heap.size = wc.heap.size + 1 := by simp
    rw [← e]; exact Array.getElem?_push_size
  have HKS3 := Lib.hid (fun W (hb : Below w8.heap.size w8 W) => (show W.cell? ⟨w2.heap.size, 0, none⟩ = some (.string a) ∧ W.cell? ⟨w2.heap.size, 1, none⟩ = some (.string tx) ∧ W.cell? ⟨w2.heap.size, 2, none⟩ = some (.int .i64 z) ∧ W.cell? ⟨w2.heap.size, 3, none⟩ = some (.int .i64 m) ∧ W.cell? ⟨w2.heap.size, 4, none⟩ = some (.slice o1 k1 c1) ∧ W.cell? ⟨w2.heap.size, 5, none⟩ = some (.slice o2 k2 c2) ∧ W.cell? ⟨w2.heap.size, 6, none⟩ = some (.slice o3 k3 c3) ∧ W.cell? ⟨wc.heap.size + 1, 0, none⟩ = some (.string ⟨#[98, 105, 110]⟩) ∧ W.cell? ⟨wc.heap.size + 1, 1, none⟩ = some (.string ⟨#[43]⟩) ∧ W.cell? ⟨wc.heap.size + 1, 2, none⟩ = some (.int .i64 0) ∧ W.cell? ⟨wc.heap.size + 1, 3, none⟩ = some (.int .i64 0) ∧ W.cell? ⟨wc.heap.size + 1, 4, none⟩ = some (.slice none 0 0) ∧ W.cell? ⟨wc.heap.size + 1, 5, none⟩ = some (.slice none 0 0) ∧ W.cell? ⟨wc.heap.size + 1, 6, none⟩ = some (.slice (some ⟨wc.heap.size, 0, none⟩) 2 2) from by
    obtain ⟨r0, r1, r2, r3, r4, r5, r6, r7, r8, r9, r10, r11, r12, r13, r14, r15, r16, r17, r18, r19⟩ := HKS.out W (HB8.out.trans (hb.mono HB8.out.size))
    have e9 := (hb.block (wc.heap.size + 1) (by omega)).trans e8
    exact ⟨r0, r1, r2, r3, r4, r5, r6, by simp [World.cell?, e9], by simp [World.cell?, e9], by simp [World.cell?, e9], by simp [World.cell?, e9], by simp [World.cell?, e9], by simp [World.cell?, e9], by simp [World.cell?, e9]⟩))
  have HW8 := Lib.hid hw8
  have HNa := Lib.hid (HNN.out.1.under HB8.out)
  have CMa := Lib.hid (fun (W : World) (hb : Hid (Below w8.heap.size w8 W)) => (KMa.out _ W a tx z m o1 k1 c1 o2 k2 c2 o3 k3 c3 (HNa.out.under hb.out)).mono (R' := fun e w' => ∃ (o : Option Addr) (c : Nat), e = .returned (.slice o n c) ∧ (w'.cell? ⟨w2.heap.size, 0, none⟩ = some (.string a) ∧ w'.cell? ⟨w2.heap.size, 1, none⟩ = some (.string tx) ∧ w'.cell? ⟨w2.heap.size, 2, none⟩ = some (.int .i64 z) ∧ w'.cell? ⟨w2.heap.size, 3, none⟩ = some (.int .i64 m) ∧ w'.cell? ⟨w2.heap.size, 4, none⟩ = some (.slice o1 k1 c1) ∧ w'.cell? ⟨w2.heap.size, 5, none⟩ = some (.slice o2 k2 c2) ∧ w'.cell? ⟨w2.heap.size, 6, none⟩ = some (.slice o3 k3 c3) ∧ w'.cell? ⟨wc.heap.size + 1, 0, none⟩ = some (.string ⟨#[98, 105, 110]⟩) ∧ w'.cell? ⟨wc.heap.size + 1, 1, none⟩ = some (.string ⟨#[43]⟩) ∧ w'.cell? ⟨wc.heap.size + 1, 2, none⟩ = some (.int .i64 0) ∧ w'.cell? ⟨wc.heap.size + 1, 3, none⟩ = some (.int .i64 0) ∧ w'.cell? ⟨wc.heap.size + 1, 4, none⟩ = some (.slice none 0 0) ∧ w'.cell? ⟨wc.heap.size + 1, 5, none⟩ = some (.slice none 0 0) ∧ w'.cell? ⟨wc.heap.size + 1, 6, none⟩ = some (.slice (some ⟨wc.heap.size, 0, none⟩) 2 2)) ∧ Hid (w'.ownsRow w8.heap.size 9 1 (.slice o n c) n (BkX.flatE M)) ∧ Hid (Below W.heap.size W w') ∧ Hid (Below w8.heap.size w8 w')) (fun e w' q => by
    obtain ⟨⟨v, hv, hr⟩, hbw⟩ := q
    rw [hMn.out] at hr
    obtain ⟨o, c, rfl⟩ := row_form hr
    have hq := hb.out.trans (hbw.mono hb.out.size)
    exact ⟨o, c, hv, HKS3.out w' hq, own_low hr hb.out.size, hbw, hq⟩))
  have CMb := Lib.hid (fun (W : World) (hb : Hid (Below w8.heap.size w8 W)) => (KMb.out _ W _ _ _ _ _ _ _ _ _ _ _ _ _ (HNb.out.under hb.out)).mono (R' := fun e w' => ∃ (o : Option Addr) (c : Nat), e = .returned (.slice o n2 c) ∧ (w'.cell? ⟨w2.heap.size, 0, none⟩ = some (.string a) ∧ w'.cell? ⟨w2.heap.size, 1, none⟩ = some (.string tx) ∧ w'.cell? ⟨w2.heap.size, 2, none⟩ = some (.int .i64 z) ∧ w'.cell? ⟨w2.heap.size, 3, none⟩ = some (.int .i64 m) ∧ w'.cell? ⟨w2.heap.size, 4, none⟩ = some (.slice o1 k1 c1) ∧ w'.cell? ⟨w2.heap.size, 5, none⟩ = some (.slice o2 k2 c2) ∧ w'.cell? ⟨w2.heap.size, 6, none⟩ = some (.slice o3 k3 c3) ∧ w'.cell? ⟨wc.heap.size + 1, 0, none⟩ = some (.string ⟨#[98, 105, 110]⟩) ∧ w'.cell? ⟨wc.heap.size + 1, 1, none⟩ = some (.string ⟨#[43]⟩) ∧ w'.cell? ⟨wc.heap.size + 1, 2, none⟩ = some (.int .i64 0) ∧ w'.cell? ⟨wc.heap.size + 1, 3, none⟩ = some (.int .i64 0) ∧ w'.cell? ⟨wc.heap.size + 1, 4, none⟩ = some (.slice none 0 0) ∧ w'.cell? ⟨wc.heap.size + 1, 5, none⟩ = some (.slice none 0 0) ∧ w'.cell? ⟨wc.heap.size + 1, 6, none⟩ = some (.slice (some ⟨wc.heap.size, 0, none⟩) 2 2)) ∧ Hid (w'.ownsRow w8.heap.size 9 1 (.slice o n2 c) n2 (BkX.flatE M2)) ∧ Hid (Below W.heap.size W w') ∧ Hid (Below w8.heap.size w8 w')) (fun e w' q => by
    obtain ⟨⟨v, hv, hr⟩, hbw⟩ := q
    rw [hMn2.out] at hr
    obtain ⟨o, c, rfl⟩ := row_form hr
    have hq := hb.out.trans (hbw.mono hb.out.size)
    exact ⟨o, c, hv, HKS3.out w' hq, own_low hr hb.out.size, hbw, hq⟩))
  clear hw8 hb8 e8
  go_wp2_with fail
  rw [show (wc.alloc (Obj.cells #[.string a, .string tx, .int .i64 z, .int .i64 m, .slice o1 k1 c1, .slice o2 k2 c2, .slice o3 k3 c3, .string a', .string tx', .int .i64 z', .int .i64 m', .slice o1' k1' c1', .slice o2' k2' c2', .slice o3' k3' c3'] 27)).alloc (Obj.cells #[.string ⟨#[98, 105, 110]⟩, .string ⟨#[43]⟩, .int .i64 0, .int .i64 0, .slice none 0 0, .slice none 0 0, .slice (some ⟨wc.heap.size, 0, none⟩) 2 2] 27) = w8 from HW8.out]
  clear r0 r1 r2 r3 r4 r5 r6 r7 r8 r9 r10 r11 r12 r13 r14 r15 r16 r17 r18 r19
  obtain ⟨r0, r1, r2, r3, r4, r5, r6, r7, r8, r9, r10, r11, r12, r13⟩ := HKS3.out w8 (Below.refl _ _)
  have rb := Lib.hid (show Below w8.heap.size w8 w8.drew from (Below.refl _ _).drew)
  go_cut [12, 13] from 56 to 60 (fun u12 u13 wx => ∃ (om : Option Addr) (cm : Nat) (on : Option Addr) (cn : Nat), u12 = .slice om n cm ∧ u13 = .slice on n2 cn ∧ Hid (wx.ownsRow w8.heap.size 9 1 (.slice om n cm) n (BkX.flatE M)) ∧ Hid (wx.ownsRow w8.heap.size 9 1 (.slice on n2 cn) n2 (BkX.flatE M2)) ∧ Hid (Below w8.heap.size w8 wx))
  case first =>
    go_region_held3 (fun w' => w'.cell? ⟨w2.heap.size, 0, none⟩ = some (.string a) ∧ w'.cell? ⟨w2.heap.size, 1, none⟩ = some (.string tx) ∧ w'.cell? ⟨w2.heap.size, 2, none⟩ = some (.int .i64 z) ∧ w'.cell? ⟨w2.heap.size, 3, none⟩ = some (.int .i64 m) ∧ w'.cell? ⟨w2.heap.size, 4, none⟩ = some (.slice o1 k1 c1) ∧ w'.cell? ⟨w2.heap.size, 5, none⟩ = some (.slice o2 k2 c2) ∧ w'.cell? ⟨w2.heap.size, 6, none⟩ = some (.slice o3 k3 c3) ∧ w'.cell? ⟨wc.heap.size + 1, 0, none⟩ = some (.string ⟨#[98, 105, 110]⟩) ∧ w'.cell? ⟨wc.heap.size + 1, 1, none⟩ = some (.string ⟨#[43]⟩) ∧ w'.cell? ⟨wc.heap.size + 1, 2, none⟩ = some (.int .i64 0) ∧ w'.cell? ⟨wc.heap.size + 1, 3, none⟩ = some (.int .i64 0) ∧ w'.cell? ⟨wc.heap.size + 1, 4, none⟩ = some (.slice none 0 0) ∧ w'.cell? ⟨wc.heap.size + 1, 5, none⟩ = some (.slice none 0 0) ∧ w'.cell? ⟨wc.heap.size + 1, 6, none⟩ = some (.slice (some ⟨wc.heap.size, 0, none⟩) 2 2)) (first | exact ⟨s0, s1, s2, s3, s4, s5, s6, s7, s8, s9, s10, s11, s12, s13⟩ | exact ⟨r0, r1, r2, r3, r4, r5, r6, r7, r8, r9, r10, r11, r12, r13⟩) (first
      | (go_at_call 24; go_fit (CMa.out _ rb); rintro e wq ⟨om, cm, rfl, ⟨s0, s1, s2, s3, s4, s5, s6, s7, s8, s9, s10, s11, s12, s13⟩, sm, tm, sb⟩)
      | (go_at_call 24; go_fit (CMb.out _ rb); rintro e wq ⟨on, cn, rfl, ⟨s0, s1, s2, s3, s4, s5, s6, s7, s8, s9, s10, s11, s12, s13⟩, sn, tn, sb⟩)
      | (go_at_call 24; go_fit (CMa.out _ sb); rintro e wq2 ⟨om, cm, rfl, ⟨s0, s1, s2, s3, s4, s5, s6, s7, s8, s9, s10, s11, s12, s13⟩, sm, tm, sb2⟩)
      | (go_at_call 24; go_fit (CMb.out _ sb); rintro e wq2 ⟨on, cn, rfl, ⟨s0, s1, s2, s3, s4, s5, s6, s7, s8, s9, s10, s11, s12, s13⟩, sn, tn, sb2⟩))
    all_goals go_wp2_with fail
    all_goals go_meet
    all_goals first
      | exact ⟨om, cm, on, cn, rfl, rfl, own_below sm.out tn.out, sn, sb2⟩
      | exact ⟨om, cm, on, cn, rfl, rfl, sm, own_below sn.out tm.out, sb2⟩
  case rest =>
  rename World => wd
  obtain ⟨om, cm, on, cn, rfl, rfl, ho1, ho2, hbd⟩ := hcut
  clear CMa CMb r0 r1 r2 r3 r4 r5 r6 r7 r8 r9 r10 r11 r12 r13 rb KMa KMb
  have HNL := Lib.hid (row_len ho1.out)
  go_wp2_with fail
  go_loopw [14] (fun v wr => ∃ i : Nat, v = .int .i64 i ∧ i ≤ n ∧ Hid (Below wd.heap.size wd wr)) (fun v _ => n - (Go.RowKit.intOf v).toNat)
  case atStart => exact ⟨0, rfl, Nat.zero_le _, Below.refl _ _⟩
  case round =>
    obtain ⟨i, rfl, hin, HZ⟩ := hrel
    by_cases hlt : i < n
    · have j1 : (i : Int) < n := by omega
      have j2 : (i : Int) < n2 := by omega
      obtain ⟨t, ht⟩ : ∃ t, M[i]? = some t := ⟨_, List.getElem?_eq_getElem (by rw [HNL.out]; exact hlt)⟩
      obtain ⟨ga, rfl, -, hga, ha0⟩ := row_at ho1.out ht
      obtain ⟨gb, rfl, -, hgb, hb0⟩ := row_at ho2.out (HPRE.out i t ht)
      have e0 := (HZ.out.cell (p := ⟨ga, i, none⟩) hga).trans ha0
      have d0 := (HZ.out.cell (p := ⟨gb, i, none⟩) hgb).trans hb0
      clear ha0 hb0 ht
      have hrr : (t.toList != t.toList) = false := by simp
      go_wp2_with fail
      go_quiet (fail)
      have HZ2 := Lib.hid (HZ.out.trans ((quietB (w := wr) ⟨nq, rfl⟩).mono HZ.out.size))
      go_wp2
      go_roundw
      case rel => exact ⟨i + 1, by go_num, by omega, HZ2⟩
      case measure => simp [Go.RowKit.intOf]; omega
    · have j1 : ¬ (i : Int) < n := by omega
      have hb9 := Lib.hid (hbd.out.trans (HZ.out.mono hbd.out.size))
      obtain ⟨r0, r1, r2, r3, r4, r5, r6, r7, r8, r9, r10, r11, r12, r13⟩ := HKS3.out wr hb9.out
      have HD1 := Lib.hid (KDb.out _ wr _ _ _ _ _ _ _ _ _ _ _ _ _ (HNb.out.under hb9.out))
      clear ho1 ho2 HNL HZ
      go_wp2_with fail
      refine HD1.out.mono ?_
      rintro e w10 ⟨rfl, b10⟩
      have hb10 := Lib.hid (hb9.out.trans (b10.mono hb9.out.size))
      clear b10 r0 r1 r2 r3 r4 r5 r6 r7 r8 r9 r10 r11 r12 r13
      obtain ⟨r0, r1, r2, r3, r4, r5, r6, r7, r8, r9, r10, r11, r12, r13⟩ := HKS3.out w10 hb10.out
      have HD2 := Lib.hid (KDn.out _ _ _ _ _ _ _ _ _ _ _ _ _ _ _ (neg_nod (HNa.out.under hb10.out)))
      go_wp2_with fail
      refine HD2.out.mono ?_
      rintro e w11 ⟨rfl, b11⟩
      have HF := Lib.hid (show Below w.heap.size w w11 from (HB5.out.trans ((HB8.out.trans (hb10.out.mono HB8.out.size)).mono HB5.out.size)).trans (((Below.refl w10.heap.size w10).alloc (Nat.le_refl _) (Obj.cells #[.string a, .string tx, .int .i64 z, .int .i64 m, .slice o1 k1 c1, .slice o2 k2 c2, .slice o3 k3 c3] 27)).trans (b11.mono (by simp)) |>.mono (HB5.out.trans ((HB8.out.trans (hb10.out.mono HB8.out.size)).mono HB5.out.size)).size))
      clear b11
      go_wp2
      go_ret
      exact ⟨rfl, HF.out⟩

set_option maxHeartbeats 8000000 in
set_option maxRecDepth 100000 in
theorem kdeep_any (s t : ByteArray) (w : World) (h : Env w) (hs : s.size ≤ maxLen) (ht : t.size ≤ maxLen) :
    Calls Tryz.prog 7 #[.string s, .string t] w fun e w' => e = .returned (.bool true) ∧ Below w.heap.size w w' := by
  unfold maxLen at hs ht
  by_cases hbig : 200 < s.size ∨ 200 < t.size
  · have cA := Lib.hid (fun W (hb : Below w.heap.size w W) => alive_kind W (h.below hb))
    have i1 : (200 : Int) < s.size ∨ ((s.size : Int) ≤ 200 ∧ (200 : Int) < t.size) := by omega
    clear hbig h
    rcases i1 with i1 | ⟨i1, i2⟩
    all_goals
      go_enter Tryz.func7, Tryz.ntmps7
      go_wp2_with (go_at_call 21; refine (cA.out _ (Below.refl _ _)).mono ?_; rintro e w1 ⟨rfl, b1⟩)
      go_ret
      exact ⟨rfl, b1⟩
  · have i1 : (s.size : Int) ≤ 200 := by omega
    have i2 : (t.size : Int) ≤ 200 := by omega
    clear hbig
    cases hr1 : readL s.data.toList with
    | none =>
      have cA := Lib.hid (fun W (hb : Below w.heap.size w W) => alive_kind W (h.below hb))
      have C1 := Lib.hid (fun W (hb : Below w.heap.size w W) => read_not s (by omega) hr1 W (h.below hb))
      have C2 := Lib.hid (fun W (hb : Below w.heap.size w W) => read_raw t (by unfold maxLen; omega) W (h.below hb))
      clear h hr1
      go_enter Tryz.func7, Tryz.ntmps7
      go_wp2_with fail
      refine (cA.out _ (Below.refl _ _)).mono ?_
      rintro e w1 ⟨rfl, b1⟩
      have B1 := Lib.hid b1
      clear b1
      go_wp2_with fail
      refine (C1.out _ B1.out).mono ?_
      rintro e w2 ⟨rfl, b2⟩
      have B2 := Lib.hid (below_box (B1.out.trans (b2.mono B1.out.size)) (QBox ⟨#[]⟩ ⟨#[]⟩ 0 0 none 0 0 none 0 0 none 0 0 0 0 0))
      clear b2
      go_wp2_with fail
      refine (C2.out _ B2.out).mono ?_
      rintro e w4 ⟨⟨a, tx, z, m, o1, k1, c1, o2, k2, c2, o3, k3, c3, od, li, ob, k, rfl⟩, b4⟩
      have B4 := Lib.hid (below_box (B2.out.trans (b4.mono B2.out.size)) (QBox a tx z m o1 k1 c1 o2 k2 c2 o3 k3 c3 od li ob))
      clear b4
      go_wp2
      go_ret
      exact ⟨rfl, B4.out⟩
    | some q1 =>
      cases hr2 : readL t.data.toList with
      | some q2 => exact deep_main s t w h i1 i2 q1 q2 hr1 hr2
      | none =>
        have cA := Lib.hid (fun W (hb : Below w.heap.size w W) => alive_kind W (h.below hb))
        obtain ⟨od, hod⟩ : ∃ od : Int, (q1.order : Int) = od := ⟨_, rfl⟩
        have C1 := Lib.hid (fun W (hb : Below w.heap.size w W) => read_is s (by omega) q1 hr1 od hod W (h.below hb))
        have C2 := Lib.hid (fun W (hb : Below w.heap.size w W) => read_not t (by omega) hr2 W (h.below hb))
        generalize q1.limit = li at C1
        generalize q1.offset = ob at C1
        clear h hr1 hr2 hod
        go_enter Tryz.func7, Tryz.ntmps7
        go_wp2_with fail
        refine (cA.out _ (Below.refl _ _)).mono ?_
        rintro e w1 ⟨rfl, b1⟩
        have B1 := Lib.hid b1
        clear b1
        go_wp2_with fail
        refine (C1.out _ B1.out).mono ?_
        rintro e w2 ⟨⟨a, tx, z, m, o1, k1, c1, o2, k2, c2, o3, k3, c3, rfl, hn⟩, b2⟩
        have B2 := Lib.hid (below_box (B1.out.trans (b2.mono B1.out.size)) (QBox a tx z m o1 k1 c1 o2 k2 c2 o3 k3 c3 od li ob))
        clear b2 hn
        go_wp2_with fail
        refine (C2.out _ B2.out).mono ?_
        rintro e w4 ⟨rfl, b4⟩
        have B4 := Lib.hid (below_box (B2.out.trans (b4.mono B2.out.size)) (QBox ⟨#[]⟩ ⟨#[]⟩ 0 0 none 0 0 none 0 0 none 0 0 0 0 0))
        clear b4
        go_wp2
        go_ret
        exact ⟨rfl, B4.out⟩
end Go.Proofs.YtddglepimbfdkaaGreatDoor.Knd
