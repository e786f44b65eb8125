/- Patterns: a part that may come again is laid. -/
import Derived.Test.YtfpdhmecomgbdaaPk
namespace Go.Proofs.Ytfpdhmecomgbdaa
open Go.RowKit

/-- What a call that lays leaves. -/
def LayRes (w : World) (bp : Nat) (t a b c : Value) (p : Eg × Gr) (e : Ending) (w' : World) : Prop :=
  e = .returned (.agg #[.bool p.1.none, .int .u64 (p.1.first : Int), .int .u64 (p.1.last : Int)]) ∧ GrAt w' bp t a b c p.2 ∧ Below bp w w' ∧ Tys w w'
def LayC (x : Pt) : Prop := ∀ (w : World) (bp : Nat) (t a b c v : Value) (g : Gr), GrAt w bp t a b c g → Tree w (fun k => k < bp) v x → g.atoms.length + x.size ≤ 64 → GrOk g → Calls Try.prog 19 #[.pointer (some ⟨bp, 1, none⟩), v] w (LayRes w bp t a b c (layF x g))
theorem GrAt.setBox {w : World} {bp k i : Nat} {t a b c u : Value} {g : Gr} {cs : Array Value} {ty : TypeId} {fr : Nat × Nat} (h : GrAt w bp t a b c g) (hk : w.heap[k]? = some (.cells cs ty fr)) (h1 : ty ≠ 38) (h2 : ty ≠ 47) (hb : bp < k) : GrAt (w.setCell ⟨k, i, none⟩ u) bp t a b c g := by
  obtain ⟨va, vt, vs, hp, hr⟩ := h
  refine ⟨va, vt, vs, ?_, ?_, ?_, fun j uu y hu hy => (hr.kids j uu y hu hy).keep fun b hb2 _ => ⟨heap_setCell_other _ _ _ _ (by show b ≠ k; omega), hb2⟩⟩
  · unfold Pat at hp ⊢
    rw [heap_setCell_other _ _ _ _ (by show bp ≠ k; omega)]
    exact hp
  · exact ownsRow_setCell_other hr.atoms (a := ⟨k, i, none⟩) (own_not hr.atoms hk h1) u
  · exact ownsRow_setCell_other hr.links (a := ⟨k, i, none⟩) (own_not hr.links hk h2) u
theorem Box3.tys {w w' : World} {k : Nat} {a b c : Value} {t : TypeId} (h : Box3 w k a b c t) (ht : Tys w w') (h1 : t ≠ 38) (h2 : t ≠ 47) (h3 : t ≠ 51) : Box3 w' k a b c t := ht k _ t _ h h1 h2 h3
theorem Box3.below {w w' : World} {k : Nat} {a b c : Value} {t : TypeId} (h : Box3 w k a b c t) (hb : Below w.heap.size w w') : Box3 w' k a b c t := (hb.block k (Array.getElem?_eq_some_iff.1 h).1).trans h
theorem Box3.set {w : World} {k i : Nat} {a b c u : Value} {t : TypeId} (h : Box3 w k a b c t) {j : Nat} (hj : j ≠ k) : Box3 (w.setCell ⟨j, i, none⟩ u) k a b c t := (heap_setCell_other _ _ _ _ (by show k ≠ j; omega)).trans h
/-- The three cells of a result are written. -/
theorem GrAt.put3 {w : World} {bp k : Nat} {t a b c x y z p q r : Value} {g : Gr} {ty : TypeId} (h : GrAt w bp t a b c g) (hk : Box3 w k x y z ty) (h1 : ty ≠ 38) (h2 : ty ≠ 47) (hb : bp < k) :
    GrAt (((w.setCell ⟨k, 0, none⟩ p).setCell ⟨k, 1, none⟩ q).setCell ⟨k, 2, none⟩ r) bp t a b c g := by
  have e1 : (w.setCell ⟨k, 0, none⟩ p).heap[k]? = some (.cells (#[x, y, z].setIfInBounds 0 p) ty (0, 0)) := heap_setCell_same w k 0 _ ty p hk
  have e2 := heap_setCell_same _ k 1 _ ty q e1
  exact ((h.setBox hk h1 h2 hb).setBox e1 h1 h2 hb).setBox e2 h1 h2 hb

theorem put_done {w w3 : World} {bp k : Nat} {t a b c x y z p q r : Value} {g : Gr} (h : GrAt w3 bp t a b c g) (hk : Box3 w3 k x y z 49) (hB : Below bp w w3) (hT : Tys w w3) (hw : w.heap.size ≤ k) (hb : bp < w.heap.size) :
    GrAt (((w3.setCell ⟨k, 0, none⟩ p).setCell ⟨k, 1, none⟩ q).setCell ⟨k, 2, none⟩ r) bp t a b c g ∧ Below bp w (((w3.setCell ⟨k, 0, none⟩ p).setCell ⟨k, 1, none⟩ q).setCell ⟨k, 2, none⟩ r) ∧ Tys w (((w3.setCell ⟨k, 0, none⟩ p).setCell ⟨k, 1, none⟩ q).setCell ⟨k, 2, none⟩ r) :=
  ⟨h.put3 hk (by decide) (by decide) (by omega), ((hB.setCell (by show bp ≤ k; omega) _).setCell (by show bp ≤ k; omega) _).setCell (by show bp ≤ k; omega) _, ((hT.setNew hw _ _).setNew hw _ _).setNew hw _ _⟩
theorem set_done {w w3 : World} {bp k i : Nat} {t a b c x y z p : Value} {g : Gr} (h : GrAt w3 bp t a b c g) (hk : Box3 w3 k x y z 49) (hB : Below bp w w3) (hT : Tys w w3) (hw : w.heap.size ≤ k) (hb : bp < w.heap.size) :
    GrAt (w3.setCell ⟨k, i, none⟩ p) bp t a b c g ∧ Below bp w (w3.setCell ⟨k, i, none⟩ p) ∧ Tys w (w3.setCell ⟨k, i, none⟩ p) :=
  ⟨h.setBox hk (by decide) (by decide) (by omega), hB.setCell (by show bp ≤ k; omega) _, hT.setNew hw _ _⟩
theorem put_alloc {w w3 : World} {bp k : Nat} {t a b c x y z p q r : Value} {g : Gr} (o : Obj) (h : GrAt w3 bp t a b c g) (hk : Box3 w3 k x y z 49) (hB : Below bp w w3) (hT : Tys w w3) (hw : w.heap.size ≤ k) (hb : bp < w.heap.size) :
    GrAt ((((w3.setCell ⟨k, 0, none⟩ p).setCell ⟨k, 1, none⟩ q).setCell ⟨k, 2, none⟩ r).alloc o) bp t a b c g ∧ Below bp w ((((w3.setCell ⟨k, 0, none⟩ p).setCell ⟨k, 1, none⟩ q).setCell ⟨k, 2, none⟩ r).alloc o) ∧ Tys w ((((w3.setCell ⟨k, 0, none⟩ p).setCell ⟨k, 1, none⟩ q).setCell ⟨k, 2, none⟩ r).alloc o) := by
  obtain ⟨h1, h2, h3⟩ := put_done (p := p) (q := q) (r := r) h hk hB hT hw hb
  have ha : ∀ W : World, Below W.heap.size W (W.alloc o) := fun W => (Below.refl _ _).alloc (Nat.le_refl _) _
  exact ⟨h1.below (ha _), h2.trans ((ha _).mono (by have := h2.size; omega)), h3.trans (Tys.of_below (ha _))⟩
/-- The walk's three boxes. -/
structure Three (w : World) (k0 k1 k2 : Nat) (a0 b0 c0 a2 b2 c2 : Value) : Prop where
  b0 : Box3 w k0 a0 b0 c0 69
  b1 : Box3 w k1 (.bool false) (.int .u64 0) (.int .u64 0) 49
  b2 : Box3 w k2 a2 b2 c2 49
theorem Three.tys {w w' : World} {k0 k1 k2 : Nat} {a0 b0 c0 a2 b2 c2 : Value} (h : Three w k0 k1 k2 a0 b0 c0 a2 b2 c2) (ht : Tys w w') : Three w' k0 k1 k2 a0 b0 c0 a2 b2 c2 :=
  ⟨h.b0.tys ht (by decide) (by decide) (by decide), h.b1.tys ht (by decide) (by decide) (by decide), h.b2.tys ht (by decide) (by decide) (by decide)⟩

set_option maxHeartbeats 4000000 in
set_option maxRecDepth 100000 in
theorem layTimes_of (x : Pt) (hx : LayC x) (a1 b1 : Bool) (w : World) (bp : Nat) (t a b c v : Value) (g : Gr) (h : GrAt w bp t a b c g) (ht : Tree w (fun k => k < bp) v x) (hs : g.atoms.length + x.size ≤ 64) (hok : GrOk g) :
    Calls Try.prog 27 #[.pointer (some ⟨bp, 1, none⟩), .agg #[v, .bool a1, .bool b1]] w (LayRes w bp t a b c (timesG a1 b1 (layF x g))) := by
  obtain ⟨tv, uv, rfl⟩ := ht.iface
  have hlt := h.lt
  obtain ⟨W, hW⟩ : ∃ W, (w.alloc (Obj.cells #[.iface tv uv, .bool a1, .bool b1] 69)).alloc (Obj.cells #[.bool false, .int .u64 0, .int .u64 0] 49) = W := ⟨_, rfl⟩
  have hb0 : Below w.heap.size w W := by rw [← hW]; exact ((Below.refl _ _).alloc (Nat.le_refl _) _).alloc (by simp) _
  have hk0 : Box3 W w.heap.size (.iface tv uv) (.bool a1) (.bool b1) 69 := by
    unfold Box3
    rw [← hW, Below.heap_alloc _ _ _ (by simp)]
    exact Array.getElem?_push_size
  have hk1 : Box3 W (w.heap.size + 1) (.bool false) (.int .u64 0) (.int .u64 0) 49 := by
    unfold Box3
    rw [← hW]
    have := Array.getElem?_push_size (xs := (w.alloc (Obj.cells #[.iface tv uv, .bool a1, .bool b1] 69)).heap) (x := Obj.cells #[.bool false, .int .u64 0, .int .u64 0] 49)
    rw [World.size_alloc] at this
    exact this
  have HL := Lib.hid (hx W bp t a b c (.iface tv uv) g (h.below hb0) (ht.stays hb0) hs hok)
  have hfok := layF_ok x g hok
  obtain ⟨E, G, hp⟩ : ∃ E G, layF x g = (E, G) := ⟨_, _, rfl⟩
  rw [hp] at HL hfok ⊢
  obtain ⟨en, ef, el⟩ := E
  obtain ⟨o1, o2, o3, o4⟩ := hfok
  dsimp only at o1 o2 o3 o4
  have H64 := Lib.hid (show ef < 2 ^ 64 ∧ el < 2 ^ 64 ∧ (∀ m ∈ G.thn, m < 2 ^ 64) ∧ G.thn.length ≤ 64 from ⟨pow_mono o3 hs, pow_mono o4 hs, fun m hm => pow_mono (o1.small m hm) (by omega), by rw [o1.len]; omega⟩)
  have HB0 := Lib.hid hb0
  have HK := Lib.hid (And.intro hk0 hk1)
  have HW := Lib.hid hW
  obtain ⟨r0, r1, r2, _, _, _⟩ := hk0.reads
  clear h ht hW hb0 hk0 hk1 hx hp o1 o2 o3 o4 hok hs
  go_enter Try.func27, Try.ntmps27
  go_wp2_with fail
  rw [HW.out]
  refine HL.out.mono ?_
  rintro e w1 ⟨rfl, hg1, hb1, ht1⟩
  clear r0 r1 r2
  have hK0 := HK.out.1.tys ht1 (by decide) (by decide) (by decide)
  have hK1 := HK.out.2.tys ht1 (by decide) (by decide) (by decide)
  obtain ⟨W2, hW2⟩ : ∃ W2, w1.alloc (Obj.cells #[.bool en, .int .u64 (ef : Int), .int .u64 (el : Int)] 49) = W2 := ⟨_, rfl⟩
  have hb2 : Below w1.heap.size w1 W2 := by rw [← hW2]; exact (Below.refl _ _).alloc (Nat.le_refl _) _
  have h3 : Three W2 w.heap.size (w.heap.size + 1) w1.heap.size (.iface tv uv) (.bool a1) (.bool b1) (.bool en) (.int .u64 (ef : Int)) (.int .u64 (el : Int)) :=
    ⟨hK0.below hb2, hK1.below hb2, by unfold Box3; rw [← hW2]; exact Array.getElem?_push_size⟩
  have hsz : w.heap.size + 1 < w1.heap.size := (Array.getElem?_eq_some_iff.1 hK1).1
  have HG2 := Lib.hid (show GrAt W2 bp t a b c G ∧ Below bp w W2 ∧ Tys w W2 from ⟨hg1.below hb2, ((HB0.out.mono (Nat.le_of_lt hlt)).trans hb1).trans (hb2.mono (by omega)), ((Tys.of_below HB0.out).trans ht1).trans (Tys.of_below hb2)⟩)
  have H3 := Lib.hid h3
  have HW2 := Lib.hid hW2
  have HG1 := Lib.hid (show GrAt w1 bp t a b c G ∧ Box3 w1 (w.heap.size + 1) (.bool false) (.int .u64 0) (.int .u64 0) 49 ∧ Below bp w w1 ∧ Tys w w1 from ⟨hg1, hK1, (HB0.out.mono (Nat.le_of_lt hlt)).trans hb1, (Tys.of_below HB0.out).trans ht1⟩)
  obtain ⟨r0, r1, r2, _, _, _⟩ := hK0.reads
  obtain ⟨q0, q1, q2, g0, g1, g2⟩ := hK1.reads
  have hsz0 : w.heap.size < w1.heap.size := by omega
  clear hg1 hb1 ht1 hK0 hK1 hW2 hb2 h3
  cases b1 with
  | false =>
    cases en with
    | true =>
      go_wp2_with fail
      obtain ⟨k1, k2, k3⟩ := put_alloc (p := .bool true) (q := .int .u64 ef) (r := .int .u64 el) (Obj.cells #[.bool true, .int .u64 (ef : Int), .int .u64 (el : Int)] 49) HG1.out.1 HG1.out.2.1 HG1.out.2.2.1 HG1.out.2.2.2 (Nat.le_succ _) hlt
      refine bodyPost_ret (v := .agg #[.bool true, .int .u64 ef, .int .u64 el]) (by simp [results, Try.results27, go_sem, q0, q1, q2, hsz]) rfl ⟨by simp [timesG], by simpa [timesG] using k1, k2, k3⟩
    | false =>
      go_wp2_with fail
      obtain ⟨k1, k2, k3⟩ := put_alloc (p := .bool a1) (q := .int .u64 ef) (r := .int .u64 el) (Obj.cells #[.bool a1, .int .u64 (ef : Int), .int .u64 (el : Int)] 49) HG1.out.1 HG1.out.2.1 HG1.out.2.2.1 HG1.out.2.2.2 (Nat.le_succ _) hlt
      refine bodyPost_ret (v := .agg #[.bool a1, .int .u64 ef, .int .u64 el]) (by simp [results, Try.results27, go_sem, q0, q1, q2, hsz]) rfl ⟨by simp [timesG], by simpa [timesG] using k1, k2, k3⟩
  | true =>
    go_wp2_with fail
    rw [HW2.out]
    clear r0 r1 r2 q0 q1 q2 g0 g1 g2
    refine (link_any bp t a b c G el ef W2 HG2.out.1 H64.out.2.2.2 H64.out.2.1 H64.out.1 H64.out.2.2.1).mono ?_
    rintro e w3 ⟨rfl, hg3, hb3, ht3⟩
    have h3 := H3.out.tys ht3
    have HG3 := Lib.hid (show GrAt w3 bp t a b c ⟨G.atoms, linkF G.thn el ef⟩ ∧ Below bp w w3 ∧ Tys w w3 from ⟨hg3, HG2.out.2.1.trans hb3, HG2.out.2.2.trans ht3⟩)
    have HT3 := Lib.hid h3
    obtain ⟨r0, r1, r2, _, _, _⟩ := h3.b0.reads
    obtain ⟨q0, q1, q2, g0, g1, g2⟩ := h3.b1.reads
    obtain ⟨p0, p1, p2, f0, f1, f2⟩ := h3.b2.reads
    have hsz3 : w1.heap.size < w3.heap.size := (Array.getElem?_eq_some_iff.1 h3.b2).1
    clear hg3 hb3 ht3 h3
    cases en with
    | true =>
      go_wp2_with fail
      obtain ⟨k1, k2, k3⟩ := set_done (i := 0) (p := .bool true) HG3.out.1 HT3.out.b2 HG3.out.2.1 HG3.out.2.2 (by omega) hlt
      obtain ⟨j1, j2, j3⟩ := put_done (p := .bool true) (q := .int .u64 ef) (r := .int .u64 el) k1 (HT3.out.b1.set (by omega)) k2 k3 (Nat.le_succ _) hlt
      have hne : w.heap.size + 1 ≠ w1.heap.size := by omega
      refine bodyPost_ret (v := .agg #[.bool true, .int .u64 ef, .int .u64 el]) (by simp [results, Try.results27, go_sem, q0, q1, q2]) rfl ⟨by simp [timesG], by simpa [timesG] using j1, j2, j3⟩
    | false =>
      go_wp2_with fail
      obtain ⟨k1, k2, k3⟩ := set_done (i := 0) (p := .bool a1) HG3.out.1 HT3.out.b2 HG3.out.2.1 HG3.out.2.2 (by omega) hlt
      obtain ⟨j1, j2, j3⟩ := put_done (p := .bool a1) (q := .int .u64 ef) (r := .int .u64 el) k1 (HT3.out.b1.set (by omega)) k2 k3 (Nat.le_succ _) hlt
      have hne : w.heap.size + 1 ≠ w1.heap.size := by omega
      refine bodyPost_ret (v := .agg #[.bool a1, .int .u64 ef, .int .u64 el]) (by simp [results, Try.results27, go_sem, q0, q1, q2]) rfl ⟨by simp [timesG], by simpa [timesG] using j1, j2, j3⟩
end Go.Proofs.Ytfpdhmecomgbdaa
