import Derived.Test.YtddglepimbfdkaaGreatDoorNi
section
/- Patterns: a part that may come again is laid. -/

namespace Go.Proofs.YtddglepimbfdkaaGreatDoor.Pat
open Go.RowKit

/-- What a call that lays leaves. -/
def LayRes (w : World) (bp : Nat) (t a b c : Value) (p : Eg × Gr) (e : Ending) (w' : World) : Prop :=
  e = .returned (.agg #[.bool p.1.none, .int .u64 (p.1.first : Int), .int .u64 (p.1.last : Int)]) ∧ GrAt w' bp t a b c p.2 ∧ Below bp w w' ∧ Tys w w'
def LayC (x : Pt) : Prop := ∀ (w : World) (bp : Nat) (t a b c v : Value) (g : Gr), GrAt w bp t a b c g → Tree w (fun k => k < bp) v x → g.atoms.length + x.size ≤ 64 → GrOk g → Calls Tryz.prog 262 #[.pointer (some ⟨bp, 1, none⟩), v] w (LayRes w bp t a b c (layF x g))
theorem GrAt.setBox {w : World} {bp k i : Nat} {t a b c u : Value} {g : Gr} {cs : Array Value} {ty : TypeId} {fr : Nat × Nat} (h : GrAt w bp t a b c g) (hk : w.heap[k]? = some (.cells cs ty fr)) (h1 : ty ≠ 312) (h2 : ty ≠ 319) (hb : bp < k) : GrAt (w.setCell ⟨k, i, none⟩ u) bp t a b c g := by
  obtain ⟨va, vt, vs, hp, hr⟩ := h
  refine ⟨va, vt, vs, ?_, ?_, ?_, fun j uu y hu hy => (hr.kids j uu y hu hy).keep fun b hb2 _ => ⟨heap_setCell_other _ _ _ _ (by show b ≠ k; omega), hb2⟩⟩
  · unfold Pat at hp ⊢
    rw [heap_setCell_other _ _ _ _ (by show bp ≠ k; omega)]
    exact hp
  · exact ownsRow_setCell_other hr.atoms (a := ⟨k, i, none⟩) (own_not hr.atoms hk h1) u
  · exact ownsRow_setCell_other hr.links (a := ⟨k, i, none⟩) (own_not hr.links hk h2) u
theorem Box3.tys {w w' : World} {k : Nat} {a b c : Value} {t : TypeId} (h : Box3 w k a b c t) (ht : Tys w w') (h1 : t ≠ 312) (h2 : t ≠ 319) (h3 : t ≠ 323) : Box3 w' k a b c t := ht k _ t _ h h1 h2 h3
theorem Box3.below {w w' : World} {k : Nat} {a b c : Value} {t : TypeId} (h : Box3 w k a b c t) (hb : Below w.heap.size w w') : Box3 w' k a b c t := (hb.block k (Array.getElem?_eq_some_iff.1 h).1).trans h
theorem Box3.set {w : World} {k i : Nat} {a b c u : Value} {t : TypeId} (h : Box3 w k a b c t) {j : Nat} (hj : j ≠ k) : Box3 (w.setCell ⟨j, i, none⟩ u) k a b c t := (heap_setCell_other _ _ _ _ (by show k ≠ j; omega)).trans h
/-- The three cells of a result are written. -/
theorem GrAt.put3 {w : World} {bp k : Nat} {t a b c x y z p q r : Value} {g : Gr} {ty : TypeId} (h : GrAt w bp t a b c g) (hk : Box3 w k x y z ty) (h1 : ty ≠ 312) (h2 : ty ≠ 319) (hb : bp < k) :
    GrAt (((w.setCell ⟨k, 0, none⟩ p).setCell ⟨k, 1, none⟩ q).setCell ⟨k, 2, none⟩ r) bp t a b c g := by
  have e1 : (w.setCell ⟨k, 0, none⟩ p).heap[k]? = some (.cells (#[x, y, z].setIfInBounds 0 p) ty (0, 0)) := heap_setCell_same w k 0 _ ty p hk
  have e2 := heap_setCell_same _ k 1 _ ty q e1
  exact ((h.setBox hk h1 h2 hb).setBox e1 h1 h2 hb).setBox e2 h1 h2 hb

theorem put_done {w w3 : World} {bp k : Nat} {t a b c x y z p q r : Value} {g : Gr} (h : GrAt w3 bp t a b c g) (hk : Box3 w3 k x y z 321) (hB : Below bp w w3) (hT : Tys w w3) (hw : w.heap.size ≤ k) (hb : bp < w.heap.size) :
    GrAt (((w3.setCell ⟨k, 0, none⟩ p).setCell ⟨k, 1, none⟩ q).setCell ⟨k, 2, none⟩ r) bp t a b c g ∧ Below bp w (((w3.setCell ⟨k, 0, none⟩ p).setCell ⟨k, 1, none⟩ q).setCell ⟨k, 2, none⟩ r) ∧ Tys w (((w3.setCell ⟨k, 0, none⟩ p).setCell ⟨k, 1, none⟩ q).setCell ⟨k, 2, none⟩ r) :=
  ⟨h.put3 hk (by decide) (by decide) (by omega), ((hB.setCell (by show bp ≤ k; omega) _).setCell (by show bp ≤ k; omega) _).setCell (by show bp ≤ k; omega) _, ((hT.setNew hw _ _).setNew hw _ _).setNew hw _ _⟩
theorem set_done {w w3 : World} {bp k i : Nat} {t a b c x y z p : Value} {g : Gr} (h : GrAt w3 bp t a b c g) (hk : Box3 w3 k x y z 321) (hB : Below bp w w3) (hT : Tys w w3) (hw : w.heap.size ≤ k) (hb : bp < w.heap.size) :
    GrAt (w3.setCell ⟨k, i, none⟩ p) bp t a b c g ∧ Below bp w (w3.setCell ⟨k, i, none⟩ p) ∧ Tys w (w3.setCell ⟨k, i, none⟩ p) :=
  ⟨h.setBox hk (by decide) (by decide) (by omega), hB.setCell (by show bp ≤ k; omega) _, hT.setNew hw _ _⟩
theorem put_alloc {w w3 : World} {bp k : Nat} {t a b c x y z p q r : Value} {g : Gr} (o : Obj) (h : GrAt w3 bp t a b c g) (hk : Box3 w3 k x y z 321) (hB : Below bp w w3) (hT : Tys w w3) (hw : w.heap.size ≤ k) (hb : bp < w.heap.size) :
    GrAt ((((w3.setCell ⟨k, 0, none⟩ p).setCell ⟨k, 1, none⟩ q).setCell ⟨k, 2, none⟩ r).alloc o) bp t a b c g ∧ Below bp w ((((w3.setCell ⟨k, 0, none⟩ p).setCell ⟨k, 1, none⟩ q).setCell ⟨k, 2, none⟩ r).alloc o) ∧ Tys w ((((w3.setCell ⟨k, 0, none⟩ p).setCell ⟨k, 1, none⟩ q).setCell ⟨k, 2, none⟩ r).alloc o) := by
  obtain ⟨h1, h2, h3⟩ := put_done (p := p) (q := q) (r := r) h hk hB hT hw hb
  have ha : ∀ W : World, Below W.heap.size W (W.alloc o) := fun W => (Below.refl _ _).alloc (Nat.le_refl _) _
  exact ⟨h1.below (ha _), h2.trans ((ha _).mono (by have := h2.size; omega)), h3.trans (Tys.of_below (ha _))⟩
/-- The walk's three boxes. -/
structure Three (w : World) (k0 k1 k2 : Nat) (a0 b0 c0 a2 b2 c2 : Value) : Prop where
  b0 : Box3 w k0 a0 b0 c0 339
  b1 : Box3 w k1 (.bool false) (.int .u64 0) (.int .u64 0) 321
  b2 : Box3 w k2 a2 b2 c2 321
theorem Three.tys {w w' : World} {k0 k1 k2 : Nat} {a0 b0 c0 a2 b2 c2 : Value} (h : Three w k0 k1 k2 a0 b0 c0 a2 b2 c2) (ht : Tys w w') : Three w' k0 k1 k2 a0 b0 c0 a2 b2 c2 :=
  ⟨h.b0.tys ht (by decide) (by decide) (by decide), h.b1.tys ht (by decide) (by decide) (by decide), h.b2.tys ht (by decide) (by decide) (by decide)⟩

set_option maxHeartbeats 4000000 in
set_option maxRecDepth 100000 in
theorem layTimes_of (x : Pt) (hx : LayC x) (a1 b1 : Bool) (w : World) (bp : Nat) (t a b c v : Value) (g : Gr) (h : GrAt w bp t a b c g) (ht : Tree w (fun k => k < bp) v x) (hs : g.atoms.length + x.size ≤ 64) (hok : GrOk g) :
    Calls Tryz.prog 268 #[.pointer (some ⟨bp, 1, none⟩), .agg #[v, .bool a1, .bool b1]] w (LayRes w bp t a b c (timesG a1 b1 (layF x g))) := by
  obtain ⟨tv, uv, rfl⟩ := ht.iface
  have hlt := h.lt
  obtain ⟨W, hW⟩ : ∃ W, (w.alloc (Obj.cells #[.iface tv uv, .bool a1, .bool b1] 339)).alloc (Obj.cells #[.bool false, .int .u64 0, .int .u64 0] 321) = W := ⟨_, rfl⟩
  have hb0 : Below w.heap.size w W := by rw [← hW]; exact ((Below.refl _ _).alloc (Nat.le_refl _) _).alloc (by simp) _
  have hk0 : Box3 W w.heap.size (.iface tv uv) (.bool a1) (.bool b1) 339 := by
    unfold Box3
    rw [← hW, Below.heap_alloc _ _ _ (by simp)]
    exact Array.getElem?_push_size
  have hk1 : Box3 W (w.heap.size + 1) (.bool false) (.int .u64 0) (.int .u64 0) 321 := by
    unfold Box3
    rw [← hW]
    have := Array.getElem?_push_size (xs := (w.alloc (Obj.cells #[.iface tv uv, .bool a1, .bool b1] 339)).heap) (x := Obj.cells #[.bool false, .int .u64 0, .int .u64 0] 321)
    rw [World.size_alloc] at this
    exact this
  have HL := Lib.hid (hx W bp t a b c (.iface tv uv) g (h.below hb0) (ht.stays hb0) hs hok)
  have hfok := layF_ok x g hok
  obtain ⟨E, G, hp⟩ : ∃ E G, layF x g = (E, G) := ⟨_, _, rfl⟩
  rw [hp] at HL hfok ⊢
  obtain ⟨en, ef, el⟩ := E
  obtain ⟨o1, o2, o3, o4⟩ := hfok
  dsimp only at o1 o2 o3 o4
  have H64 := Lib.hid (show ef < 2 ^ 64 ∧ el < 2 ^ 64 ∧ (∀ m ∈ G.thn, m < 2 ^ 64) ∧ G.thn.length ≤ 64 from ⟨pow_mono o3 hs, pow_mono o4 hs, fun m hm => pow_mono (o1.small m hm) (by omega), by rw [o1.len]; omega⟩)
  have HB0 := Lib.hid hb0
  have HK := Lib.hid (And.intro hk0 hk1)
  have HW := Lib.hid hW
  obtain ⟨r0, r1, r2, _, _, _⟩ := hk0.reads
  clear h ht hW hb0 hk0 hk1 hx hp o1 o2 o3 o4 hok hs
  go_enter Tryz.func268, Tryz.ntmps268
  go_wp2_with fail
  rw [HW.out]
  refine HL.out.mono ?_
  rintro e w1 ⟨rfl, hg1, hb1, ht1⟩
  clear r0 r1 r2
  have hK0 := HK.out.1.tys ht1 (by decide) (by decide) (by decide)
  have hK1 := HK.out.2.tys ht1 (by decide) (by decide) (by decide)
  obtain ⟨W2, hW2⟩ : ∃ W2, w1.alloc (Obj.cells #[.bool en, .int .u64 (ef : Int), .int .u64 (el : Int)] 321) = W2 := ⟨_, rfl⟩
  have hb2 : Below w1.heap.size w1 W2 := by rw [← hW2]; exact (Below.refl _ _).alloc (Nat.le_refl _) _
  have h3 : Three W2 w.heap.size (w.heap.size + 1) w1.heap.size (.iface tv uv) (.bool a1) (.bool b1) (.bool en) (.int .u64 (ef : Int)) (.int .u64 (el : Int)) :=
    ⟨hK0.below hb2, hK1.below hb2, by unfold Box3; rw [← hW2]; exact Array.getElem?_push_size⟩
  have hsz : w.heap.size + 1 < w1.heap.size := (Array.getElem?_eq_some_iff.1 hK1).1
  have HG2 := Lib.hid (show GrAt W2 bp t a b c G ∧ Below bp w W2 ∧ Tys w W2 from ⟨hg1.below hb2, ((HB0.out.mono (Nat.le_of_lt hlt)).trans hb1).trans (hb2.mono (by omega)), ((Tys.of_below HB0.out).trans ht1).trans (Tys.of_below hb2)⟩)
  have H3 := Lib.hid h3
  have HW2 := Lib.hid hW2
  have HG1 := Lib.hid (show GrAt w1 bp t a b c G ∧ Box3 w1 (w.heap.size + 1) (.bool false) (.int .u64 0) (.int .u64 0) 321 ∧ Below bp w w1 ∧ Tys w w1 from ⟨hg1, hK1, (HB0.out.mono (Nat.le_of_lt hlt)).trans hb1, (Tys.of_below HB0.out).trans ht1⟩)
  obtain ⟨r0, r1, r2, _, _, _⟩ := hK0.reads
  obtain ⟨q0, q1, q2, g0, g1, g2⟩ := hK1.reads
  have hsz0 : w.heap.size < w1.heap.size := by omega
  clear hg1 hb1 ht1 hK0 hK1 hW2 hb2 h3
  cases b1 with
  | false =>
    cases en with
    | true =>
      go_wp2_with fail
      obtain ⟨k1, k2, k3⟩ := put_alloc (p := .bool true) (q := .int .u64 ef) (r := .int .u64 el) (Obj.cells #[.bool true, .int .u64 (ef : Int), .int .u64 (el : Int)] 321) HG1.out.1 HG1.out.2.1 HG1.out.2.2.1 HG1.out.2.2.2 (Nat.le_succ _) hlt
      refine bodyPost_ret (v := .agg #[.bool true, .int .u64 ef, .int .u64 el]) (by simp [results, Tryz.results268, go_sem, q0, q1, q2, hsz]) rfl ⟨by simp [timesG], by simpa [timesG] using k1, k2, k3⟩
    | false =>
      go_wp2_with fail
      obtain ⟨k1, k2, k3⟩ := put_alloc (p := .bool a1) (q := .int .u64 ef) (r := .int .u64 el) (Obj.cells #[.bool a1, .int .u64 (ef : Int), .int .u64 (el : Int)] 321) HG1.out.1 HG1.out.2.1 HG1.out.2.2.1 HG1.out.2.2.2 (Nat.le_succ _) hlt
      refine bodyPost_ret (v := .agg #[.bool a1, .int .u64 ef, .int .u64 el]) (by simp [results, Tryz.results268, go_sem, q0, q1, q2, hsz]) rfl ⟨by simp [timesG], by simpa [timesG] using k1, k2, k3⟩
  | true =>
    go_wp2_with fail
    rw [HW2.out]
    clear r0 r1 r2 q0 q1 q2 g0 g1 g2
    refine (link_any bp t a b c G el ef W2 HG2.out.1 H64.out.2.2.2 H64.out.2.1 H64.out.1 H64.out.2.2.1).mono ?_
    rintro e w3 ⟨rfl, hg3, hb3, ht3⟩
    have h3 := H3.out.tys ht3
    have HG3 := Lib.hid (show GrAt w3 bp t a b c ⟨G.atoms, linkF G.thn el ef⟩ ∧ Below bp w w3 ∧ Tys w w3 from ⟨hg3, HG2.out.2.1.trans hb3, HG2.out.2.2.trans ht3⟩)
    have HT3 := Lib.hid h3
    obtain ⟨r0, r1, r2, _, _, _⟩ := h3.b0.reads
    obtain ⟨q0, q1, q2, g0, g1, g2⟩ := h3.b1.reads
    obtain ⟨p0, p1, p2, f0, f1, f2⟩ := h3.b2.reads
    have hsz3 : w1.heap.size < w3.heap.size := (Array.getElem?_eq_some_iff.1 h3.b2).1
    clear hg3 hb3 ht3 h3
    cases en with
    | true =>
      go_wp2_with fail
      obtain ⟨k1, k2, k3⟩ := set_done (i := 0) (p := .bool true) HG3.out.1 HT3.out.b2 HG3.out.2.1 HG3.out.2.2 (by omega) hlt
      obtain ⟨j1, j2, j3⟩ := put_done (p := .bool true) (q := .int .u64 ef) (r := .int .u64 el) k1 (HT3.out.b1.set (by omega)) k2 k3 (Nat.le_succ _) hlt
      have hne : w.heap.size + 1 ≠ w1.heap.size := by omega
      refine bodyPost_ret (v := .agg #[.bool true, .int .u64 ef, .int .u64 el]) (by simp [results, Tryz.results268, go_sem, q0, q1, q2]) rfl ⟨by simp [timesG], by simpa [timesG] using j1, j2, j3⟩
    | false =>
      go_wp2_with fail
      obtain ⟨k1, k2, k3⟩ := set_done (i := 0) (p := .bool a1) HG3.out.1 HT3.out.b2 HG3.out.2.1 HG3.out.2.2 (by omega) hlt
      obtain ⟨j1, j2, j3⟩ := put_done (p := .bool a1) (q := .int .u64 ef) (r := .int .u64 el) k1 (HT3.out.b1.set (by omega)) k2 k3 (Nat.le_succ _) hlt
      have hne : w.heap.size + 1 ≠ w1.heap.size := by omega
      refine bodyPost_ret (v := .agg #[.bool a1, .int .u64 ef, .int .u64 el]) (by simp [results, Tryz.results268, go_sem, q0, q1, q2]) rfl ⟨by simp [timesG], by simpa [timesG] using j1, j2, j3⟩
end Go.Proofs.YtddglepimbfdkaaGreatDoor.Pat
end

section
/- Patterns: alternatives are laid. -/

namespace Go.Proofs.YtddglepimbfdkaaGreatDoor.Pat
open Go.RowKit

/-- The walk's state over a list of parts: the rest comes to T. -/
structure LaysAt (w : World) (bp k0 : Nat) (t a b c : Value) (wr : World) (e : Eg) (g : Gr) : Prop where
  gr : GrAt wr bp t a b c g
  res : Box3 wr k0 (.bool false) (.int .u64 0) (.int .u64 0) 321
  all : Box3 wr (k0 + 1) (.bool e.none) (.int .u64 (e.first : Int)) (.int .u64 (e.last : Int)) 321
  below : Below bp w wr
  tys : Tys w wr
  ok : GrOk g
  small : e.first < 2 ^ g.atoms.length ∧ e.last < 2 ^ g.atoms.length
  base : w.heap.size ≤ k0
  far : bp < w.heap.size
def AltLoop (w : World) (bp k0 : Nat) (t a b c : Value) (l : List Pt) (T : Eg × Gr) (n : Nat) (k : Nat) (v : Value) (wr : World) : Prop := ∃ i e g, k + i = n ∧ v = .int .i64 (i : Nat) ∧ LaysAt w bp k0 t a b c wr e g ∧ layAlts (l.drop i) e g = T ∧ g.atoms.length + sizes (l.drop i) ≤ 64
theorem drop_at {l : List Pt} {i : Nat} {x : Pt} (h : l[i]? = some x) : l.drop i = x :: l.drop (i + 1) := by
  obtain ⟨h1, h2⟩ := List.getElem?_eq_some_iff.1 h
  rw [List.drop_eq_getElem_cons h1, h2]
/-- The list's own cells, under the pattern's block. -/
structure ListAt (w : World) (bp : Nat) (o : Option Addr) (vs : List Value) (l : List Pt) : Prop where
  sees : SeesV w (fun k => k < bp) o vs
  len : vs.length = l.length
  kids : ∀ (j : Nat) v x, vs[j]? = some v → l[j]? = some x → Tree w (fun k => k < bp) v x
theorem ListAt.at {w wr : World} {bp : Nat} {o : Option Addr} {vs : List Value} {l : List Pt} (h : ListAt w bp o vs l) (hb : Below bp w wr) {i : Nat} {x : Pt} (hx : l[i]? = some x) : ∃ b off v, o = some ⟨b, off, none⟩ ∧ wr.cell? ⟨b, off + i, none⟩ = some v ∧ Tree wr (fun k => k < bp) v x := by
  have hi := (List.getElem?_eq_some_iff.1 hx).1
  obtain ⟨v, hv⟩ : ∃ v, vs[i]? = some v := ⟨_, List.getElem?_eq_getElem (by rw [h.len]; exact hi)⟩
  rcases h.sees with h0 | ⟨b, off, e, hp, hl, hs⟩
  · rw [h0] at hv; simp at hv
  · exact ⟨b, off, v, e, (hb.cell (p := ⟨b, off + i, none⟩) hp).trans (hs i v hv), (h.kids i v x hv hx).under hb⟩

theorem Box3.put {w : World} {k : Nat} {a b c p q r : Value} {t : TypeId} (h : Box3 w k a b c t) : Box3 (((w.setCell ⟨k, 0, none⟩ p).setCell ⟨k, 1, none⟩ q).setCell ⟨k, 2, none⟩ r) k p q r t := by
  have e1 : (w.setCell ⟨k, 0, none⟩ p).heap[k]? = some (.cells (#[a, b, c].setIfInBounds 0 p) t (0, 0)) := heap_setCell_same w k 0 _ t p h
  have e2 := heap_setCell_same _ k 1 _ t q e1
  exact heap_setCell_same _ k 2 _ t r e2
theorem lays_put {w w1 : World} {bp k0 F1 F2 : Nat} {t a b c x y z : Value} {an : Bool} {G : Gr} (o : Obj) (h : GrAt w1 bp t a b c G ∧ Box3 w1 k0 (.bool false) (.int .u64 0) (.int .u64 0) 321 ∧ Box3 w1 (k0 + 1) x y z 321 ∧ Below bp w w1 ∧ Tys w w1) (hok : GrOk G) (hs : F1 < 2 ^ G.atoms.length ∧ F2 < 2 ^ G.atoms.length) (hb : w.heap.size ≤ k0) (hf : bp < w.heap.size) :
    LaysAt w bp k0 t a b c ((((w1.setCell ⟨k0 + 1, 0, none⟩ (.bool an)).setCell ⟨k0 + 1, 1, none⟩ (.int .u64 (F1 : Int))).setCell ⟨k0 + 1, 2, none⟩ (.int .u64 (F2 : Int))).alloc o) ⟨an, F1, F2⟩ G := by
  obtain ⟨h1, h2, h3, h4, h5⟩ := h
  obtain ⟨k1, k2, k3⟩ := put_alloc (p := .bool an) (q := .int .u64 (F1 : Int)) (r := .int .u64 (F2 : Int)) o h1 h3 h4 h5 (by omega) hf
  have ha : ∀ W : World, Below W.heap.size W (W.alloc o) := fun W => (Below.refl _ _).alloc (Nat.le_refl _) _
  exact ⟨k1, (((h2.set (by omega)).set (by omega)).set (by omega)).below (ha _), h3.put.below (ha _), k2, k3, hok, hs, hb, hf⟩

set_option maxHeartbeats 4000000 in
set_option maxRecDepth 100000 in
theorem layChoice_of (l : List Pt) (hx : ∀ x ∈ l, LayC x) (w : World) (bp : Nat) (t a b c : Value) (g : Gr) (o : Option Addr) (n cap : Nat) (vs : List Value) (h : GrAt w bp t a b c g) (hL : ListAt w bp o vs l) (hn : l.length = n) (hm : n ≤ 2000000) (hs : g.atoms.length + sizes l ≤ 64) (hok : GrOk g) :
    Calls Tryz.prog 266 #[.pointer (some ⟨bp, 1, none⟩), .slice o n cap] w (LayRes w bp t a b c (layAlts l ⟨false, 0, 0⟩ g)) := by
  have hlt := h.lt
  obtain ⟨W, hW⟩ : ∃ W, (w.alloc (Obj.cells #[.bool false, .int .u64 0, .int .u64 0] 321)).alloc (Obj.cells #[.bool false, .int .u64 0, .int .u64 0] 321) = W := ⟨_, rfl⟩
  have hb0 : Below w.heap.size w W := by rw [← hW]; exact ((Below.refl _ _).alloc (Nat.le_refl _) _).alloc (by simp) _
  have hk0 : Box3 W w.heap.size (.bool false) (.int .u64 0) (.int .u64 0) 321 := by
    unfold Box3
    rw [← hW, Below.heap_alloc _ _ _ (by simp)]
    exact Array.getElem?_push_size
  have hk1 : Box3 W (w.heap.size + 1) (.bool false) (.int .u64 0) (.int .u64 0) 321 := by
    unfold Box3
    rw [← hW]
    have := Array.getElem?_push_size (xs := (w.alloc (Obj.cells #[.bool false, .int .u64 0, .int .u64 0] 321)).heap) (x := Obj.cells #[.bool false, .int .u64 0, .int .u64 0] 321)
    rw [World.size_alloc] at this
    exact this
  obtain ⟨T, hT⟩ : ∃ T, layAlts l ⟨false, 0, 0⟩ g = T := ⟨_, rfl⟩
  have HST : AltLoop w bp w.heap.size t a b c l T n n (.int .i64 (0 : Nat)) W :=
    ⟨0, ⟨false, 0, 0⟩, g, rfl, rfl, ⟨h.below hb0, hk0, hk1, hb0.mono (Nat.le_of_lt hlt), Tys.of_below hb0, hok, ⟨Nat.two_pow_pos _, Nat.two_pow_pos _⟩, Nat.le_refl _, hlt⟩, hT, by simpa using hs⟩
  rw [hT]
  have HX := Lib.hid hx
  have HLI := Lib.hid hL
  have HN := Lib.hid hn
  have HW := Lib.hid hW
  clear h hL hn hW hb0 hk0 hk1 hT hs hok hx
  go_enter Tryz.func266, Tryz.ntmps266
  go_wp2_with fail
  rw [HW.out]
  go_loopg [11] n (fun k v wr => AltLoop w bp w.heap.size t a b c l T n k v wr)
  case atStart => exact HST
  case round =>
    clear HST
    obtain ⟨i, e, g2, hgk, rfl, H, hT, hs⟩ := hrel
    have HH := Lib.hid H
    have HGK := Lib.hid hgk
    obtain ⟨q0, q1, q2, g0, g1, gq2⟩ := H.all.reads
    by_cases hin : i < n
    · have i1 : (i : Int) < n := by omega
      obtain ⟨x, hxi⟩ : ∃ x, l[i]? = some x := ⟨_, List.getElem?_eq_getElem (by rw [HN.out]; exact hin)⟩
      obtain ⟨b2, off, v2, rfl, hc, htr⟩ := HLI.out.at H.below hxi
      have hd := drop_at hxi
      rw [hd] at hT hs
      rw [layAlts] at hT
      simp only [sizes] at hs
      have hfok := layF_ok x g2 H.ok
      have HL := Lib.hid (HX.out x (List.mem_of_getElem? hxi) wr bp t a b c v2 g2 H.gr htr (by omega) H.ok)
      obtain ⟨E, G, hp⟩ : ∃ E G, layF x g2 = (E, G) := ⟨_, _, rfl⟩
      rw [hp] at HL hfok hT
      obtain ⟨en, ef, el⟩ := E
      obtain ⟨o1, o2, o3, o4⟩ := hfok
      dsimp only at o1 o2 o3 o4 hT
      obtain ⟨an, af, al⟩ := e
      have hsm := H.small
      dsimp only at hsm q0 q1 q2
      have h64 : ∀ m : Nat, m < 2 ^ G.atoms.length → m < 2 ^ 64 := fun m hm => pow_mono hm (by omega)
      rw [← o2] at o3 o4
      have ha1 : af < 2 ^ G.atoms.length := pow_mono hsm.1 (by omega)
      have ha2 : al < 2 ^ G.atoms.length := pow_mono hsm.2 (by omega)
      have hor1 := or_at (h64 _ ha1) (h64 _ o3)
      have hor2 := or_at (h64 _ ha2) (h64 _ o4)
      have HS := Lib.hid (show af ||| ef < 2 ^ G.atoms.length ∧ al ||| el < 2 ^ G.atoms.length from ⟨pow_or ha1 o3, pow_or ha2 o4⟩)
      obtain ⟨F1, hF1⟩ : ∃ F, af ||| ef = F := ⟨_, rfl⟩
      obtain ⟨F2, hF2⟩ : ∃ F, al ||| el = F := ⟨_, rfl⟩
      rw [hF1] at hor1 HS
      rw [hF2] at hor2 HS
      have HT := Lib.hid (show layAlts (l.drop (i + 1)) ⟨an || en, F1, F2⟩ G = T by rw [← hF1, ← hF2]; exact hT)
      have HSZ := Lib.hid (show G.atoms.length + sizes (l.drop (i + 1)) ≤ 64 by omega)
      have HOK := Lib.hid o1
      obtain ⟨tv, uv, rfl⟩ := htr.iface
      clear hgk H hT hs hd hxi htr hp o1 o2 o3 o4 hsm h64 ha1 ha2 hF1 hF2
      go_wp2_with fail
      refine HL.out.mono ?_
      rintro e w1 ⟨rfl, hg1, hb1, ht1⟩
      clear q0 q1 q2 g0 g1 gq2 hc
      have hK0 := HH.out.res.tys ht1 (by decide) (by decide) (by decide)
      have hK1 := HH.out.all.tys ht1 (by decide) (by decide) (by decide)
      have HG1 := Lib.hid (show GrAt w1 bp t a b c G ∧ Box3 w1 w.heap.size (.bool false) (.int .u64 0) (.int .u64 0) 321 ∧ Box3 w1 (w.heap.size + 1) (.bool an) (.int .u64 (af : Int)) (.int .u64 (al : Int)) 321 ∧ Below bp w w1 ∧ Tys w w1 from ⟨hg1, hK0, hK1, HH.out.below.trans hb1, HH.out.tys.trans ht1⟩)
      obtain ⟨q0, q1, q2, g0, g1, gq2⟩ := hK1.reads
      have hsz : w.heap.size + 1 < w1.heap.size := (Array.getElem?_eq_some_iff.1 hK1).1
      clear hg1 hb1 ht1 hK0 hK1
      cases an with
      | true =>
        have HT2 := Lib.hid (show layAlts (l.drop (i + 1)) ⟨true, F1, F2⟩ G = T from HT.out)
        go_wp2_with fail
        go_roundg (gk - 1)
        case measure => have := HGK.out; omega
        case rel => exact ⟨i + 1, ⟨true, F1, F2⟩, G, by have := HGK.out; omega, by go_num, lays_put _ HG1.out HOK.out HS.out (Nat.le_refl _) hlt, HT2.out, HSZ.out⟩
      | false =>
        have HT2 := Lib.hid (show layAlts (l.drop (i + 1)) ⟨en, F1, F2⟩ G = T from HT.out)
        go_wp2_with fail
        go_roundg (gk - 1)
        case measure => have := HGK.out; omega
        case rel => exact ⟨i + 1, ⟨en, F1, F2⟩, G, by have := HGK.out; omega, by go_num, lays_put _ HG1.out HOK.out HS.out (Nat.le_refl _) hlt, HT2.out, HSZ.out⟩
    · have i1 : (n : Int) ≤ i := by omega
      have hdn : l.drop i = [] := List.drop_eq_nil_of_le (by rw [HN.out]; omega)
      have HT2 := Lib.hid (show T = (e, g2) by rw [← hT, hdn]; rfl)
      obtain ⟨an, af, al⟩ := e
      dsimp only at q0 q1 q2
      obtain ⟨x0, x1, x2, y0, y1, y2⟩ := H.res.reads
      obtain ⟨k1, k2, k3⟩ := put_done (p := .bool an) (q := .int .u64 (af : Int)) (r := .int .u64 (al : Int)) H.gr H.res H.below H.tys H.base hlt
      have HK := Lib.hid (And.intro k1 (And.intro k2 k3))
      clear hgk H hT hs hdn k1 k2 k3
      go_wp2_with fail
      refine bodyPost_ret (v := .agg #[.bool an, .int .u64 af, .int .u64 al]) (by simp [results, Tryz.results266, go_sem, x0, x1, x2]) rfl ?_
      rw [HT2.out]
      exact ⟨rfl, HK.out.1, HK.out.2.1, HK.out.2.2⟩
end Go.Proofs.YtddglepimbfdkaaGreatDoor.Pat
end

section
/- Patterns: parts that stand one behind the other are laid. -/

namespace Go.Proofs.YtddglepimbfdkaaGreatDoor.Pat
open Go.RowKit

/-- The walk's state between two stores. -/
structure LaysW (w : World) (bp k0 : Nat) (t a b c : Value) (wr : World) (x y z : Value) (g : Gr) : Prop where
  gr : GrAt wr bp t a b c g
  res : Box3 wr k0 (.bool false) (.int .u64 0) (.int .u64 0) 321
  all : Box3 wr (k0 + 1) x y z 321
  below : Below bp w wr
  tys : Tys w wr
  base : w.heap.size ≤ k0
  far : bp < w.heap.size
theorem LaysW.step {w wr : World} {bp k0 : Nat} {t a b c x y z x' y' z' u : Value} {g : Gr} (i : Nat) (h : LaysW w bp k0 t a b c wr x y z g) (he : #[x, y, z].setIfInBounds i u = #[x', y', z']) : LaysW w bp k0 t a b c (wr.setCell ⟨k0 + 1, i, none⟩ u) x' y' z' g := by
  have hb := h.base
  have hf := h.far
  refine ⟨h.gr.setBox h.all (by decide) (by decide) (by omega), h.res.set (by omega), ?_, h.below.setCell (by show bp ≤ k0 + 1; omega) _, h.tys.setNew (by omega) _ _, hb, hf⟩
  have := heap_setCell_same wr (k0 + 1) i _ 321 u h.all
  rw [he] at this
  exact this
theorem LaysW.done {w wr : World} {bp k0 : Nat} {t a b c : Value} {e : Eg} {g : Gr} (h : LaysW w bp k0 t a b c wr (.bool e.none) (.int .u64 (e.first : Int)) (.int .u64 (e.last : Int)) g) (hok : GrOk g) (hs : e.first < 2 ^ g.atoms.length ∧ e.last < 2 ^ g.atoms.length) : LaysAt w bp k0 t a b c wr e g :=
  ⟨h.gr, h.res, h.all, h.below, h.tys, hok, hs, h.base, h.far⟩
def SeqLoop (w : World) (bp k0 : Nat) (t a b c : Value) (l : List Pt) (T : Eg × Gr) (n : Nat) (k : Nat) (v : Value) (wr : World) : Prop := ∃ i e g, k + i = n ∧ v = .int .i64 (i : Nat) ∧ LaysAt w bp k0 t a b c wr e g ∧ laySeq (l.drop i) e g = T ∧ g.atoms.length + sizes (l.drop i) ≤ 64

set_option maxHeartbeats 4000000 in
set_option maxRecDepth 100000 in
theorem layChain_of (l : List Pt) (hx : ∀ x ∈ l, LayC x) (w : World) (bp : Nat) (t a b c : Value) (g : Gr) (o : Option Addr) (n cap : Nat) (vs : List Value) (h : GrAt w bp t a b c g) (hL : ListAt w bp o vs l) (hn : l.length = n) (hm : n ≤ 2000000) (hs : g.atoms.length + sizes l ≤ 64) (hok : GrOk g) :
    Calls Tryz.prog 267 #[.pointer (some ⟨bp, 1, none⟩), .slice o n cap] w (LayRes w bp t a b c (laySeq l ⟨true, 0, 0⟩ g)) := by
  have hlt := h.lt
  obtain ⟨W, hW⟩ : ∃ W, (w.alloc (Obj.cells #[.bool false, .int .u64 0, .int .u64 0] 321)).alloc (Obj.cells #[.bool true, .int .u64 0, .int .u64 0] 321) = W := ⟨_, rfl⟩
  have hb0 : Below w.heap.size w W := by rw [← hW]; exact ((Below.refl _ _).alloc (Nat.le_refl _) _).alloc (by simp) _
  have hk0 : Box3 W w.heap.size (.bool false) (.int .u64 0) (.int .u64 0) 321 := by
    unfold Box3
    rw [← hW, Below.heap_alloc _ _ _ (by simp)]
    exact Array.getElem?_push_size
  have hk1 : Box3 W (w.heap.size + 1) (.bool true) (.int .u64 0) (.int .u64 0) 321 := by
    unfold Box3
    rw [← hW]
    have := Array.getElem?_push_size (xs := (w.alloc (Obj.cells #[.bool false, .int .u64 0, .int .u64 0] 321)).heap) (x := Obj.cells #[.bool true, .int .u64 0, .int .u64 0] 321)
    rw [World.size_alloc] at this
    exact this
  obtain ⟨T, hT⟩ : ∃ T, laySeq l ⟨true, 0, 0⟩ g = T := ⟨_, rfl⟩
  have HST : SeqLoop w bp w.heap.size t a b c l T n n (.int .i64 (0 : Nat)) W :=
    ⟨0, ⟨true, 0, 0⟩, g, rfl, rfl, ⟨h.below hb0, hk0, hk1, hb0.mono (Nat.le_of_lt hlt), Tys.of_below hb0, hok, ⟨Nat.two_pow_pos _, Nat.two_pow_pos _⟩, Nat.le_refl _, hlt⟩, hT, by simpa using hs⟩
  rw [hT]
  have HX := Lib.hid hx
  have HLI := Lib.hid hL
  have HN := Lib.hid hn
  have HW := Lib.hid hW
  clear h hL hn hW hb0 hk0 hk1 hT hs hok hx
  go_enter Tryz.func267, Tryz.ntmps267
  go_wp2_with fail
  rw [HW.out]
  go_loopg [12] n (fun k v wr => SeqLoop w bp w.heap.size t a b c l T n k v wr)
  case atStart => exact HST
  case round =>
    clear HST
    obtain ⟨i, e, g2, hgk, rfl, H, hT, hs⟩ := hrel
    have HH := Lib.hid H
    have HGK := Lib.hid hgk
    obtain ⟨q0, q1, q2, g0, g1, gq2⟩ := H.all.reads
    by_cases hin : i < n
    · have i1 : (i : Int) < n := by omega
      obtain ⟨x, hxi⟩ : ∃ x, l[i]? = some x := ⟨_, List.getElem?_eq_getElem (by rw [HN.out]; exact hin)⟩
      obtain ⟨b2, off, v2, rfl, hc, htr⟩ := HLI.out.at H.below hxi
      have hd := drop_at hxi
      rw [hd] at hT hs
      rw [laySeq] at hT
      simp only [sizes] at hs
      have hfok := layF_ok x g2 H.ok
      have HL := Lib.hid (HX.out x (List.mem_of_getElem? hxi) wr bp t a b c v2 g2 H.gr htr (by omega) H.ok)
      obtain ⟨E, G, hp⟩ : ∃ E G, layF x g2 = (E, G) := ⟨_, _, rfl⟩
      rw [hp] at HL hfok hT
      obtain ⟨en, ef, el⟩ := E
      obtain ⟨o1, o2, o3, o4⟩ := hfok
      dsimp only at o1 o2 o3 o4 hT
      obtain ⟨an, af, al⟩ := e
      have hsm := H.small
      dsimp only at hsm q0 q1 q2 hT
      have h64 : ∀ m : Nat, m < 2 ^ G.atoms.length → m < 2 ^ 64 := fun m hm => pow_mono hm (by omega)
      rw [← o2] at o3 o4
      have ha1 : af < 2 ^ G.atoms.length := pow_mono hsm.1 (by omega)
      have ha2 : al < 2 ^ G.atoms.length := pow_mono hsm.2 (by omega)
      have hor1 := or_at (h64 _ ha1) (h64 _ o3)
      have hor2 := or_at (h64 _ ha2) (h64 _ o4)
      have HLK := Lib.hid (fun (W2 : World) (h2 : GrAt W2 bp t a b c G) => link_any bp t a b c G al ef W2 h2 (by rw [o1.len]; omega) (h64 _ ha2) (h64 _ o3) (fun m hm => h64 _ (o1.small m hm)))
      have HG3 := Lib.hid (show GrOk ⟨G.atoms, linkF G.thn al ef⟩ from ⟨by rw [linkF_len]; exact o1.len, linkF_small o1.small o3⟩)
      have HS := Lib.hid (show (af ||| ef < 2 ^ G.atoms.length ∧ al ||| el < 2 ^ G.atoms.length) ∧ af < 2 ^ G.atoms.length ∧ el < 2 ^ G.atoms.length from ⟨⟨pow_or ha1 o3, pow_or ha2 o4⟩, ha1, o4⟩)
      obtain ⟨F1, hF1⟩ : ∃ F, af ||| ef = F := ⟨_, rfl⟩
      obtain ⟨F2, hF2⟩ : ∃ F, al ||| el = F := ⟨_, rfl⟩
      rw [hF1] at hor1 HS
      rw [hF2] at hor2 HS
      have HT := Lib.hid (show laySeq (l.drop (i + 1)) ⟨an && en, if an then F1 else af, if en then F2 else el⟩ ⟨G.atoms, linkF G.thn al ef⟩ = T by rw [← hF1, ← hF2]; exact hT)
      have HSZ := Lib.hid (show G.atoms.length + sizes (l.drop (i + 1)) ≤ 64 by omega)
      obtain ⟨tv, uv, rfl⟩ := htr.iface
      clear hgk H hT hs hd hxi htr hp o1 o2 o3 o4 hsm h64 ha1 ha2 hF1 hF2
      go_wp2_with fail
      refine HL.out.mono ?_
      rintro e w1 ⟨rfl, hg1, hb1, ht1⟩
      clear q0 q1 q2 g0 g1 gq2 hc
      have hK0 := HH.out.res.tys ht1 (by decide) (by decide) (by decide)
      have hK1 := HH.out.all.tys ht1 (by decide) (by decide) (by decide)
      obtain ⟨q0, q1, q2, g0, g1, gq2⟩ := hK1.reads
      have hsz : w.heap.size + 1 < w1.heap.size := (Array.getElem?_eq_some_iff.1 hK1).1
      have hsz0 : w.heap.size < w1.heap.size := by omega
      obtain ⟨W2, hW2⟩ : ∃ W2, w1.alloc (Obj.cells #[.bool en, .int .u64 (ef : Int), .int .u64 (el : Int)] 321) = W2 := ⟨_, rfl⟩
      have hb2 : Below w1.heap.size w1 W2 := by rw [← hW2]; exact (Below.refl _ _).alloc (Nat.le_refl _) _
      have H2 := Lib.hid (show LaysW w bp w.heap.size t a b c W2 (.bool an) (.int .u64 (af : Int)) (.int .u64 (al : Int)) G ∧ Box3 W2 w1.heap.size (.bool en) (.int .u64 (ef : Int)) (.int .u64 (el : Int)) 321 from
        ⟨⟨hg1.below hb2, hK0.below hb2, hK1.below hb2, (HH.out.below.trans hb1).trans (hb2.mono (by omega)), (HH.out.tys.trans ht1).trans (Tys.of_below hb2), Nat.le_refl _, hlt⟩, by unfold Box3; rw [← hW2]; exact Array.getElem?_push_size⟩)
      have HW2 := Lib.hid hW2
      clear hg1 hb1 ht1 hK0 hK1 hW2 hb2
      go_wp2_with fail
      rw [HW2.out]
      clear q0 q1 q2 g0 g1 gq2
      refine (HLK.out W2 H2.out.1.gr).mono ?_
      rintro e w3 ⟨rfl, hg3, hb3, ht3⟩
      have H4 := Lib.hid (show LaysW w bp w.heap.size t a b c w3 (.bool an) (.int .u64 (af : Int)) (.int .u64 (al : Int)) ⟨G.atoms, linkF G.thn al ef⟩ from
        ⟨hg3, H2.out.1.res.tys ht3 (by decide) (by decide) (by decide), H2.out.1.all.tys ht3 (by decide) (by decide) (by decide), H2.out.1.below.trans hb3, H2.out.1.tys.trans ht3, Nat.le_refl _, hlt⟩)
      have hk2 := H2.out.2.tys ht3 (by decide) (by decide) (by decide)
      obtain ⟨q0, q1, q2, g0, g1, gq2⟩ := H4.out.all.reads
      obtain ⟨p0, p1, p2, _, _, _⟩ := hk2.reads
      have hne : w.heap.size + 1 ≠ w1.heap.size := by omega
      clear hg3 hb3 ht3 hk2
      cases an with
      | true =>
        cases en with
        | true =>
          have HT2 := Lib.hid (show laySeq (l.drop (i + 1)) ⟨true, F1, F2⟩ ⟨G.atoms, linkF G.thn al ef⟩ = T from HT.out)
          go_wp2_with fail
          go_roundg (gk - 1)
          case measure => have := HGK.out; omega
          case rel => exact ⟨i + 1, ⟨true, F1, F2⟩, ⟨G.atoms, linkF G.thn al ef⟩, by have := HGK.out; omega, by go_num, LaysW.done (e := ⟨true, F1, F2⟩) (((H4.out.step (x' := .bool true) (y' := .int .u64 (F1 : Int)) (z' := .int .u64 (al : Int)) 1 rfl).step (x' := .bool true) (y' := .int .u64 (F1 : Int)) (z' := .int .u64 (F2 : Int)) 2 rfl).step (x' := .bool true) (y' := .int .u64 (F1 : Int)) (z' := .int .u64 (F2 : Int)) 0 rfl) HG3.out ⟨HS.out.1.1, HS.out.1.2⟩, HT2.out, HSZ.out⟩
        | false =>
          have HT2 := Lib.hid (show laySeq (l.drop (i + 1)) ⟨false, F1, el⟩ ⟨G.atoms, linkF G.thn al ef⟩ = T from HT.out)
          go_wp2_with fail
          go_roundg (gk - 1)
          case measure => have := HGK.out; omega
          case rel => exact ⟨i + 1, ⟨false, F1, el⟩, ⟨G.atoms, linkF G.thn al ef⟩, by have := HGK.out; omega, by go_num, LaysW.done (e := ⟨false, F1, el⟩) (((H4.out.step (x' := .bool true) (y' := .int .u64 (F1 : Int)) (z' := .int .u64 (al : Int)) 1 rfl).step (x' := .bool true) (y' := .int .u64 (F1 : Int)) (z' := .int .u64 (el : Int)) 2 rfl).step (x' := .bool false) (y' := .int .u64 (F1 : Int)) (z' := .int .u64 (el : Int)) 0 rfl) HG3.out ⟨HS.out.1.1, HS.out.2.2⟩, HT2.out, HSZ.out⟩
      | false =>
        cases en with
        | true =>
          have HT2 := Lib.hid (show laySeq (l.drop (i + 1)) ⟨false, af, F2⟩ ⟨G.atoms, linkF G.thn al ef⟩ = T from HT.out)
          go_wp2_with fail
          go_roundg (gk - 1)
          case measure => have := HGK.out; omega
          case rel => exact ⟨i + 1, ⟨false, af, F2⟩, ⟨G.atoms, linkF G.thn al ef⟩, by have := HGK.out; omega, by go_num, LaysW.done (e := ⟨false, af, F2⟩) ((H4.out.step (x' := .bool false) (y' := .int .u64 (af : Int)) (z' := .int .u64 (F2 : Int)) 2 rfl).step (x' := .bool false) (y' := .int .u64 (af : Int)) (z' := .int .u64 (F2 : Int)) 0 rfl) HG3.out ⟨HS.out.2.1, HS.out.1.2⟩, HT2.out, HSZ.out⟩
        | false =>
          have HT2 := Lib.hid (show laySeq (l.drop (i + 1)) ⟨false, af, el⟩ ⟨G.atoms, linkF G.thn al ef⟩ = T from HT.out)
          go_wp2_with fail
          go_roundg (gk - 1)
          case measure => have := HGK.out; omega
          case rel => exact ⟨i + 1, ⟨false, af, el⟩, ⟨G.atoms, linkF G.thn al ef⟩, by have := HGK.out; omega, by go_num, LaysW.done (e := ⟨false, af, el⟩) ((H4.out.step (x' := .bool false) (y' := .int .u64 (af : Int)) (z' := .int .u64 (el : Int)) 2 rfl).step (x' := .bool false) (y' := .int .u64 (af : Int)) (z' := .int .u64 (el : Int)) 0 rfl) HG3.out ⟨HS.out.2.1, HS.out.2.2⟩, HT2.out, HSZ.out⟩
    · have i1 : (n : Int) ≤ i := by omega
      have hdn : l.drop i = [] := List.drop_eq_nil_of_le (by rw [HN.out]; omega)
      have HT2 := Lib.hid (show T = (e, g2) by rw [← hT, hdn]; rfl)
      obtain ⟨an, af, al⟩ := e
      dsimp only at q0 q1 q2
      obtain ⟨x0, x1, x2, y0, y1, y2⟩ := H.res.reads
      obtain ⟨k1, k2, k3⟩ := put_done (p := .bool an) (q := .int .u64 (af : Int)) (r := .int .u64 (al : Int)) H.gr H.res H.below H.tys H.base hlt
      have HK := Lib.hid (And.intro k1 (And.intro k2 k3))
      clear hgk H hT hs hdn k1 k2 k3
      go_wp2_with fail
      refine bodyPost_ret (v := .agg #[.bool an, .int .u64 af, .int .u64 al]) (by simp [results, Tryz.results267, go_sem, x0, x1, x2]) rfl ?_
      rw [HT2.out]
      exact ⟨rfl, HK.out.1, HK.out.2.1, HK.out.2.2⟩
end Go.Proofs.YtddglepimbfdkaaGreatDoor.Pat
end

section
/- Patterns: any part is laid. -/

namespace Go.Proofs.YtddglepimbfdkaaGreatDoor.Pat
open Go.RowKit

theorem is62 (v : Value) (W : World) : (Instr.typeAssert (.iface 332 v) 312 332 true).run Tryz.prog W = .ok (.tuple #[v, .bool true]) W := by kernel_rfl
theorem is65 (v : Value) (W : World) : (Instr.typeAssert (.iface 335 v) 312 335 true).run Tryz.prog W = .ok (.tuple #[v, .bool true]) W := by kernel_rfl
theorem is69 (v : Value) (W : World) : (Instr.typeAssert (.iface 339 v) 312 339 true).run Tryz.prog W = .ok (.tuple #[v, .bool true]) W := by kernel_rfl
theorem no62_65 (v : Value) (W : World) : (Instr.typeAssert (.iface 335 v) 312 332 true).run Tryz.prog W = .ok (.tuple #[.slice none 0 0, .bool false]) W := by kernel_rfl
theorem no62_69 (v : Value) (W : World) : (Instr.typeAssert (.iface 339 v) 312 332 true).run Tryz.prog W = .ok (.tuple #[.slice none 0 0, .bool false]) W := by kernel_rfl
theorem no62_80 (v : Value) (W : World) : (Instr.typeAssert (.iface 350 v) 312 332 true).run Tryz.prog W = .ok (.tuple #[.slice none 0 0, .bool false]) W := by kernel_rfl
theorem no62_84 (v : Value) (W : World) : (Instr.typeAssert (.iface 354 v) 312 332 true).run Tryz.prog W = .ok (.tuple #[.slice none 0 0, .bool false]) W := by kernel_rfl
theorem no62_87 (v : Value) (W : World) : (Instr.typeAssert (.iface 349 v) 312 332 true).run Tryz.prog W = .ok (.tuple #[.slice none 0 0, .bool false]) W := by kernel_rfl
theorem no65_69 (v : Value) (W : World) : (Instr.typeAssert (.iface 339 v) 312 335 true).run Tryz.prog W = .ok (.tuple #[.slice none 0 0, .bool false]) W := by kernel_rfl
theorem no65_80 (v : Value) (W : World) : (Instr.typeAssert (.iface 350 v) 312 335 true).run Tryz.prog W = .ok (.tuple #[.slice none 0 0, .bool false]) W := by kernel_rfl
theorem no65_84 (v : Value) (W : World) : (Instr.typeAssert (.iface 354 v) 312 335 true).run Tryz.prog W = .ok (.tuple #[.slice none 0 0, .bool false]) W := by kernel_rfl
theorem no65_87 (v : Value) (W : World) : (Instr.typeAssert (.iface 349 v) 312 335 true).run Tryz.prog W = .ok (.tuple #[.slice none 0 0, .bool false]) W := by kernel_rfl
theorem no69_80 (v : Value) (W : World) : (Instr.typeAssert (.iface 350 v) 312 339 true).run Tryz.prog W = .ok (.tuple #[.agg #[.nilIface, .bool false, .bool false], .bool false]) W := by kernel_rfl
theorem no69_84 (v : Value) (W : World) : (Instr.typeAssert (.iface 354 v) 312 339 true).run Tryz.prog W = .ok (.tuple #[.agg #[.nilIface, .bool false, .bool false], .bool false]) W := by kernel_rfl
theorem no69_87 (v : Value) (W : World) : (Instr.typeAssert (.iface 349 v) 312 339 true).run Tryz.prog W = .ok (.tuple #[.agg #[.nilIface, .bool false, .bool false], .bool false]) W := by kernel_rfl

/-- A call whose result is stored in a box of the call's own, ahead of the return. -/
theorem LayRes.put {w W w1 : World} {bp : Nat} {t a b c p q r : Value} {T : Eg × Gr} {e : Ending} (h : LayRes W bp t a b c T e w1) (hW : Below w.heap.size w W) (hk : Box3 W w.heap.size (.bool false) (.int .u64 0) (.int .u64 0) 321) (hlt : bp < w.heap.size) :
    GrAt (((w1.setCell ⟨w.heap.size, 0, none⟩ p).setCell ⟨w.heap.size, 1, none⟩ q).setCell ⟨w.heap.size, 2, none⟩ r) bp t a b c T.2 ∧ Below bp w (((w1.setCell ⟨w.heap.size, 0, none⟩ p).setCell ⟨w.heap.size, 1, none⟩ q).setCell ⟨w.heap.size, 2, none⟩ r) ∧ Tys w (((w1.setCell ⟨w.heap.size, 0, none⟩ p).setCell ⟨w.heap.size, 1, none⟩ q).setCell ⟨w.heap.size, 2, none⟩ r) :=
  put_done h.2.1 (hk.tys h.2.2.2 (by decide) (by decide) (by decide)) ((hW.mono (Nat.le_of_lt hlt)).trans h.2.2.1) ((Tys.of_below hW).trans h.2.2.2) (Nat.le_refl _) hlt

set_option maxHeartbeats 4000000 in
set_option maxRecDepth 100000 in
theorem lay_choice (l : List Pt) (hx : ∀ x ∈ l, LayC x) : LayC (.choice l) := by
  intro w bp t a b c v g h ht hs hok
  have hlt := h.lt
  cases ht with
  | choice o n cap vs _ hn hl hm hsee hkids =>
    have hb0 : Below w.heap.size w (w.alloc (Obj.cells #[.bool false, .int .u64 0, .int .u64 0] 321)) := (Below.refl _ _).alloc (Nat.le_refl _) _
    have hk0 : Box3 (w.alloc (Obj.cells #[.bool false, .int .u64 0, .int .u64 0] 321)) w.heap.size (.bool false) (.int .u64 0) (.int .u64 0) 321 := Array.getElem?_push_size
    have hL : ListAt w bp o vs l := ⟨hsee, by omega, hkids⟩
    have hL2 : ListAt (w.alloc (Obj.cells #[.bool false, .int .u64 0, .int .u64 0] 321)) bp o vs l := ⟨hsee.keep fun k hp hl => ⟨hb0.block k hl, hp⟩, hL.len, fun j u x hu hx => (hkids j u x hu hx).stays hb0⟩
    have HC := Lib.hid (layChoice_of l hx _ bp t a b c g o n cap vs (h.below hb0) hL2 hl hm hs hok)
    rw [layF]
    obtain ⟨T, hT⟩ : ∃ T, layAlts l ⟨false, 0, 0⟩ g = T := ⟨_, rfl⟩
    rw [hT] at HC ⊢
    have HK := Lib.hid (And.intro hb0 hk0)
    clear h hsee hkids hL hL2 hb0 hk0 hT hs hok hx
    have i1 := is62
    go_enter Tryz.func262, Tryz.ntmps262
    go_wp2_with fail
    refine HC.out.mono ?_
    intro e w1 H1
    have h1 := H1
    obtain ⟨rfl, _, _, ht1⟩ := h1
    have hbx := HK.out.2.tys ht1 (by decide) (by decide) (by decide)
    obtain ⟨x0, x1, x2, y0, y1, y2⟩ := hbx.reads
    have HP := Lib.hid (fun p q r => LayRes.put (p := p) (q := q) (r := r) H1 HK.out.1 HK.out.2 hlt)
    clear H1 ht1 hbx HC
    go_wp2_with fail
    obtain ⟨k1, k2, k3⟩ := HP.out (.bool T.1.none) (.int .u64 (T.1.first : Int)) (.int .u64 (T.1.last : Int))
    refine bodyPost_ret (v := .agg #[.bool T.1.none, .int .u64 T.1.first, .int .u64 T.1.last]) (by simp [results, Tryz.results262, go_sem, x0, x1, x2]) rfl ⟨rfl, k1, k2, k3⟩
set_option maxHeartbeats 4000000 in
set_option maxRecDepth 100000 in
theorem lay_chain (l : List Pt) (hx : ∀ x ∈ l, LayC x) : LayC (.chain l) := by
  intro w bp t a b c v g h ht hs hok
  have hlt := h.lt
  cases ht with
  | chain o n cap vs _ hn hl hm hsee hkids =>
    have hb0 : Below w.heap.size w (w.alloc (Obj.cells #[.bool false, .int .u64 0, .int .u64 0] 321)) := (Below.refl _ _).alloc (Nat.le_refl _) _
    have hk0 : Box3 (w.alloc (Obj.cells #[.bool false, .int .u64 0, .int .u64 0] 321)) w.heap.size (.bool false) (.int .u64 0) (.int .u64 0) 321 := Array.getElem?_push_size
    have hL : ListAt w bp o vs l := ⟨hsee, by omega, hkids⟩
    have hL2 : ListAt (w.alloc (Obj.cells #[.bool false, .int .u64 0, .int .u64 0] 321)) bp o vs l := ⟨hsee.keep fun k hp hl => ⟨hb0.block k hl, hp⟩, hL.len, fun j u x hu hx => (hkids j u x hu hx).stays hb0⟩
    have HC := Lib.hid (layChain_of l hx _ bp t a b c g o n cap vs (h.below hb0) hL2 hl hm hs hok)
    rw [layF]
    obtain ⟨T, hT⟩ : ∃ T, laySeq l ⟨true, 0, 0⟩ g = T := ⟨_, rfl⟩
    rw [hT] at HC ⊢
    have HK := Lib.hid (And.intro hb0 hk0)
    clear h hsee hkids hL hL2 hb0 hk0 hT hs hok hx
    have i1 := no62_65
    have i2 := is65
    go_enter Tryz.func262, Tryz.ntmps262
    go_wp2_with fail
    refine HC.out.mono ?_
    intro e w1 H1
    have h1 := H1
    obtain ⟨rfl, _, _, ht1⟩ := h1
    have hbx := HK.out.2.tys ht1 (by decide) (by decide) (by decide)
    obtain ⟨x0, x1, x2, y0, y1, y2⟩ := hbx.reads
    have HP := Lib.hid (fun p q r => LayRes.put (p := p) (q := q) (r := r) H1 HK.out.1 HK.out.2 hlt)
    clear H1 ht1 hbx HC
    go_wp2_with fail
    obtain ⟨k1, k2, k3⟩ := HP.out (.bool T.1.none) (.int .u64 (T.1.first : Int)) (.int .u64 (T.1.last : Int))
    refine bodyPost_ret (v := .agg #[.bool T.1.none, .int .u64 T.1.first, .int .u64 T.1.last]) (by simp [results, Tryz.results262, go_sem, x0, x1, x2]) rfl ⟨rfl, k1, k2, k3⟩
set_option maxHeartbeats 4000000 in
set_option maxRecDepth 100000 in
theorem lay_times (x : Pt) (a1 b1 : Bool) (hx : LayC x) : LayC (.times x a1 b1) := by
  intro w bp t a b c v g h ht hs hok
  have hlt := h.lt
  cases ht with
  | times v2 _ _ _ hv =>
    obtain ⟨tv, uv, rfl⟩ := hv.iface
    obtain ⟨W, hW⟩ : ∃ W, (w.alloc (Obj.cells #[.bool false, .int .u64 0, .int .u64 0] 321)).alloc (Obj.cells #[.iface tv uv, .bool a1, .bool b1] 339) = W := ⟨_, rfl⟩
    have hb0 : Below w.heap.size w W := by rw [← hW]; exact ((Below.refl _ _).alloc (Nat.le_refl _) _).alloc (by simp) _
    have hk0 : Box3 W w.heap.size (.bool false) (.int .u64 0) (.int .u64 0) 321 := by
      unfold Box3
      rw [← hW, Below.heap_alloc _ _ _ (by simp)]
      exact Array.getElem?_push_size
    have HC := Lib.hid (layTimes_of x hx a1 b1 W bp t a b c (.iface tv uv) g (h.below hb0) (hv.stays hb0) hs hok)
    rw [layF]
    obtain ⟨T, hT⟩ : ∃ T, timesG a1 b1 (layF x g) = T := ⟨_, rfl⟩
    rw [hT] at HC ⊢
    have HK := Lib.hid (And.intro hb0 hk0)
    have HW := Lib.hid hW
    clear h hv hb0 hk0 hT hs hok hx hW
    have i1 := no62_69
    have i2 := no65_69
    have i3 := is69
    go_enter Tryz.func262, Tryz.ntmps262
    go_wp2_with fail
    rw [HW.out]
    refine HC.out.mono ?_
    intro e w1 H1
    have h1 := H1
    obtain ⟨rfl, _, _, ht1⟩ := h1
    have hbx := HK.out.2.tys ht1 (by decide) (by decide) (by decide)
    obtain ⟨x0, x1, x2, y0, y1, y2⟩ := hbx.reads
    have HP := Lib.hid (fun p q r => LayRes.put (p := p) (q := q) (r := r) H1 HK.out.1 HK.out.2 hlt)
    clear H1 ht1 hbx HC
    go_wp2_with fail
    obtain ⟨k1, k2, k3⟩ := HP.out (.bool T.1.none) (.int .u64 (T.1.first : Int)) (.int .u64 (T.1.last : Int))
    refine bodyPost_ret (v := .agg #[.bool T.1.none, .int .u64 T.1.first, .int .u64 T.1.last]) (by simp [results, Tryz.results262, go_sem, x0, x1, x2]) rfl ⟨rfl, k1, k2, k3⟩
/-- An atom, by the number of its kind. -/
def AtomV (ty : TypeId) : Prop := (∀ (v : Value) (W : World), (Instr.typeAssert (.iface ty v) 312 332 true).run Tryz.prog W = .ok (.tuple #[.slice none 0 0, .bool false]) W) ∧ (∀ (v : Value) (W : World), (Instr.typeAssert (.iface ty v) 312 335 true).run Tryz.prog W = .ok (.tuple #[.slice none 0 0, .bool false]) W) ∧ ∀ (v : Value) (W : World), (Instr.typeAssert (.iface ty v) 312 339 true).run Tryz.prog W = .ok (.tuple #[.agg #[.nilIface, .bool false, .bool false], .bool false]) W
set_option maxHeartbeats 4000000 in
set_option maxRecDepth 100000 in
theorem lay_atom (x : Pt) (hx1 : x.size = 1) (hf : ∀ g, layF x g = layAtomF x g) (ty : TypeId) (u : Value) (hA : AtomV ty) (w : World) (bp : Nat) (t a b c : Value) (g : Gr) (h : GrAt w bp t a b c g) (ht : Tree w (fun k => k < bp) (.iface ty u) x) (hs : g.atoms.length + x.size ≤ 64) (hok : GrOk g) :
    Calls Tryz.prog 262 #[.pointer (some ⟨bp, 1, none⟩), .iface ty u] w (LayRes w bp t a b c (layF x g)) := by
  have hlt := h.lt
  obtain ⟨W, hW⟩ : ∃ W, (w.alloc (Obj.cells #[.bool false, .int .u64 0, .int .u64 0] 321)).alloc (Obj.cells #[.nilIface, .bool false, .bool false] 339) = W := ⟨_, rfl⟩
  have hb0 : Below w.heap.size w W := by rw [← hW]; exact ((Below.refl _ _).alloc (Nat.le_refl _) _).alloc (by simp) _
  have hk0 : Box3 W w.heap.size (.bool false) (.int .u64 0) (.int .u64 0) 321 := by
    unfold Box3
    rw [← hW, Below.heap_alloc _ _ _ (by simp)]
    exact Array.getElem?_push_size
  have HC := Lib.hid (show Calls Tryz.prog 269 #[.pointer (some ⟨bp, 1, none⟩), .iface ty u] W (LayRes W bp t a b c (layAtomF x g)) from layAtom_any bp t a b c g (.iface ty u) x W (h.below hb0) (ht.stays hb0) (by omega) hok)
  rw [hf]
  obtain ⟨T, hT⟩ : ∃ T, layAtomF x g = T := ⟨_, rfl⟩
  rw [hT] at HC ⊢
  have HK := Lib.hid (And.intro hb0 hk0)
  have HW := Lib.hid hW
  obtain ⟨i1, i2, i3⟩ := hA
  clear h ht hb0 hk0 hT hs hok hx1 hf hW
  go_enter Tryz.func262, Tryz.ntmps262
  go_wp2_with fail
  rw [HW.out]
  refine HC.out.mono ?_
  intro e w1 H1
  have h1 := H1
  obtain ⟨rfl, _, _, ht1⟩ := h1
  have hbx := HK.out.2.tys ht1 (by decide) (by decide) (by decide)
  obtain ⟨x0, x1, x2, y0, y1, y2⟩ := hbx.reads
  have HP := Lib.hid (fun p q r => LayRes.put (p := p) (q := q) (r := r) H1 HK.out.1 HK.out.2 hlt)
  clear H1 ht1 hbx HC
  go_wp2_with fail
  obtain ⟨k1, k2, k3⟩ := HP.out (.bool T.1.none) (.int .u64 (T.1.first : Int)) (.int .u64 (T.1.last : Int))
  refine bodyPost_ret (v := .agg #[.bool T.1.none, .int .u64 T.1.first, .int .u64 T.1.last]) (by simp [results, Tryz.results262, go_sem, x0, x1, x2]) rfl ⟨rfl, k1, k2, k3⟩

theorem lay_any : ∀ x : Pt, LayC x
  | .choice l => lay_choice l (fun y hy => lay_any y)
  | .chain l => lay_chain l (fun y hy => lay_any y)
  | .times x a b => lay_times x a b (lay_any x)
  | .only r => fun w bp t a b c v g h ht hs hok => by
    cases ht with
    | only r => exact lay_atom (.only r) rfl (fun g => by rw [layF]) 350 _ ⟨no62_80, no65_80, no69_80⟩ w bp t a b c g h (.only r) hs hok
  | .cls n xs => fun w bp t a b c v g h ht hs hok => by
    cases ht with
    | cls _ o k cap _ hn hm hse => exact lay_atom (.cls n xs) rfl (fun g => by rw [layF]) 354 _ ⟨no62_84, no65_84, no69_84⟩ w bp t a b c g h (.cls n o k cap xs hn hm hse) hs hok
  | .dot => fun w bp t a b c v g h ht hs hok => by
    cases ht with
    | dot => exact lay_atom .dot rfl (fun g => by rw [layF]) 349 _ ⟨no62_87, no65_87, no69_87⟩ w bp t a b c g h .dot hs hok
end Go.Proofs.YtddglepimbfdkaaGreatDoor.Pat
end

section
/- Patterns, plain: a text is held against a graph. No program in it. -/

namespace Go.Proofs.YtddglepimbfdkaaGreatDoor.Pat

def hasF (xs : List (Int × Int)) (r : Int) : Bool := xs.any fun x => decide (x.1 ≤ r) && decide (r ≤ x.2)
def fitsF : Pt → Int → Bool
  | .only o, r => o == r
  | .cls n xs, r => hasF xs r != n
  | .dot, _ => true
  | _, _ => false
def hitTo (l : List Pt) (op : Nat) (r : Int) : Nat → Nat
  | 0 => 0
  | k + 1 => if op.testBit k && fitsF (l.getD k (.choice [])) r then hitTo l op r k ||| 2 ^ k else hitTo l op r k
def hitF (g : Gr) (op : Nat) (r : Int) : Nat := hitTo g.atoms op r g.atoms.length
def behTo (t : List Nat) (h : Nat) : Nat → Nat
  | 0 => 0
  | k + 1 => if h.testBit k then behTo t h k ||| t.getD k 0 else behTo t h k
def behF (g : Gr) (h : Nat) : Nat := behTo g.thn h g.thn.length
def begGo (g : Gr) (last : Nat) : Nat → Nat → Int → List Int → Int
  | _, _, most, [] => most
  | op, n, most, r :: rs => if hitF g op r = 0 then most else begGo g last (behF g (hitF g op r)) (n + 1) (if hitF g op r &&& last = 0 then most else ((n + 1 : Nat) : Int)) rs
def begF (p : Eg × Gr) (rs : List Int) : Int := begGo p.2 p.1.last p.1.first 0 (if p.1.none then 0 else -1) rs

theorem hitTo_lt (l : List Pt) (op : Nat) (r : Int) : ∀ k, hitTo l op r k < 2 ^ k
  | 0 => by simp [hitTo]
  | k + 1 => by
    have h := pow_mono (hitTo_lt l op r k) (Nat.le_succ k)
    have hp : 2 ^ k < 2 ^ (k + 1) := Nat.pow_lt_pow_right (by omega) (by omega)
    rw [hitTo]
    split
    · exact pow_or h hp
    · exact h
theorem behTo_lt (t : List Nat) (h n : Nat) (hs : ∀ x ∈ t, x < 2 ^ n) : ∀ k, behTo t h k < 2 ^ n
  | 0 => by rw [behTo]; exact Nat.two_pow_pos _
  | k + 1 => by
    have ih := behTo_lt t h n hs k
    rw [behTo]
    split
    · refine pow_or ih ?_
      rw [List.getD_eq_getElem?_getD]
      cases hk : t[k]? with
      | none => simp; exact Nat.two_pow_pos _
      | some x => exact hs x (List.mem_of_getElem? hk)
    · exact ih
theorem hitF_lt (g : Gr) (op : Nat) (r : Int) : hitF g op r < 2 ^ g.atoms.length := hitTo_lt _ _ _ _
theorem behF_lt (g : Gr) (h : GrOk g) (x : Nat) : behF g x < 2 ^ g.atoms.length := behTo_lt _ _ _ h.small _
end Go.Proofs.YtddglepimbfdkaaGreatDoor.Pat
end

section
/- Patterns, plain: as much of a text as its beginning says is taken whole, and no more. No program in it. -/

namespace Go.Proofs.YtddglepimbfdkaaGreatDoor.Pat

theorem begGo_bounds (g : Gr) (last : Nat) : ∀ (rs : List Int) (op c : Nat) (m : Int), m ≤ c → (begGo g last op c m rs = m ∨ (c : Int) + 1 ≤ begGo g last op c m rs) ∧ begGo g last op c m rs ≤ c + rs.length ∧ m ≤ begGo g last op c m rs
  | [], op, c, m, h => by simp [begGo]; exact h
  | r :: rs, op, c, m, h => by
    rw [begGo]
    by_cases h0 : hitF g op r = 0
    · rw [if_pos h0]
      refine ⟨.inl rfl, ?_, Int.le_refl _⟩
      simp only [List.length_cons]
      omega
    · rw [if_neg h0]
      by_cases h1 : hitF g op r &&& last = 0
      · rw [if_pos h1]
        have ih := begGo_bounds g last rs (behF g (hitF g op r)) (c + 1) m (by omega)
        simp only [List.length_cons]
        refine ⟨?_, by omega, ih.2.2⟩
        rcases ih.1 with e | e
        · exact .inl e
        · exact .inr (by omega)
      · rw [if_neg h1]
        have ih := begGo_bounds g last rs (behF g (hitF g op r)) (c + 1) ((c + 1 : Nat) : Int) (Int.le_refl _)
        simp only [List.length_cons]
        exact ⟨.inr (by omega), by omega, by omega⟩
theorem begGo_take (g : Gr) (last : Nat) : ∀ (rs : List Int) (op c : Nat) (m : Int) (k : Nat), m ≤ c → k ≤ rs.length →
    (begGo g last op c m (rs.take k) = (c + k : Nat) → ((c + k : Nat) : Int) ≤ begGo g last op c m rs) ∧ (begGo g last op c m rs = (c + k : Nat) → begGo g last op c m (rs.take k) = (c + k : Nat))
  | [], op, c, m, k, h, hk => by
    simp at hk; subst hk
    simp [begGo]
    omega
  | r :: rs, op, c, m, 0, h, hk => by
    have hb := begGo_bounds g last (r :: rs) op c m h
    simp only [List.take_zero, begGo, Nat.add_zero]
    rw [begGo] at hb
    exact ⟨fun e => by omega, fun e => by rcases hb.1 with e1 | e1 <;> omega⟩
  | r :: rs, op, c, m, k + 1, h, hk => by
    simp only [List.length_cons] at hk
    rw [List.take_succ_cons, begGo, begGo]
    by_cases h0 : hitF g op r = 0
    · rw [if_pos h0, if_pos h0]
      exact ⟨fun e => by omega, fun e => e⟩
    · rw [if_neg h0, if_neg h0]
      have e : c + 1 + k = c + (k + 1) := by omega
      by_cases h1 : hitF g op r &&& last = 0
      · rw [if_pos h1]
        have ih := begGo_take g last rs (behF g (hitF g op r)) (c + 1) m k (by omega) (by omega)
        rwa [e] at ih
      · rw [if_neg h1]
        have ih := begGo_take g last rs (behF g (hitF g op r)) (c + 1) ((c + 1 : Nat) : Int) k (Int.le_refl _) (by omega)
        rwa [e] at ih
def wholeF (p : Eg × Gr) (rs : List Int) : Bool := begF p rs == (rs.length : Int)
theorem beg_law (p : Eg × Gr) (rs : List Int) : -1 ≤ begF p rs ∧ begF p rs ≤ rs.length ∧ ∀ k, k ≤ rs.length → (wholeF p (rs.take k) = true → (k : Int) ≤ begF p rs) ∧ (begF p rs = (k : Int) → wholeF p (rs.take k) = true) := by
  have hm : (if p.1.none then (0 : Int) else -1) ≤ ((0 : Nat) : Int) ∧ -1 ≤ (if p.1.none then (0 : Int) else -1) := by split <;> omega
  have hb := begGo_bounds p.2 p.1.last rs p.1.first 0 _ hm.1
  unfold wholeF begF
  refine ⟨by omega, by have := hb.2.1; simpa using this, fun k hk => ?_⟩
  have ht := begGo_take p.2 p.1.last rs p.1.first 0 _ k hm.1 hk
  rw [List.length_take, Nat.min_eq_left hk]
  simp only [Nat.zero_add] at ht
  exact ⟨fun e => ht.1 (by simpa using e), fun e => by simpa using ht.2 e⟩
end Go.Proofs.YtddglepimbfdkaaGreatDoor.Pat
end
