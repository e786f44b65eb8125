import Derived.Test.YtbcemjhaecelnaaGreatDoorMg11
section
set_option maxHeartbeats 4000000
set_option maxRecDepth 100000
section
namespace Go.Proofs.YtbcemjhaecelnaaGreatDoor.Pat
open Go.RowKit
def zch (w : World) (bp : Nat) (t a b c : Value) (p : Eg × Gr) (e : Ending) (w' : World) : Prop :=
 e = .returned (.agg #[.bool p.1.none, .int .u64 (p.1.first : Int), .int .u64 (p.1.last : Int)]) /\ GrAt w' bp t a b c p.2 /\ Below bp w w' /\ Tys w w'
def LayC (x : Pt) : Prop := ∀ (w : World) (bp : Nat) (t a b c v : Value) (g : Gr), GrAt w bp t a b c g -> Tree w (fun k => k < bp) v x -> g.atoms.length + x.size <= 64 -> GrOk g -> Calls Tryz.prog 176 #[.pointer (some ⟨bp, 1, none⟩), v] w (zch w bp t a b c (layF x g))
theorem GrAt.setBox {w : World} {bp k i : Nat} {t a b c u : Value} {g : Gr} {cs : Array Value} {ty : TypeId} {fr : Nat × Nat} (h : GrAt w bp t a b c g) (hk : w.heap[k]? = some (.cells cs ty fr)) (h1 : ty ≠ 216) (h2 : ty ≠ 223) (hb : bp < k) : GrAt (w.setCell ⟨k, i, none⟩ u) bp t a b c g := by
 obtain ⟨va, vt, vs, hp, hr⟩ := h
 refine ⟨va, vt, vs, ?_, ?_, ?_, fun j uu y hu hy => (hr.kids j uu y hu hy).keep fun b hb2 _ => ⟨heap_setCell_other _ _ _ _ (by show b ≠ k; omega), hb2⟩⟩
 ·unfold Pat at hp ⊢
  rw [heap_setCell_other _ _ _ _ (by show bp ≠ k; omega)]
  exact hp
 ·exact ownsRow_setCell_other hr.atoms (a := ⟨k, i, none⟩) (zdC hr.atoms hk h1) u
 ·exact ownsRow_setCell_other hr.links (a := ⟨k, i, none⟩) (zdC hr.links hk h2) u
theorem Box3.tys {w w' : World} {k : Nat} {a b c : Value} {t : TypeId} (h : Box3 w k a b c t) (ht : Tys w w') (h1 : t ≠ 216) (h2 : t ≠ 223) (h3 : t ≠ 227) : Box3 w' k a b c t := ht k _ t _ h h1 h2 h3
theorem Box3.below {w w' : World} {k : Nat} {a b c : Value} {t : TypeId} (h : Box3 w k a b c t) (hb : Below w.heap.size w w') : Box3 w' k a b c t := (hb.block k (Array.getElem?_eq_some_iff.1 h).1).trans h
theorem Box3.set {w : World} {k i : Nat} {a b c u : Value} {t : TypeId} (h : Box3 w k a b c t) {j : Nat} (hj : j ≠ k) : Box3 (w.setCell ⟨j, i, none⟩ u) k a b c t := (heap_setCell_other _ _ _ _ (by show k ≠ j; omega)).trans h
theorem GrAt.put3 {w : World} {bp k : Nat} {t a b c x y z p q r : Value} {g : Gr} {ty : TypeId} (h : GrAt w bp t a b c g) (hk : Box3 w k x y z ty) (h1 : ty ≠ 216) (h2 : ty ≠ 223) (hb : bp < k) :
 GrAt (((w.setCell ⟨k, 0, none⟩ p).setCell ⟨k, 1, none⟩ q).setCell ⟨k, 2, none⟩ r) bp t a b c g := by
 have e1 : (w.setCell ⟨k, 0, none⟩ p).heap[k]? = some (.cells (#[x, y, z].setIfInBounds 0 p) ty (0, 0)) := heap_setCell_same w k 0 _ ty p hk
 have e2 := heap_setCell_same _ k 1 _ ty q e1
 exact ((h.setBox hk h1 h2 hb).setBox e1 h1 h2 hb).setBox e2 h1 h2 hb
theorem zcK {w w3 : World} {bp k : Nat} {t a b c x y z p q r : Value} {g : Gr} (h : GrAt w3 bp t a b c g) (hk : Box3 w3 k x y z 225) (hB : Below bp w w3) (hT : Tys w w3) (hw : w.heap.size <= k) (hb : bp < w.heap.size) :
 GrAt (((w3.setCell ⟨k, 0, none⟩ p).setCell ⟨k, 1, none⟩ q).setCell ⟨k, 2, none⟩ r) bp t a b c g /\ Below bp w (((w3.setCell ⟨k, 0, none⟩ p).setCell ⟨k, 1, none⟩ q).setCell ⟨k, 2, none⟩ r) /\ Tys w (((w3.setCell ⟨k, 0, none⟩ p).setCell ⟨k, 1, none⟩ q).setCell ⟨k, 2, none⟩ r) :=
 ⟨h.put3 hk (by decide) (by decide) (by omega), ((hB.setCell (by show bp <= k; omega) _).setCell (by show bp <= k; omega) _).setCell (by show bp <= k; omega) _, ((hT.setNew hw _ _).setNew hw _ _).setNew hw _ _⟩
theorem zhe {w w3 : World} {bp k i : Nat} {t a b c x y z p : Value} {g : Gr} (h : GrAt w3 bp t a b c g) (hk : Box3 w3 k x y z 225) (hB : Below bp w w3) (hT : Tys w w3) (hw : w.heap.size <= k) (hb : bp < w.heap.size) :
 GrAt (w3.setCell ⟨k, i, none⟩ p) bp t a b c g /\ Below bp w (w3.setCell ⟨k, i, none⟩ p) /\ Tys w (w3.setCell ⟨k, i, none⟩ p) :=
 ⟨h.setBox hk (by decide) (by decide) (by omega), hB.setCell (by show bp <= k; omega) _, hT.setNew hw _ _⟩
theorem ze3 {w w3 : World} {bp k : Nat} {t a b c x y z p q r : Value} {g : Gr} (o : Obj) (h : GrAt w3 bp t a b c g) (hk : Box3 w3 k x y z 225) (hB : Below bp w w3) (hT : Tys w w3) (hw : w.heap.size <= k) (hb : bp < w.heap.size) :
 GrAt ((((w3.setCell ⟨k, 0, none⟩ p).setCell ⟨k, 1, none⟩ q).setCell ⟨k, 2, none⟩ r).alloc o) bp t a b c g /\ Below bp w ((((w3.setCell ⟨k, 0, none⟩ p).setCell ⟨k, 1, none⟩ q).setCell ⟨k, 2, none⟩ r).alloc o) /\ Tys w ((((w3.setCell ⟨k, 0, none⟩ p).setCell ⟨k, 1, none⟩ q).setCell ⟨k, 2, none⟩ r).alloc o) := by
 obtain ⟨h1, h2, h3⟩ := zcK (p := p) (q := q) (r := r) h hk hB hT hw hb
 have ha : ∀ W : World, Below W.heap.size W (W.alloc o) := fun W => (Below.refl _ _).alloc (Nat.le_refl _) _
 exact ⟨h1.below (ha _), h2.trans ((ha _).mono (by have := h2.size; omega)), h3.trans (Tys.of_below (ha _))⟩
structure Three (w : World) (k0 k1 k2 : Nat) (a0 b0 c0 a2 b2 c2 : Value) : Prop where
 b0 : Box3 w k0 a0 b0 c0 243
 b1 : Box3 w k1 (.bool false) (.int .u64 0) (.int .u64 0) 225
 b2 : Box3 w k2 a2 b2 c2 225
theorem Three.tys {w w' : World} {k0 k1 k2 : Nat} {a0 b0 c0 a2 b2 c2 : Value} (h : Three w k0 k1 k2 a0 b0 c0 a2 b2 c2) (ht : Tys w w') : Three w' k0 k1 k2 a0 b0 c0 a2 b2 c2 :=
 ⟨h.b0.tys ht (by decide) (by decide) (by decide), h.b1.tys ht (by decide) (by decide) (by decide), h.b2.tys ht (by decide) (by decide) (by decide)⟩
theorem layTimes_of (x : Pt) (hx : LayC x) (a1 b1 : Bool) (w : World) (bp : Nat) (t a b c v : Value) (g : Gr) (h : GrAt w bp t a b c g) (ht : Tree w (fun k => k < bp) v x) (hs : g.atoms.length + x.size <= 64) (hok : GrOk g) :
 Calls Tryz.prog 182 #[.pointer (some ⟨bp, 1, none⟩), .agg #[v, .bool a1, .bool b1]] w (zch w bp t a b c (zcw a1 b1 (layF x g))) := by
 obtain ⟨tv, uv, rfl⟩ := ht.iface
 have hlt := h.lt
 obtain ⟨W, hW⟩ : ∃ W, (w.alloc (Obj.cells #[.iface tv uv, .bool a1, .bool b1] 243)).alloc (Obj.cells #[.bool false, .int .u64 0, .int .u64 0] 225) = W := ⟨_, rfl⟩
 have hb0 : Below w.heap.size w W := by rw [<- hW]; exact ((Below.refl _ _).alloc (Nat.le_refl _) _).alloc (by simp) _
 have hk0 : Box3 W w.heap.size (.iface tv uv) (.bool a1) (.bool b1) 243 := by
  unfold Box3
  rw [<- hW, Below.heap_alloc _ _ _ (by simp)]
  exact Array.getElem?_push_size
 have hk1 : Box3 W (w.heap.size + 1) (.bool false) (.int .u64 0) (.int .u64 0) 225 := by
  unfold Box3
  rw [<- hW]
  have := Array.getElem?_push_size (xs := (w.alloc (Obj.cells #[.iface tv uv, .bool a1, .bool b1] 243)).heap) (x := Obj.cells #[.bool false, .int .u64 0, .int .u64 0] 225)
  rw [World.size_alloc] at this
  exact this
 have HL := zh (hx W bp t a b c (.iface tv uv) g (h.below hb0) (ht.stays hb0) hs hok)
 have hfok := zdB x g hok
 obtain ⟨E, G, hp⟩ : ∃ E G, layF x g = (E, G) := ⟨_, _, rfl⟩
 rw [hp] at HL hfok ⊢
 obtain ⟨en, ef, el⟩ := E
 obtain ⟨o1, o2, o3, o4⟩ := hfok
 dsimp only at o1 o2 o3 o4
 have H64 := zh (show ef < 2 ^ 64 /\ el < 2 ^ 64 /\ (∀ m ∈ G.thn, m < 2 ^ 64) /\ G.thn.length <= 64 from ⟨zaM o3 hs, zaM o4 hs, fun m hm => zaM (o1.small m hm) (by omega), by rw [o1.len]; omega⟩)
 have HB0 := zh hb0
 have HK := zh (And.intro hk0 hk1)
 have HW := zh hW
 obtain ⟨r0, r1, r2, _, _, _⟩ := hk0.reads
 clear h ht hW hb0 hk0 hk1 hx hp o1 o2 o3 o4 hok hs
 go_enter Tryz.func182, Tryz.ntmps182
 go_wp2_with fail
 rw [HW.out]
 refine HL.out.mono ?_
 rintro e w1 ⟨rfl, hg1, hb1, ht1⟩
 clear r0 r1 r2
 have hK0 := HK.out.1.tys ht1 (by decide) (by decide) (by decide)
 have hK1 := HK.out.2.tys ht1 (by decide) (by decide) (by decide)
 obtain ⟨W2, hW2⟩ : ∃ W2, w1.alloc (Obj.cells #[.bool en, .int .u64 (ef : Int), .int .u64 (el : Int)] 225) = W2 := ⟨_, rfl⟩
 have hb2 : Below w1.heap.size w1 W2 := by rw [<- hW2]; exact (Below.refl _ _).alloc (Nat.le_refl _) _
 have h3 : Three W2 w.heap.size (w.heap.size + 1) w1.heap.size (.iface tv uv) (.bool a1) (.bool b1) (.bool en) (.int .u64 (ef : Int)) (.int .u64 (el : Int)) :=
  ⟨hK0.below hb2, hK1.below hb2, by unfold Box3; rw [<- hW2]; exact Array.getElem?_push_size⟩
 have hsz : w.heap.size + 1 < w1.heap.size := (Array.getElem?_eq_some_iff.1 hK1).1
 have HG2 := zh (show GrAt W2 bp t a b c G /\ Below bp w W2 /\ Tys w W2 from ⟨hg1.below hb2, ((HB0.out.mono (Nat.le_of_lt hlt)).trans hb1).trans (hb2.mono (by omega)), ((Tys.of_below HB0.out).trans ht1).trans (Tys.of_below hb2)⟩)
 have H3 := zh h3
 have HW2 := zh hW2
 have HG1 := zh (show GrAt w1 bp t a b c G /\ Box3 w1 (w.heap.size + 1) (.bool false) (.int .u64 0) (.int .u64 0) 225 /\ Below bp w w1 /\ Tys w w1 from ⟨hg1, hK1, (HB0.out.mono (Nat.le_of_lt hlt)).trans hb1, (Tys.of_below HB0.out).trans ht1⟩)
 obtain ⟨r0, r1, r2, _, _, _⟩ := hK0.reads
 obtain ⟨q0, q1, q2, g0, g1, g2⟩ := hK1.reads
 have hsz0 : w.heap.size < w1.heap.size := by omega
 clear hg1 hb1 ht1 hK0 hK1 hW2 hb2 h3
 cases b1 with
 | false =>
   cases en with
   | true =>
     go_wp2_with fail
     obtain ⟨k1, k2, k3⟩ := ze3 (p := .bool true) (q := .int .u64 ef) (r := .int .u64 el) (Obj.cells #[.bool true, .int .u64 (ef : Int), .int .u64 (el : Int)] 225) HG1.out.1 HG1.out.2.1 HG1.out.2.2.1 HG1.out.2.2.2 (Nat.le_succ _) hlt
     refine bodyPost_ret (v := .agg #[.bool true, .int .u64 ef, .int .u64 el]) (by simp [results, Tryz.results182, go_sem, q0, q1, q2, hsz]) rfl ⟨by simp [zcw], by simpa [zcw] using k1, k2, k3⟩
   | false =>
     go_wp2_with fail
     obtain ⟨k1, k2, k3⟩ := ze3 (p := .bool a1) (q := .int .u64 ef) (r := .int .u64 el) (Obj.cells #[.bool a1, .int .u64 (ef : Int), .int .u64 (el : Int)] 225) HG1.out.1 HG1.out.2.1 HG1.out.2.2.1 HG1.out.2.2.2 (Nat.le_succ _) hlt
     refine bodyPost_ret (v := .agg #[.bool a1, .int .u64 ef, .int .u64 el]) (by simp [results, Tryz.results182, go_sem, q0, q1, q2, hsz]) rfl ⟨by simp [zcw], by simpa [zcw] using k1, k2, k3⟩
 | true =>
   go_wp2_with fail
   rw [HW2.out]
   clear r0 r1 r2 q0 q1 q2 g0 g1 g2
   refine (zhd bp t a b c G el ef W2 HG2.out.1 H64.out.2.2.2 H64.out.2.1 H64.out.1 H64.out.2.2.1).mono ?_
   rintro e w3 ⟨rfl, hg3, hb3, ht3⟩
   have h3 := H3.out.tys ht3
   have HG3 := zh (show GrAt w3 bp t a b c ⟨G.atoms, linkF G.thn el ef⟩ /\ Below bp w w3 /\ Tys w w3 from ⟨hg3, HG2.out.2.1.trans hb3, HG2.out.2.2.trans ht3⟩)
   have HT3 := zh h3
   obtain ⟨r0, r1, r2, _, _, _⟩ := h3.b0.reads
   obtain ⟨q0, q1, q2, g0, g1, g2⟩ := h3.b1.reads
   obtain ⟨p0, p1, p2, f0, f1, f2⟩ := h3.b2.reads
   have hsz3 : w1.heap.size < w3.heap.size := (Array.getElem?_eq_some_iff.1 h3.b2).1
   clear hg3 hb3 ht3 h3
   cases en with
   | true =>
     go_wp2_with fail
     obtain ⟨k1, k2, k3⟩ := zhe (i := 0) (p := .bool true) HG3.out.1 HT3.out.b2 HG3.out.2.1 HG3.out.2.2 (by omega) hlt
     obtain ⟨j1, j2, j3⟩ := zcK (p := .bool true) (q := .int .u64 ef) (r := .int .u64 el) k1 (HT3.out.b1.set (by omega)) k2 k3 (Nat.le_succ _) hlt
     have hne : w.heap.size + 1 ≠ w1.heap.size := by omega
     refine bodyPost_ret (v := .agg #[.bool true, .int .u64 ef, .int .u64 el]) (by simp [results, Tryz.results182, go_sem, q0, q1, q2]) rfl ⟨by simp [zcw], by simpa [zcw] using j1, j2, j3⟩
   | false =>
     go_wp2_with fail
     obtain ⟨k1, k2, k3⟩ := zhe (i := 0) (p := .bool a1) HG3.out.1 HT3.out.b2 HG3.out.2.1 HG3.out.2.2 (by omega) hlt
     obtain ⟨j1, j2, j3⟩ := zcK (p := .bool a1) (q := .int .u64 ef) (r := .int .u64 el) k1 (HT3.out.b1.set (by omega)) k2 k3 (Nat.le_succ _) hlt
     have hne : w.heap.size + 1 ≠ w1.heap.size := by omega
     refine bodyPost_ret (v := .agg #[.bool a1, .int .u64 ef, .int .u64 el]) (by simp [results, Tryz.results182, go_sem, q0, q1, q2]) rfl ⟨by simp [zcw], by simpa [zcw] using j1, j2, j3⟩
end Go.Proofs.YtbcemjhaecelnaaGreatDoor.Pat
end
section
namespace Go.Proofs.YtbcemjhaecelnaaGreatDoor.Pat
open Go.RowKit
structure LaysAt (w : World) (bp k0 : Nat) (t a b c : Value) (wr : World) (e : Eg) (g : Gr) : Prop where
 gr : GrAt wr bp t a b c g
 res : Box3 wr k0 (.bool false) (.int .u64 0) (.int .u64 0) 225
 all : Box3 wr (k0 + 1) (.bool e.none) (.int .u64 (e.first : Int)) (.int .u64 (e.last : Int)) 225
 below : Below bp w wr
 tys : Tys w wr
 ok : GrOk g
 small : e.first < 2 ^ g.atoms.length /\ e.last < 2 ^ g.atoms.length
 base : w.heap.size <= k0
 far : bp < w.heap.size
def zhF (w : World) (bp k0 : Nat) (t a b c : Value) (l : List Pt) (T : Eg × Gr) (n : Nat) (k : Nat) (v : Value) (wr : World) : Prop := ∃ i e g, k + i = n /\ v = .int .i64 (i : Nat) /\ LaysAt w bp k0 t a b c wr e g /\ zaT (l.drop i) e g = T /\ g.atoms.length + zaI (l.drop i) <= 64
theorem drop_at {l : List Pt} {i : Nat} {x : Pt} (h : l[i]? = some x) : l.drop i = x :: l.drop (i + 1) := by
 obtain ⟨h1, h2⟩ := List.getElem?_eq_some_iff.1 h
 rw [List.drop_eq_getElem_cons h1, h2]
structure ListAt (w : World) (bp : Nat) (o : Option Addr) (vs : List Value) (l : List Pt) : Prop where
 sees : zg9 w (fun k => k < bp) o vs
 len : vs.length = l.length
 kids : ∀ (j : Nat) v x, vs[j]? = some v -> l[j]? = some x -> Tree w (fun k => k < bp) v x
theorem ListAt.at {w wr : World} {bp : Nat} {o : Option Addr} {vs : List Value} {l : List Pt} (h : ListAt w bp o vs l) (hb : Below bp w wr) {i : Nat} {x : Pt} (hx : l[i]? = some x) : ∃ b off v, o = some ⟨b, off, none⟩ /\ wr.cell? ⟨b, off + i, none⟩ = some v /\ Tree wr (fun k => k < bp) v x := by
 have hi := (List.getElem?_eq_some_iff.1 hx).1
 obtain ⟨v, hv⟩ : ∃ v, vs[i]? = some v := ⟨_, List.getElem?_eq_getElem (by rw [h.len]; exact hi)⟩
 rcases h.sees with h0 | ⟨b, off, e, hp, hl, hs⟩
 ·rw [h0] at hv; simp at hv
 ·exact ⟨b, off, v, e, (hb.cell (p := ⟨b, off + i, none⟩) hp).trans (hs i v hv), (h.kids i v x hv hx).under hb⟩
theorem Box3.put {w : World} {k : Nat} {a b c p q r : Value} {t : TypeId} (h : Box3 w k a b c t) : Box3 (((w.setCell ⟨k, 0, none⟩ p).setCell ⟨k, 1, none⟩ q).setCell ⟨k, 2, none⟩ r) k p q r t := by
 have e1 : (w.setCell ⟨k, 0, none⟩ p).heap[k]? = some (.cells (#[a, b, c].setIfInBounds 0 p) t (0, 0)) := heap_setCell_same w k 0 _ t p h
 have e2 := heap_setCell_same _ k 1 _ t q e1
 exact heap_setCell_same _ k 2 _ t r e2
theorem zhf {w w1 : World} {bp k0 F1 F2 : Nat} {t a b c x y z : Value} {an : Bool} {G : Gr} (o : Obj) (h : GrAt w1 bp t a b c G /\ Box3 w1 k0 (.bool false) (.int .u64 0) (.int .u64 0) 225 /\ Box3 w1 (k0 + 1) x y z 225 /\ Below bp w w1 /\ Tys w w1) (hok : GrOk G) (hs : F1 < 2 ^ G.atoms.length /\ F2 < 2 ^ G.atoms.length) (hb : w.heap.size <= k0) (hf : bp < w.heap.size) :
 LaysAt w bp k0 t a b c ((((w1.setCell ⟨k0 + 1, 0, none⟩ (.bool an)).setCell ⟨k0 + 1, 1, none⟩ (.int .u64 (F1 : Int))).setCell ⟨k0 + 1, 2, none⟩ (.int .u64 (F2 : Int))).alloc o) ⟨an, F1, F2⟩ G := by
 obtain ⟨h1, h2, h3, h4, h5⟩ := h
 obtain ⟨k1, k2, k3⟩ := ze3 (p := .bool an) (q := .int .u64 (F1 : Int)) (r := .int .u64 (F2 : Int)) o h1 h3 h4 h5 (by omega) hf
 have ha : ∀ W : World, Below W.heap.size W (W.alloc o) := fun W => (Below.refl _ _).alloc (Nat.le_refl _) _
 exact ⟨k1, (((h2.set (by omega)).set (by omega)).set (by omega)).below (ha _), h3.put.below (ha _), k2, k3, hok, hs, hb, hf⟩
theorem layChoice_of (l : List Pt) (hx : ∀ x ∈ l, LayC x) (w : World) (bp : Nat) (t a b c : Value) (g : Gr) (o : Option Addr) (n cap : Nat) (vs : List Value) (h : GrAt w bp t a b c g) (hL : ListAt w bp o vs l) (hn : l.length = n) (hm : n <= 2000000) (hs : g.atoms.length + zaI l <= 64) (hok : GrOk g) :
 Calls Tryz.prog 180 #[.pointer (some ⟨bp, 1, none⟩), .slice o n cap] w (zch w bp t a b c (zaT l ⟨false, 0, 0⟩ g)) := by
 have hlt := h.lt
 obtain ⟨W, hW⟩ : ∃ W, (w.alloc (Obj.cells #[.bool false, .int .u64 0, .int .u64 0] 225)).alloc (Obj.cells #[.bool false, .int .u64 0, .int .u64 0] 225) = W := ⟨_, rfl⟩
 have hb0 : Below w.heap.size w W := by rw [<- hW]; exact ((Below.refl _ _).alloc (Nat.le_refl _) _).alloc (by simp) _
 have hk0 : Box3 W w.heap.size (.bool false) (.int .u64 0) (.int .u64 0) 225 := by
  unfold Box3
  rw [<- hW, Below.heap_alloc _ _ _ (by simp)]
  exact Array.getElem?_push_size
 have hk1 : Box3 W (w.heap.size + 1) (.bool false) (.int .u64 0) (.int .u64 0) 225 := by
  unfold Box3
  rw [<- hW]
  have := Array.getElem?_push_size (xs := (w.alloc (Obj.cells #[.bool false, .int .u64 0, .int .u64 0] 225)).heap) (x := Obj.cells #[.bool false, .int .u64 0, .int .u64 0] 225)
  rw [World.size_alloc] at this
  exact this
 obtain ⟨T, hT⟩ : ∃ T, zaT l ⟨false, 0, 0⟩ g = T := ⟨_, rfl⟩
 have HST : zhF w bp w.heap.size t a b c l T n n (.int .i64 (0 : Nat)) W :=
  ⟨0, ⟨false, 0, 0⟩, g, rfl, rfl, ⟨h.below hb0, hk0, hk1, hb0.mono (Nat.le_of_lt hlt), Tys.of_below hb0, hok, ⟨Nat.two_pow_pos _, Nat.two_pow_pos _⟩, Nat.le_refl _, hlt⟩, hT, by simpa using hs⟩
 rw [hT]
 have HX := zh hx
 have HLI := zh hL
 have HN := zh hn
 have HW := zh hW
 clear h hL hn hW hb0 hk0 hk1 hT hs hok hx
 go_enter Tryz.func180, Tryz.ntmps180
 go_wp2_with fail
 rw [HW.out]
 go_loopg [11] n (fun k v wr => zhF w bp w.heap.size t a b c l T n k v wr)
 case atStart => exact HST
 case round =>
  clear HST
  obtain ⟨i, e, g2, hgk, rfl, H, hT, hs⟩ := hrel
  have HH := zh H
  have HGK := zh hgk
  obtain ⟨q0, q1, q2, g0, g1, gq2⟩ := H.all.reads
  by_cases hin : i < n
  ·have i1 : (i : Int) < n := by omega
   obtain ⟨x, hxi⟩ : ∃ x, l[i]? = some x := ⟨_, List.getElem?_eq_getElem (by rw [HN.out]; exact hin)⟩
   obtain ⟨b2, off, v2, rfl, hc, htr⟩ := HLI.out.at H.below hxi
   have hd := drop_at hxi
   rw [hd] at hT hs
   rw [zaT] at hT
   simp only [zaI] at hs
   have hfok := zdB x g2 H.ok
   have HL := zh (HX.out x (List.mem_of_getElem? hxi) wr bp t a b c v2 g2 H.gr htr (by omega) H.ok)
   obtain ⟨E, G, hp⟩ : ∃ E G, layF x g2 = (E, G) := ⟨_, _, rfl⟩
   rw [hp] at HL hfok hT
   obtain ⟨en, ef, el⟩ := E
   obtain ⟨o1, o2, o3, o4⟩ := hfok
   dsimp only at o1 o2 o3 o4 hT
   obtain ⟨an, af, al⟩ := e
   have hsm := H.small
   dsimp only at hsm q0 q1 q2
   have h64 : ∀ m : Nat, m < 2 ^ G.atoms.length -> m < 2 ^ 64 := fun m hm => zaM hm (by omega)
   rw [<- o2] at o3 o4
   have ha1 : af < 2 ^ G.atoms.length := zaM hsm.1 (by omega)
   have ha2 : al < 2 ^ G.atoms.length := zaM hsm.2 (by omega)
   have hor1 := zhE (h64 _ ha1) (h64 _ o3)
   have hor2 := zhE (h64 _ ha2) (h64 _ o4)
   have HS := zh (show af ||| ef < 2 ^ G.atoms.length /\ al ||| el < 2 ^ G.atoms.length from ⟨zdt ha1 o3, zdt ha2 o4⟩)
   obtain ⟨F1, hF1⟩ : ∃ F, af ||| ef = F := ⟨_, rfl⟩
   obtain ⟨F2, hF2⟩ : ∃ F, al ||| el = F := ⟨_, rfl⟩
   rw [hF1] at hor1 HS
   rw [hF2] at hor2 HS
   have HT := zh (show zaT (l.drop (i + 1)) ⟨an || en, F1, F2⟩ G = T by rw [<- hF1, <- hF2]; exact hT)
   have HSZ := zh (show G.atoms.length + zaI (l.drop (i + 1)) <= 64 by omega)
   have HOK := zh o1
   obtain ⟨tv, uv, rfl⟩ := htr.iface
   clear hgk H hT hs hd hxi htr hp o1 o2 o3 o4 hsm h64 ha1 ha2 hF1 hF2
   go_wp2_with fail
   refine HL.out.mono ?_
   rintro e w1 ⟨rfl, hg1, hb1, ht1⟩
   clear q0 q1 q2 g0 g1 gq2 hc
   have hK0 := HH.out.res.tys ht1 (by decide) (by decide) (by decide)
   have hK1 := HH.out.all.tys ht1 (by decide) (by decide) (by decide)
   have HG1 := zh (show GrAt w1 bp t a b c G /\ Box3 w1 w.heap.size (.bool false) (.int .u64 0) (.int .u64 0) 225 /\ Box3 w1 (w.heap.size + 1) (.bool an) (.int .u64 (af : Int)) (.int .u64 (al : Int)) 225 /\ Below bp w w1 /\ Tys w w1 from ⟨hg1, hK0, hK1, HH.out.below.trans hb1, HH.out.tys.trans ht1⟩)
   obtain ⟨q0, q1, q2, g0, g1, gq2⟩ := hK1.reads
   have hsz : w.heap.size + 1 < w1.heap.size := (Array.getElem?_eq_some_iff.1 hK1).1
   clear hg1 hb1 ht1 hK0 hK1
   cases an with
   | true =>
     have HT2 := zh (show zaT (l.drop (i + 1)) ⟨true, F1, F2⟩ G = T from HT.out)
     go_wp2_with fail
     go_roundg (gk - 1)
     case measure => have := HGK.out; omega
     case rel => exact ⟨i + 1, ⟨true, F1, F2⟩, G, by have := HGK.out; omega, by go_num, zhf _ HG1.out HOK.out HS.out (Nat.le_refl _) hlt, HT2.out, HSZ.out⟩
   | false =>
     have HT2 := zh (show zaT (l.drop (i + 1)) ⟨en, F1, F2⟩ G = T from HT.out)
     go_wp2_with fail
     go_roundg (gk - 1)
     case measure => have := HGK.out; omega
     case rel => exact ⟨i + 1, ⟨en, F1, F2⟩, G, by have := HGK.out; omega, by go_num, zhf _ HG1.out HOK.out HS.out (Nat.le_refl _) hlt, HT2.out, HSZ.out⟩
  ·have i1 : (n : Int) <= i := by omega
   have hdn : l.drop i = [] := List.drop_eq_nil_of_le (by rw [HN.out]; omega)
   have HT2 := zh (show T = (e, g2) by rw [<- hT, hdn]; rfl)
   obtain ⟨an, af, al⟩ := e
   dsimp only at q0 q1 q2
   obtain ⟨x0, x1, x2, y0, y1, y2⟩ := H.res.reads
   obtain ⟨k1, k2, k3⟩ := zcK (p := .bool an) (q := .int .u64 (af : Int)) (r := .int .u64 (al : Int)) H.gr H.res H.below H.tys H.base hlt
   have HK := zh (And.intro k1 (And.intro k2 k3))
   clear hgk H hT hs hdn k1 k2 k3
   go_wp2_with fail
   refine bodyPost_ret (v := .agg #[.bool an, .int .u64 af, .int .u64 al]) (by simp [results, Tryz.results180, go_sem, x0, x1, x2]) rfl ?_
   rw [HT2.out]
   exact ⟨rfl, HK.out.1, HK.out.2.1, HK.out.2.2⟩
end Go.Proofs.YtbcemjhaecelnaaGreatDoor.Pat
end
section
namespace Go.Proofs.YtbcemjhaecelnaaGreatDoor.Pat
open Go.RowKit
structure LaysW (w : World) (bp k0 : Nat) (t a b c : Value) (wr : World) (x y z : Value) (g : Gr) : Prop where
 gr : GrAt wr bp t a b c g
 res : Box3 wr k0 (.bool false) (.int .u64 0) (.int .u64 0) 225
 all : Box3 wr (k0 + 1) x y z 225
 below : Below bp w wr
 tys : Tys w wr
 base : w.heap.size <= k0
 far : bp < w.heap.size
theorem LaysW.step {w wr : World} {bp k0 : Nat} {t a b c x y z x' y' z' u : Value} {g : Gr} (i : Nat) (h : LaysW w bp k0 t a b c wr x y z g) (he : #[x, y, z].setIfInBounds i u = #[x', y', z']) : LaysW w bp k0 t a b c (wr.setCell ⟨k0 + 1, i, none⟩ u) x' y' z' g := by
 have hb := h.base
 have hf := h.far
 refine ⟨h.gr.setBox h.all (by decide) (by decide) (by omega), h.res.set (by omega), ?_, h.below.setCell (by show bp <= k0 + 1; omega) _, h.tys.setNew (by omega) _ _, hb, hf⟩
 have := heap_setCell_same wr (k0 + 1) i _ 225 u h.all
 rw [he] at this
 exact this
theorem LaysW.done {w wr : World} {bp k0 : Nat} {t a b c : Value} {e : Eg} {g : Gr} (h : LaysW w bp k0 t a b c wr (.bool e.none) (.int .u64 (e.first : Int)) (.int .u64 (e.last : Int)) g) (hok : GrOk g) (hs : e.first < 2 ^ g.atoms.length /\ e.last < 2 ^ g.atoms.length) : LaysAt w bp k0 t a b c wr e g :=
 ⟨h.gr, h.res, h.all, h.below, h.tys, hok, hs, h.base, h.far⟩
def zhG (w : World) (bp k0 : Nat) (t a b c : Value) (l : List Pt) (T : Eg × Gr) (n : Nat) (k : Nat) (v : Value) (wr : World) : Prop := ∃ i e g, k + i = n /\ v = .int .i64 (i : Nat) /\ LaysAt w bp k0 t a b c wr e g /\ zbo (l.drop i) e g = T /\ g.atoms.length + zaI (l.drop i) <= 64
theorem layChain_of (l : List Pt) (hx : ∀ x ∈ l, LayC x) (w : World) (bp : Nat) (t a b c : Value) (g : Gr) (o : Option Addr) (n cap : Nat) (vs : List Value) (h : GrAt w bp t a b c g) (hL : ListAt w bp o vs l) (hn : l.length = n) (hm : n <= 2000000) (hs : g.atoms.length + zaI l <= 64) (hok : GrOk g) :
 Calls Tryz.prog 181 #[.pointer (some ⟨bp, 1, none⟩), .slice o n cap] w (zch w bp t a b c (zbo l ⟨true, 0, 0⟩ g)) := by
 have hlt := h.lt
 obtain ⟨W, hW⟩ : ∃ W, (w.alloc (Obj.cells #[.bool false, .int .u64 0, .int .u64 0] 225)).alloc (Obj.cells #[.bool true, .int .u64 0, .int .u64 0] 225) = W := ⟨_, rfl⟩
 have hb0 : Below w.heap.size w W := by rw [<- hW]; exact ((Below.refl _ _).alloc (Nat.le_refl _) _).alloc (by simp) _
 have hk0 : Box3 W w.heap.size (.bool false) (.int .u64 0) (.int .u64 0) 225 := by
  unfold Box3
  rw [<- hW, Below.heap_alloc _ _ _ (by simp)]
  exact Array.getElem?_push_size
 have hk1 : Box3 W (w.heap.size + 1) (.bool true) (.int .u64 0) (.int .u64 0) 225 := by
  unfold Box3
  rw [<- hW]
  have := Array.getElem?_push_size (xs := (w.alloc (Obj.cells #[.bool false, .int .u64 0, .int .u64 0] 225)).heap) (x := Obj.cells #[.bool true, .int .u64 0, .int .u64 0] 225)
  rw [World.size_alloc] at this
  exact this
 obtain ⟨T, hT⟩ : ∃ T, zbo l ⟨true, 0, 0⟩ g = T := ⟨_, rfl⟩
 have HST : zhG w bp w.heap.size t a b c l T n n (.int .i64 (0 : Nat)) W :=
  ⟨0, ⟨true, 0, 0⟩, g, rfl, rfl, ⟨h.below hb0, hk0, hk1, hb0.mono (Nat.le_of_lt hlt), Tys.of_below hb0, hok, ⟨Nat.two_pow_pos _, Nat.two_pow_pos _⟩, Nat.le_refl _, hlt⟩, hT, by simpa using hs⟩
 rw [hT]
 have HX := zh hx
 have HLI := zh hL
 have HN := zh hn
 have HW := zh hW
 clear h hL hn hW hb0 hk0 hk1 hT hs hok hx
 go_enter Tryz.func181, Tryz.ntmps181
 go_wp2_with fail
 rw [HW.out]
 go_loopg [12] n (fun k v wr => zhG w bp w.heap.size t a b c l T n k v wr)
 case atStart => exact HST
 case round =>
  clear HST
  obtain ⟨i, e, g2, hgk, rfl, H, hT, hs⟩ := hrel
  have HH := zh H
  have HGK := zh hgk
  obtain ⟨q0, q1, q2, g0, g1, gq2⟩ := H.all.reads
  by_cases hin : i < n
  ·have i1 : (i : Int) < n := by omega
   obtain ⟨x, hxi⟩ : ∃ x, l[i]? = some x := ⟨_, List.getElem?_eq_getElem (by rw [HN.out]; exact hin)⟩
   obtain ⟨b2, off, v2, rfl, hc, htr⟩ := HLI.out.at H.below hxi
   have hd := drop_at hxi
   rw [hd] at hT hs
   rw [zbo] at hT
   simp only [zaI] at hs
   have hfok := zdB x g2 H.ok
   have HL := zh (HX.out x (List.mem_of_getElem? hxi) wr bp t a b c v2 g2 H.gr htr (by omega) H.ok)
   obtain ⟨E, G, hp⟩ : ∃ E G, layF x g2 = (E, G) := ⟨_, _, rfl⟩
   rw [hp] at HL hfok hT
   obtain ⟨en, ef, el⟩ := E
   obtain ⟨o1, o2, o3, o4⟩ := hfok
   dsimp only at o1 o2 o3 o4 hT
   obtain ⟨an, af, al⟩ := e
   have hsm := H.small
   dsimp only at hsm q0 q1 q2 hT
   have h64 : ∀ m : Nat, m < 2 ^ G.atoms.length -> m < 2 ^ 64 := fun m hm => zaM hm (by omega)
   rw [<- o2] at o3 o4
   have ha1 : af < 2 ^ G.atoms.length := zaM hsm.1 (by omega)
   have ha2 : al < 2 ^ G.atoms.length := zaM hsm.2 (by omega)
   have hor1 := zhE (h64 _ ha1) (h64 _ o3)
   have hor2 := zhE (h64 _ ha2) (h64 _ o4)
   have HLK := zh (fun (W2 : World) (h2 : GrAt W2 bp t a b c G) => zhd bp t a b c G al ef W2 h2 (by rw [o1.len]; omega) (h64 _ ha2) (h64 _ o3) (fun m hm => h64 _ (o1.small m hm)))
   have HG3 := zh (show GrOk ⟨G.atoms, linkF G.thn al ef⟩ from ⟨by rw [zb6]; exact o1.len, zdc o1.small o3⟩)
   have HS := zh (show (af ||| ef < 2 ^ G.atoms.length /\ al ||| el < 2 ^ G.atoms.length) /\ af < 2 ^ G.atoms.length /\ el < 2 ^ G.atoms.length from ⟨⟨zdt ha1 o3, zdt ha2 o4⟩, ha1, o4⟩)
   obtain ⟨F1, hF1⟩ : ∃ F, af ||| ef = F := ⟨_, rfl⟩
   obtain ⟨F2, hF2⟩ : ∃ F, al ||| el = F := ⟨_, rfl⟩
   rw [hF1] at hor1 HS
   rw [hF2] at hor2 HS
   have HT := zh (show zbo (l.drop (i + 1)) ⟨an && en, if an then F1 else af, if en then F2 else el⟩ ⟨G.atoms, linkF G.thn al ef⟩ = T by rw [<- hF1, <- hF2]; exact hT)
   have HSZ := zh (show G.atoms.length + zaI (l.drop (i + 1)) <= 64 by omega)
   obtain ⟨tv, uv, rfl⟩ := htr.iface
   clear hgk H hT hs hd hxi htr hp o1 o2 o3 o4 hsm h64 ha1 ha2 hF1 hF2
   go_wp2_with fail
   refine HL.out.mono ?_
   rintro e w1 ⟨rfl, hg1, hb1, ht1⟩
   clear q0 q1 q2 g0 g1 gq2 hc
   have hK0 := HH.out.res.tys ht1 (by decide) (by decide) (by decide)
   have hK1 := HH.out.all.tys ht1 (by decide) (by decide) (by decide)
   obtain ⟨q0, q1, q2, g0, g1, gq2⟩ := hK1.reads
   have hsz : w.heap.size + 1 < w1.heap.size := (Array.getElem?_eq_some_iff.1 hK1).1
   have hsz0 : w.heap.size < w1.heap.size := by omega
   obtain ⟨W2, hW2⟩ : ∃ W2, w1.alloc (Obj.cells #[.bool en, .int .u64 (ef : Int), .int .u64 (el : Int)] 225) = W2 := ⟨_, rfl⟩
   have hb2 : Below w1.heap.size w1 W2 := by rw [<- hW2]; exact (Below.refl _ _).alloc (Nat.le_refl _) _
   have H2 := zh (show LaysW w bp w.heap.size t a b c W2 (.bool an) (.int .u64 (af : Int)) (.int .u64 (al : Int)) G /\ Box3 W2 w1.heap.size (.bool en) (.int .u64 (ef : Int)) (.int .u64 (el : Int)) 225 from
    ⟨⟨hg1.below hb2, hK0.below hb2, hK1.below hb2, (HH.out.below.trans hb1).trans (hb2.mono (by omega)), (HH.out.tys.trans ht1).trans (Tys.of_below hb2), Nat.le_refl _, hlt⟩, by unfold Box3; rw [<- hW2]; exact Array.getElem?_push_size⟩)
   have HW2 := zh hW2
   clear hg1 hb1 ht1 hK0 hK1 hW2 hb2
   go_wp2_with fail
   rw [HW2.out]
   clear q0 q1 q2 g0 g1 gq2
   refine (HLK.out W2 H2.out.1.gr).mono ?_
   rintro e w3 ⟨rfl, hg3, hb3, ht3⟩
   have H4 := zh (show LaysW w bp w.heap.size t a b c w3 (.bool an) (.int .u64 (af : Int)) (.int .u64 (al : Int)) ⟨G.atoms, linkF G.thn al ef⟩ from
    ⟨hg3, H2.out.1.res.tys ht3 (by decide) (by decide) (by decide), H2.out.1.all.tys ht3 (by decide) (by decide) (by decide), H2.out.1.below.trans hb3, H2.out.1.tys.trans ht3, Nat.le_refl _, hlt⟩)
   have hk2 := H2.out.2.tys ht3 (by decide) (by decide) (by decide)
   obtain ⟨q0, q1, q2, g0, g1, gq2⟩ := H4.out.all.reads
   obtain ⟨p0, p1, p2, _, _, _⟩ := hk2.reads
   have hne : w.heap.size + 1 ≠ w1.heap.size := by omega
   clear hg3 hb3 ht3 hk2
   cases an with
   | true =>
     cases en with
     | true =>
       have HT2 := zh (show zbo (l.drop (i + 1)) ⟨true, F1, F2⟩ ⟨G.atoms, linkF G.thn al ef⟩ = T from HT.out)
       go_wp2_with fail
       go_roundg (gk - 1)
       case measure => have := HGK.out; omega
       case rel => exact ⟨i + 1, ⟨true, F1, F2⟩, ⟨G.atoms, linkF G.thn al ef⟩, by have := HGK.out; omega, by go_num, LaysW.done (e := ⟨true, F1, F2⟩) (((H4.out.step (x' := .bool true) (y' := .int .u64 (F1 : Int)) (z' := .int .u64 (al : Int)) 1 rfl).step (x' := .bool true) (y' := .int .u64 (F1 : Int)) (z' := .int .u64 (F2 : Int)) 2 rfl).step (x' := .bool true) (y' := .int .u64 (F1 : Int)) (z' := .int .u64 (F2 : Int)) 0 rfl) HG3.out ⟨HS.out.1.1, HS.out.1.2⟩, HT2.out, HSZ.out⟩
     | false =>
       have HT2 := zh (show zbo (l.drop (i + 1)) ⟨false, F1, el⟩ ⟨G.atoms, linkF G.thn al ef⟩ = T from HT.out)
       go_wp2_with fail
       go_roundg (gk - 1)
       case measure => have := HGK.out; omega
       case rel => exact ⟨i + 1, ⟨false, F1, el⟩, ⟨G.atoms, linkF G.thn al ef⟩, by have := HGK.out; omega, by go_num, LaysW.done (e := ⟨false, F1, el⟩) (((H4.out.step (x' := .bool true) (y' := .int .u64 (F1 : Int)) (z' := .int .u64 (al : Int)) 1 rfl).step (x' := .bool true) (y' := .int .u64 (F1 : Int)) (z' := .int .u64 (el : Int)) 2 rfl).step (x' := .bool false) (y' := .int .u64 (F1 : Int)) (z' := .int .u64 (el : Int)) 0 rfl) HG3.out ⟨HS.out.1.1, HS.out.2.2⟩, HT2.out, HSZ.out⟩
   | false =>
     cases en with
     | true =>
       have HT2 := zh (show zbo (l.drop (i + 1)) ⟨false, af, F2⟩ ⟨G.atoms, linkF G.thn al ef⟩ = T from HT.out)
       go_wp2_with fail
       go_roundg (gk - 1)
       case measure => have := HGK.out; omega
       case rel => exact ⟨i + 1, ⟨false, af, F2⟩, ⟨G.atoms, linkF G.thn al ef⟩, by have := HGK.out; omega, by go_num, LaysW.done (e := ⟨false, af, F2⟩) ((H4.out.step (x' := .bool false) (y' := .int .u64 (af : Int)) (z' := .int .u64 (F2 : Int)) 2 rfl).step (x' := .bool false) (y' := .int .u64 (af : Int)) (z' := .int .u64 (F2 : Int)) 0 rfl) HG3.out ⟨HS.out.2.1, HS.out.1.2⟩, HT2.out, HSZ.out⟩
     | false =>
       have HT2 := zh (show zbo (l.drop (i + 1)) ⟨false, af, el⟩ ⟨G.atoms, linkF G.thn al ef⟩ = T from HT.out)
       go_wp2_with fail
       go_roundg (gk - 1)
       case measure => have := HGK.out; omega
       case rel => exact ⟨i + 1, ⟨false, af, el⟩, ⟨G.atoms, linkF G.thn al ef⟩, by have := HGK.out; omega, by go_num, LaysW.done (e := ⟨false, af, el⟩) ((H4.out.step (x' := .bool false) (y' := .int .u64 (af : Int)) (z' := .int .u64 (el : Int)) 2 rfl).step (x' := .bool false) (y' := .int .u64 (af : Int)) (z' := .int .u64 (el : Int)) 0 rfl) HG3.out ⟨HS.out.2.1, HS.out.2.2⟩, HT2.out, HSZ.out⟩
  ·have i1 : (n : Int) <= i := by omega
   have hdn : l.drop i = [] := List.drop_eq_nil_of_le (by rw [HN.out]; omega)
   have HT2 := zh (show T = (e, g2) by rw [<- hT, hdn]; rfl)
   obtain ⟨an, af, al⟩ := e
   dsimp only at q0 q1 q2
   obtain ⟨x0, x1, x2, y0, y1, y2⟩ := H.res.reads
   obtain ⟨k1, k2, k3⟩ := zcK (p := .bool an) (q := .int .u64 (af : Int)) (r := .int .u64 (al : Int)) H.gr H.res H.below H.tys H.base hlt
   have HK := zh (And.intro k1 (And.intro k2 k3))
   clear hgk H hT hs hdn k1 k2 k3
   go_wp2_with fail
   refine bodyPost_ret (v := .agg #[.bool an, .int .u64 af, .int .u64 al]) (by simp [results, Tryz.results181, go_sem, x0, x1, x2]) rfl ?_
   rw [HT2.out]
   exact ⟨rfl, HK.out.1, HK.out.2.1, HK.out.2.2⟩
end Go.Proofs.YtbcemjhaecelnaaGreatDoor.Pat
end
section
namespace Go.Proofs.YtbcemjhaecelnaaGreatDoor.Pat
open Go.RowKit
theorem is62 (v : Value) (W : World) : (Instr.typeAssert (.iface 236 v) 216 236 true).run Tryz.prog W = .ok (.tuple #[v, .bool true]) W := by kernel_rfl
theorem is65 (v : Value) (W : World) : (Instr.typeAssert (.iface 239 v) 216 239 true).run Tryz.prog W = .ok (.tuple #[v, .bool true]) W := by kernel_rfl
theorem is69 (v : Value) (W : World) : (Instr.typeAssert (.iface 243 v) 216 243 true).run Tryz.prog W = .ok (.tuple #[v, .bool true]) W := by kernel_rfl
theorem no62_65 (v : Value) (W : World) : (Instr.typeAssert (.iface 239 v) 216 236 true).run Tryz.prog W = .ok (.tuple #[.slice none 0 0, .bool false]) W := by kernel_rfl
theorem no62_69 (v : Value) (W : World) : (Instr.typeAssert (.iface 243 v) 216 236 true).run Tryz.prog W = .ok (.tuple #[.slice none 0 0, .bool false]) W := by kernel_rfl
theorem no62_80 (v : Value) (W : World) : (Instr.typeAssert (.iface 254 v) 216 236 true).run Tryz.prog W = .ok (.tuple #[.slice none 0 0, .bool false]) W := by kernel_rfl
theorem no62_84 (v : Value) (W : World) : (Instr.typeAssert (.iface 258 v) 216 236 true).run Tryz.prog W = .ok (.tuple #[.slice none 0 0, .bool false]) W := by kernel_rfl
theorem no62_87 (v : Value) (W : World) : (Instr.typeAssert (.iface 253 v) 216 236 true).run Tryz.prog W = .ok (.tuple #[.slice none 0 0, .bool false]) W := by kernel_rfl
theorem no65_69 (v : Value) (W : World) : (Instr.typeAssert (.iface 243 v) 216 239 true).run Tryz.prog W = .ok (.tuple #[.slice none 0 0, .bool false]) W := by kernel_rfl
theorem no65_80 (v : Value) (W : World) : (Instr.typeAssert (.iface 254 v) 216 239 true).run Tryz.prog W = .ok (.tuple #[.slice none 0 0, .bool false]) W := by kernel_rfl
theorem no65_84 (v : Value) (W : World) : (Instr.typeAssert (.iface 258 v) 216 239 true).run Tryz.prog W = .ok (.tuple #[.slice none 0 0, .bool false]) W := by kernel_rfl
theorem no65_87 (v : Value) (W : World) : (Instr.typeAssert (.iface 253 v) 216 239 true).run Tryz.prog W = .ok (.tuple #[.slice none 0 0, .bool false]) W := by kernel_rfl
theorem no69_80 (v : Value) (W : World) : (Instr.typeAssert (.iface 254 v) 216 243 true).run Tryz.prog W = .ok (.tuple #[.agg #[.nilIface, .bool false, .bool false], .bool false]) W := by kernel_rfl
theorem no69_84 (v : Value) (W : World) : (Instr.typeAssert (.iface 258 v) 216 243 true).run Tryz.prog W = .ok (.tuple #[.agg #[.nilIface, .bool false, .bool false], .bool false]) W := by kernel_rfl
theorem no69_87 (v : Value) (W : World) : (Instr.typeAssert (.iface 253 v) 216 243 true).run Tryz.prog W = .ok (.tuple #[.agg #[.nilIface, .bool false, .bool false], .bool false]) W := by kernel_rfl
theorem zch.put {w W w1 : World} {bp : Nat} {t a b c p q r : Value} {T : Eg × Gr} {e : Ending} (h : zch W bp t a b c T e w1) (hW : Below w.heap.size w W) (hk : Box3 W w.heap.size (.bool false) (.int .u64 0) (.int .u64 0) 225) (hlt : bp < w.heap.size) :
 GrAt (((w1.setCell ⟨w.heap.size, 0, none⟩ p).setCell ⟨w.heap.size, 1, none⟩ q).setCell ⟨w.heap.size, 2, none⟩ r) bp t a b c T.2 /\ Below bp w (((w1.setCell ⟨w.heap.size, 0, none⟩ p).setCell ⟨w.heap.size, 1, none⟩ q).setCell ⟨w.heap.size, 2, none⟩ r) /\ Tys w (((w1.setCell ⟨w.heap.size, 0, none⟩ p).setCell ⟨w.heap.size, 1, none⟩ q).setCell ⟨w.heap.size, 2, none⟩ r) :=
 zcK h.2.1 (hk.tys h.2.2.2 (by decide) (by decide) (by decide)) ((hW.mono (Nat.le_of_lt hlt)).trans h.2.2.1) ((Tys.of_below hW).trans h.2.2.2) (Nat.le_refl _) hlt
theorem lay_choice (l : List Pt) (hx : ∀ x ∈ l, LayC x) : LayC (.choice l) := by
 intro w bp t a b c v g h ht hs hok
 have hlt := h.lt
 cases ht with
 | choice o n cap vs _ hn hl hm hsee hkids =>
   have hb0 : Below w.heap.size w (w.alloc (Obj.cells #[.bool false, .int .u64 0, .int .u64 0] 225)) := (Below.refl _ _).alloc (Nat.le_refl _) _
   have hk0 : Box3 (w.alloc (Obj.cells #[.bool false, .int .u64 0, .int .u64 0] 225)) w.heap.size (.bool false) (.int .u64 0) (.int .u64 0) 225 := Array.getElem?_push_size
   have hL : ListAt w bp o vs l := ⟨hsee, by omega, hkids⟩
   have hL2 : ListAt (w.alloc (Obj.cells #[.bool false, .int .u64 0, .int .u64 0] 225)) bp o vs l := ⟨hsee.keep fun k hp hl => ⟨hb0.block k hl, hp⟩, hL.len, fun j u x hu hx => (hkids j u x hu hx).stays hb0⟩
   have HC := zh (layChoice_of l hx _ bp t a b c g o n cap vs (h.below hb0) hL2 hl hm hs hok)
   rw [layF]
   obtain ⟨T, hT⟩ : ∃ T, zaT l ⟨false, 0, 0⟩ g = T := ⟨_, rfl⟩
   rw [hT] at HC ⊢
   have HK := zh (And.intro hb0 hk0)
   clear h hsee hkids hL hL2 hb0 hk0 hT hs hok hx
   have i1 := is62
   go_enter Tryz.func176, Tryz.ntmps176
   go_wp2_with fail
   refine HC.out.mono ?_
   intro e w1 H1
   have h1 := H1
   obtain ⟨rfl, _, _, ht1⟩ := h1
   have hbx := HK.out.2.tys ht1 (by decide) (by decide) (by decide)
   obtain ⟨x0, x1, x2, y0, y1, y2⟩ := hbx.reads
   have HP := zh (fun p q r => zch.put (p := p) (q := q) (r := r) H1 HK.out.1 HK.out.2 hlt)
   clear H1 ht1 hbx HC
   go_wp2_with fail
   obtain ⟨k1, k2, k3⟩ := HP.out (.bool T.1.none) (.int .u64 (T.1.first : Int)) (.int .u64 (T.1.last : Int))
   refine bodyPost_ret (v := .agg #[.bool T.1.none, .int .u64 T.1.first, .int .u64 T.1.last]) (by simp [results, Tryz.results176, go_sem, x0, x1, x2]) rfl ⟨rfl, k1, k2, k3⟩
theorem lay_chain (l : List Pt) (hx : ∀ x ∈ l, LayC x) : LayC (.chain l) := by
 intro w bp t a b c v g h ht hs hok
 have hlt := h.lt
 cases ht with
 | chain o n cap vs _ hn hl hm hsee hkids =>
   have hb0 : Below w.heap.size w (w.alloc (Obj.cells #[.bool false, .int .u64 0, .int .u64 0] 225)) := (Below.refl _ _).alloc (Nat.le_refl _) _
   have hk0 : Box3 (w.alloc (Obj.cells #[.bool false, .int .u64 0, .int .u64 0] 225)) w.heap.size (.bool false) (.int .u64 0) (.int .u64 0) 225 := Array.getElem?_push_size
   have hL : ListAt w bp o vs l := ⟨hsee, by omega, hkids⟩
   have hL2 : ListAt (w.alloc (Obj.cells #[.bool false, .int .u64 0, .int .u64 0] 225)) bp o vs l := ⟨hsee.keep fun k hp hl => ⟨hb0.block k hl, hp⟩, hL.len, fun j u x hu hx => (hkids j u x hu hx).stays hb0⟩
   have HC := zh (layChain_of l hx _ bp t a b c g o n cap vs (h.below hb0) hL2 hl hm hs hok)
   rw [layF]
   obtain ⟨T, hT⟩ : ∃ T, zbo l ⟨true, 0, 0⟩ g = T := ⟨_, rfl⟩
   rw [hT] at HC ⊢
   have HK := zh (And.intro hb0 hk0)
   clear h hsee hkids hL hL2 hb0 hk0 hT hs hok hx
   have i1 := no62_65
   have i2 := is65
   go_enter Tryz.func176, Tryz.ntmps176
   go_wp2_with fail
   refine HC.out.mono ?_
   intro e w1 H1
   have h1 := H1
   obtain ⟨rfl, _, _, ht1⟩ := h1
   have hbx := HK.out.2.tys ht1 (by decide) (by decide) (by decide)
   obtain ⟨x0, x1, x2, y0, y1, y2⟩ := hbx.reads
   have HP := zh (fun p q r => zch.put (p := p) (q := q) (r := r) H1 HK.out.1 HK.out.2 hlt)
   clear H1 ht1 hbx HC
   go_wp2_with fail
   obtain ⟨k1, k2, k3⟩ := HP.out (.bool T.1.none) (.int .u64 (T.1.first : Int)) (.int .u64 (T.1.last : Int))
   refine bodyPost_ret (v := .agg #[.bool T.1.none, .int .u64 T.1.first, .int .u64 T.1.last]) (by simp [results, Tryz.results176, go_sem, x0, x1, x2]) rfl ⟨rfl, k1, k2, k3⟩
theorem lay_times (x : Pt) (a1 b1 : Bool) (hx : LayC x) : LayC (.times x a1 b1) := by
 intro w bp t a b c v g h ht hs hok
 have hlt := h.lt
 cases ht with
 | times v2 _ _ _ hv =>
   obtain ⟨tv, uv, rfl⟩ := hv.iface
   obtain ⟨W, hW⟩ : ∃ W, (w.alloc (Obj.cells #[.bool false, .int .u64 0, .int .u64 0] 225)).alloc (Obj.cells #[.iface tv uv, .bool a1, .bool b1] 243) = W := ⟨_, rfl⟩
   have hb0 : Below w.heap.size w W := by rw [<- hW]; exact ((Below.refl _ _).alloc (Nat.le_refl _) _).alloc (by simp) _
   have hk0 : Box3 W w.heap.size (.bool false) (.int .u64 0) (.int .u64 0) 225 := by
    unfold Box3
    rw [<- hW, Below.heap_alloc _ _ _ (by simp)]
    exact Array.getElem?_push_size
   have HC := zh (layTimes_of x hx a1 b1 W bp t a b c (.iface tv uv) g (h.below hb0) (hv.stays hb0) hs hok)
   rw [layF]
   obtain ⟨T, hT⟩ : ∃ T, zcw a1 b1 (layF x g) = T := ⟨_, rfl⟩
   rw [hT] at HC ⊢
   have HK := zh (And.intro hb0 hk0)
   have HW := zh hW
   clear h hv hb0 hk0 hT hs hok hx hW
   have i1 := no62_69
   have i2 := no65_69
   have i3 := is69
   go_enter Tryz.func176, Tryz.ntmps176
   go_wp2_with fail
   rw [HW.out]
   refine HC.out.mono ?_
   intro e w1 H1
   have h1 := H1
   obtain ⟨rfl, _, _, ht1⟩ := h1
   have hbx := HK.out.2.tys ht1 (by decide) (by decide) (by decide)
   obtain ⟨x0, x1, x2, y0, y1, y2⟩ := hbx.reads
   have HP := zh (fun p q r => zch.put (p := p) (q := q) (r := r) H1 HK.out.1 HK.out.2 hlt)
   clear H1 ht1 hbx HC
   go_wp2_with fail
   obtain ⟨k1, k2, k3⟩ := HP.out (.bool T.1.none) (.int .u64 (T.1.first : Int)) (.int .u64 (T.1.last : Int))
   refine bodyPost_ret (v := .agg #[.bool T.1.none, .int .u64 T.1.first, .int .u64 T.1.last]) (by simp [results, Tryz.results176, go_sem, x0, x1, x2]) rfl ⟨rfl, k1, k2, k3⟩
def AtomV (ty : TypeId) : Prop := (∀ (v : Value) (W : World), (Instr.typeAssert (.iface ty v) 216 236 true).run Tryz.prog W = .ok (.tuple #[.slice none 0 0, .bool false]) W) /\ (∀ (v : Value) (W : World), (Instr.typeAssert (.iface ty v) 216 239 true).run Tryz.prog W = .ok (.tuple #[.slice none 0 0, .bool false]) W) /\ ∀ (v : Value) (W : World), (Instr.typeAssert (.iface ty v) 216 243 true).run Tryz.prog W = .ok (.tuple #[.agg #[.nilIface, .bool false, .bool false], .bool false]) W
theorem zf6 (x : Pt) (hx1 : x.size = 1) (hf : ∀ g, layF x g = za8 x g) (ty : TypeId) (u : Value) (hA : AtomV ty) (w : World) (bp : Nat) (t a b c : Value) (g : Gr) (h : GrAt w bp t a b c g) (ht : Tree w (fun k => k < bp) (.iface ty u) x) (hs : g.atoms.length + x.size <= 64) (hok : GrOk g) :
 Calls Tryz.prog 176 #[.pointer (some ⟨bp, 1, none⟩), .iface ty u] w (zch w bp t a b c (layF x g)) := by
 have hlt := h.lt
 obtain ⟨W, hW⟩ : ∃ W, (w.alloc (Obj.cells #[.bool false, .int .u64 0, .int .u64 0] 225)).alloc (Obj.cells #[.nilIface, .bool false, .bool false] 243) = W := ⟨_, rfl⟩
 have hb0 : Below w.heap.size w W := by rw [<- hW]; exact ((Below.refl _ _).alloc (Nat.le_refl _) _).alloc (by simp) _
 have hk0 : Box3 W w.heap.size (.bool false) (.int .u64 0) (.int .u64 0) 225 := by
  unfold Box3
  rw [<- hW, Below.heap_alloc _ _ _ (by simp)]
  exact Array.getElem?_push_size
 have HC := zh (show Calls Tryz.prog 183 #[.pointer (some ⟨bp, 1, none⟩), .iface ty u] W (zch W bp t a b c (za8 x g)) from layAtom_any bp t a b c g (.iface ty u) x W (h.below hb0) (ht.stays hb0) (by omega) hok)
 rw [hf]
 obtain ⟨T, hT⟩ : ∃ T, za8 x g = T := ⟨_, rfl⟩
 rw [hT] at HC ⊢
 have HK := zh (And.intro hb0 hk0)
 have HW := zh hW
 obtain ⟨i1, i2, i3⟩ := hA
 clear h ht hb0 hk0 hT hs hok hx1 hf hW
 go_enter Tryz.func176, Tryz.ntmps176
 go_wp2_with fail
 rw [HW.out]
 refine HC.out.mono ?_
 intro e w1 H1
 have h1 := H1
 obtain ⟨rfl, _, _, ht1⟩ := h1
 have hbx := HK.out.2.tys ht1 (by decide) (by decide) (by decide)
 obtain ⟨x0, x1, x2, y0, y1, y2⟩ := hbx.reads
 have HP := zh (fun p q r => zch.put (p := p) (q := q) (r := r) H1 HK.out.1 HK.out.2 hlt)
 clear H1 ht1 hbx HC
 go_wp2_with fail
 obtain ⟨k1, k2, k3⟩ := HP.out (.bool T.1.none) (.int .u64 (T.1.first : Int)) (.int .u64 (T.1.last : Int))
 refine bodyPost_ret (v := .agg #[.bool T.1.none, .int .u64 T.1.first, .int .u64 T.1.last]) (by simp [results, Tryz.results176, go_sem, x0, x1, x2]) rfl ⟨rfl, k1, k2, k3⟩
theorem zf7 : ∀ x : Pt, LayC x
 | .choice l => lay_choice l (fun y hy => zf7 y)
 | .chain l => lay_chain l (fun y hy => zf7 y)
 | .times x a b => lay_times x a b (zf7 x)
 | .only r => fun w bp t a b c v g h ht hs hok => by
   cases ht with
   | only r => exact zf6 (.only r) rfl (fun g => by rw [layF]) 254 _ ⟨no62_80, no65_80, no69_80⟩ w bp t a b c g h (.only r) hs hok
 | .cls n xs => fun w bp t a b c v g h ht hs hok => by
   cases ht with
   | cls _ o k cap _ hn hm hse => exact zf6 (.cls n xs) rfl (fun g => by rw [layF]) 258 _ ⟨no62_84, no65_84, no69_84⟩ w bp t a b c g h (.cls n o k cap xs hn hm hse) hs hok
 | .dot => fun w bp t a b c v g h ht hs hok => by
   cases ht with
   | dot => exact zf6 .dot rfl (fun g => by rw [layF]) 253 _ ⟨no62_87, no65_87, no69_87⟩ w bp t a b c g h .dot hs hok
end Go.Proofs.YtbcemjhaecelnaaGreatDoor.Pat
end
section
namespace Go.Proofs.YtbcemjhaecelnaaGreatDoor.Pat
def hasF (xs : List (Int × Int)) (r : Int) : Bool := xs.any fun x => decide (x.1 <= r) && decide (r <= x.2)
def fitsF : Pt -> Int -> Bool
 | .only o, r => o == r
 | .cls n xs, r => hasF xs r != n
 | .dot, _ => true
 | _, _ => false
def ziF (l : List Pt) (op : Nat) (r : Int) : Nat -> Nat
 | 0 => 0
 | k + 1 => if op.testBit k && fitsF (l.getD k (.choice [])) r then ziF l op r k ||| 2 ^ k else ziF l op r k
def hitF (g : Gr) (op : Nat) (r : Int) : Nat := ziF g.atoms op r g.atoms.length
end Go.Proofs.YtbcemjhaecelnaaGreatDoor.Pat
end
section
namespace Go.Proofs.YtbcemjhaecelnaaGreatDoor.Pat
end Go.Proofs.YtbcemjhaecelnaaGreatDoor.Pat
end
end
