/- Patterns: alternatives are laid. -/
import Derived.Test.YtfpdhmecomgbdaaPl
namespace Go.Proofs.Ytfpdhmecomgbdaa
open Go.RowKit

/-- The walk's state over a list of parts: the rest comes to T. -/
structure LaysAt (w : World) (bp k0 : Nat) (t a b c : Value) (wr : World) (e : Eg) (g : Gr) : Prop where
  gr : GrAt wr bp t a b c g
  res : Box3 wr k0 (.bool false) (.int .u64 0) (.int .u64 0) 49
  all : Box3 wr (k0 + 1) (.bool e.none) (.int .u64 (e.first : Int)) (.int .u64 (e.last : Int)) 49
  below : Below bp w wr
  tys : Tys w wr
  ok : GrOk g
  small : e.first < 2 ^ g.atoms.length ∧ e.last < 2 ^ g.atoms.length
  base : w.heap.size ≤ k0
  far : bp < w.heap.size
def AltLoop (w : World) (bp k0 : Nat) (t a b c : Value) (l : List Pt) (T : Eg × Gr) (n : Nat) (k : Nat) (v : Value) (wr : World) : Prop := ∃ i e g, k + i = n ∧ v = .int .i64 (i : Nat) ∧ LaysAt w bp k0 t a b c wr e g ∧ layAlts (l.drop i) e g = T ∧ g.atoms.length + sizes (l.drop i) ≤ 64
theorem drop_at {l : List Pt} {i : Nat} {x : Pt} (h : l[i]? = some x) : l.drop i = x :: l.drop (i + 1) := by
  obtain ⟨h1, h2⟩ := List.getElem?_eq_some_iff.1 h
  rw [List.drop_eq_getElem_cons h1, h2]
/-- The list's own cells, under the pattern's block. -/
structure ListAt (w : World) (bp : Nat) (o : Option Addr) (vs : List Value) (l : List Pt) : Prop where
  sees : SeesV w (fun k => k < bp) o vs
  len : vs.length = l.length
  kids : ∀ (j : Nat) v x, vs[j]? = some v → l[j]? = some x → Tree w (fun k => k < bp) v x
theorem ListAt.at {w wr : World} {bp : Nat} {o : Option Addr} {vs : List Value} {l : List Pt} (h : ListAt w bp o vs l) (hb : Below bp w wr) {i : Nat} {x : Pt} (hx : l[i]? = some x) : ∃ b off v, o = some ⟨b, off, none⟩ ∧ wr.cell? ⟨b, off + i, none⟩ = some v ∧ Tree wr (fun k => k < bp) v x := by
  have hi := (List.getElem?_eq_some_iff.1 hx).1
  obtain ⟨v, hv⟩ : ∃ v, vs[i]? = some v := ⟨_, List.getElem?_eq_getElem (by rw [h.len]; exact hi)⟩
  rcases h.sees with h0 | ⟨b, off, e, hp, hl, hs⟩
  · rw [h0] at hv; simp at hv
  · exact ⟨b, off, v, e, (hb.cell (p := ⟨b, off + i, none⟩) hp).trans (hs i v hv), (h.kids i v x hv hx).under hb⟩

theorem Box3.put {w : World} {k : Nat} {a b c p q r : Value} {t : TypeId} (h : Box3 w k a b c t) : Box3 (((w.setCell ⟨k, 0, none⟩ p).setCell ⟨k, 1, none⟩ q).setCell ⟨k, 2, none⟩ r) k p q r t := by
  have e1 : (w.setCell ⟨k, 0, none⟩ p).heap[k]? = some (.cells (#[a, b, c].setIfInBounds 0 p) t (0, 0)) := heap_setCell_same w k 0 _ t p h
  have e2 := heap_setCell_same _ k 1 _ t q e1
  exact heap_setCell_same _ k 2 _ t r e2
theorem lays_put {w w1 : World} {bp k0 F1 F2 : Nat} {t a b c x y z : Value} {an : Bool} {G : Gr} (o : Obj) (h : GrAt w1 bp t a b c G ∧ Box3 w1 k0 (.bool false) (.int .u64 0) (.int .u64 0) 49 ∧ Box3 w1 (k0 + 1) x y z 49 ∧ Below bp w w1 ∧ Tys w w1) (hok : GrOk G) (hs : F1 < 2 ^ G.atoms.length ∧ F2 < 2 ^ G.atoms.length) (hb : w.heap.size ≤ k0) (hf : bp < w.heap.size) :
    LaysAt w bp k0 t a b c ((((w1.setCell ⟨k0 + 1, 0, none⟩ (.bool an)).setCell ⟨k0 + 1, 1, none⟩ (.int .u64 (F1 : Int))).setCell ⟨k0 + 1, 2, none⟩ (.int .u64 (F2 : Int))).alloc o) ⟨an, F1, F2⟩ G := by
  obtain ⟨h1, h2, h3, h4, h5⟩ := h
  obtain ⟨k1, k2, k3⟩ := put_alloc (p := .bool an) (q := .int .u64 (F1 : Int)) (r := .int .u64 (F2 : Int)) o h1 h3 h4 h5 (by omega) hf
  have ha : ∀ W : World, Below W.heap.size W (W.alloc o) := fun W => (Below.refl _ _).alloc (Nat.le_refl _) _
  exact ⟨k1, (((h2.set (by omega)).set (by omega)).set (by omega)).below (ha _), h3.put.below (ha _), k2, k3, hok, hs, hb, hf⟩

set_option maxHeartbeats 4000000 in
set_option maxRecDepth 100000 in
theorem layChoice_of (l : List Pt) (hx : ∀ x ∈ l, LayC x) (w : World) (bp : Nat) (t a b c : Value) (g : Gr) (o : Option Addr) (n cap : Nat) (vs : List Value) (h : GrAt w bp t a b c g) (hL : ListAt w bp o vs l) (hn : l.length = n) (hm : n ≤ 2000000) (hs : g.atoms.length + sizes l ≤ 64) (hok : GrOk g) :
    Calls Try.prog 25 #[.pointer (some ⟨bp, 1, none⟩), .slice o n cap] w (LayRes w bp t a b c (layAlts l ⟨false, 0, 0⟩ g)) := by
  have hlt := h.lt
  obtain ⟨W, hW⟩ : ∃ W, (w.alloc (Obj.cells #[.bool false, .int .u64 0, .int .u64 0] 49)).alloc (Obj.cells #[.bool false, .int .u64 0, .int .u64 0] 49) = W := ⟨_, rfl⟩
  have hb0 : Below w.heap.size w W := by rw [← hW]; exact ((Below.refl _ _).alloc (Nat.le_refl _) _).alloc (by simp) _
  have hk0 : Box3 W w.heap.size (.bool false) (.int .u64 0) (.int .u64 0) 49 := by
    unfold Box3
    rw [← hW, Below.heap_alloc _ _ _ (by simp)]
    exact Array.getElem?_push_size
  have hk1 : Box3 W (w.heap.size + 1) (.bool false) (.int .u64 0) (.int .u64 0) 49 := by
    unfold Box3
    rw [← hW]
    have := Array.getElem?_push_size (xs := (w.alloc (Obj.cells #[.bool false, .int .u64 0, .int .u64 0] 49)).heap) (x := Obj.cells #[.bool false, .int .u64 0, .int .u64 0] 49)
    rw [World.size_alloc] at this
    exact this
  obtain ⟨T, hT⟩ : ∃ T, layAlts l ⟨false, 0, 0⟩ g = T := ⟨_, rfl⟩
  have HST : AltLoop w bp w.heap.size t a b c l T n n (.int .i64 (0 : Nat)) W :=
    ⟨0, ⟨false, 0, 0⟩, g, rfl, rfl, ⟨h.below hb0, hk0, hk1, hb0.mono (Nat.le_of_lt hlt), Tys.of_below hb0, hok, ⟨Nat.two_pow_pos _, Nat.two_pow_pos _⟩, Nat.le_refl _, hlt⟩, hT, by simpa using hs⟩
  rw [hT]
  have HX := Lib.hid hx
  have HLI := Lib.hid hL
  have HN := Lib.hid hn
  have HW := Lib.hid hW
  clear h hL hn hW hb0 hk0 hk1 hT hs hok hx
  go_enter Try.func25, Try.ntmps25
  go_wp2_with fail
  rw [HW.out]
  go_loopg [11] n (fun k v wr => AltLoop w bp w.heap.size t a b c l T n k v wr)
  case atStart => exact HST
  case round =>
    clear HST
    obtain ⟨i, e, g2, hgk, rfl, H, hT, hs⟩ := hrel
    have HH := Lib.hid H
    have HGK := Lib.hid hgk
    obtain ⟨q0, q1, q2, g0, g1, gq2⟩ := H.all.reads
    by_cases hin : i < n
    · have i1 : (i : Int) < n := by omega
      obtain ⟨x, hxi⟩ : ∃ x, l[i]? = some x := ⟨_, List.getElem?_eq_getElem (by rw [HN.out]; exact hin)⟩
      obtain ⟨b2, off, v2, rfl, hc, htr⟩ := HLI.out.at H.below hxi
      have hd := drop_at hxi
      rw [hd] at hT hs
      rw [layAlts] at hT
      simp only [sizes] at hs
      have hfok := layF_ok x g2 H.ok
      have HL := Lib.hid (HX.out x (List.mem_of_getElem? hxi) wr bp t a b c v2 g2 H.gr htr (by omega) H.ok)
      obtain ⟨E, G, hp⟩ : ∃ E G, layF x g2 = (E, G) := ⟨_, _, rfl⟩
      rw [hp] at HL hfok hT
      obtain ⟨en, ef, el⟩ := E
      obtain ⟨o1, o2, o3, o4⟩ := hfok
      dsimp only at o1 o2 o3 o4 hT
      obtain ⟨an, af, al⟩ := e
      have hsm := H.small
      dsimp only at hsm q0 q1 q2
      have h64 : ∀ m : Nat, m < 2 ^ G.atoms.length → m < 2 ^ 64 := fun m hm => pow_mono hm (by omega)
      rw [← o2] at o3 o4
      have ha1 : af < 2 ^ G.atoms.length := pow_mono hsm.1 (by omega)
      have ha2 : al < 2 ^ G.atoms.length := pow_mono hsm.2 (by omega)
      have hor1 := or_at (h64 _ ha1) (h64 _ o3)
      have hor2 := or_at (h64 _ ha2) (h64 _ o4)
      have HS := Lib.hid (show af ||| ef < 2 ^ G.atoms.length ∧ al ||| el < 2 ^ G.atoms.length from ⟨pow_or ha1 o3, pow_or ha2 o4⟩)
      obtain ⟨F1, hF1⟩ : ∃ F, af ||| ef = F := ⟨_, rfl⟩
      obtain ⟨F2, hF2⟩ : ∃ F, al ||| el = F := ⟨_, rfl⟩
      rw [hF1] at hor1 HS
      rw [hF2] at hor2 HS
      have HT := Lib.hid (show layAlts (l.drop (i + 1)) ⟨an || en, F1, F2⟩ G = T by rw [← hF1, ← hF2]; exact hT)
      have HSZ := Lib.hid (show G.atoms.length + sizes (l.drop (i + 1)) ≤ 64 by omega)
      have HOK := Lib.hid o1
      obtain ⟨tv, uv, rfl⟩ := htr.iface
      clear hgk H hT hs hd hxi htr hp o1 o2 o3 o4 hsm h64 ha1 ha2 hF1 hF2
      go_wp2_with fail
      refine HL.out.mono ?_
      rintro e w1 ⟨rfl, hg1, hb1, ht1⟩
      clear q0 q1 q2 g0 g1 gq2 hc
      have hK0 := HH.out.res.tys ht1 (by decide) (by decide) (by decide)
      have hK1 := HH.out.all.tys ht1 (by decide) (by decide) (by decide)
      have HG1 := Lib.hid (show GrAt w1 bp t a b c G ∧ Box3 w1 w.heap.size (.bool false) (.int .u64 0) (.int .u64 0) 49 ∧ Box3 w1 (w.heap.size + 1) (.bool an) (.int .u64 (af : Int)) (.int .u64 (al : Int)) 49 ∧ Below bp w w1 ∧ Tys w w1 from ⟨hg1, hK0, hK1, HH.out.below.trans hb1, HH.out.tys.trans ht1⟩)
      obtain ⟨q0, q1, q2, g0, g1, gq2⟩ := hK1.reads
      have hsz : w.heap.size + 1 < w1.heap.size := (Array.getElem?_eq_some_iff.1 hK1).1
      clear hg1 hb1 ht1 hK0 hK1
      cases an with
      | true =>
        have HT2 := Lib.hid (show layAlts (l.drop (i + 1)) ⟨true, F1, F2⟩ G = T from HT.out)
        go_wp2_with fail
        go_roundg (gk - 1)
        case measure => have := HGK.out; omega
        case rel => exact ⟨i + 1, ⟨true, F1, F2⟩, G, by have := HGK.out; omega, by go_num, lays_put _ HG1.out HOK.out HS.out (Nat.le_refl _) hlt, HT2.out, HSZ.out⟩
      | false =>
        have HT2 := Lib.hid (show layAlts (l.drop (i + 1)) ⟨en, F1, F2⟩ G = T from HT.out)
        go_wp2_with fail
        go_roundg (gk - 1)
        case measure => have := HGK.out; omega
        case rel => exact ⟨i + 1, ⟨en, F1, F2⟩, G, by have := HGK.out; omega, by go_num, lays_put _ HG1.out HOK.out HS.out (Nat.le_refl _) hlt, HT2.out, HSZ.out⟩
    · have i1 : (n : Int) ≤ i := by omega
      have hdn : l.drop i = [] := List.drop_eq_nil_of_le (by rw [HN.out]; omega)
      have HT2 := Lib.hid (show T = (e, g2) by rw [← hT, hdn]; rfl)
      obtain ⟨an, af, al⟩ := e
      dsimp only at q0 q1 q2
      obtain ⟨x0, x1, x2, y0, y1, y2⟩ := H.res.reads
      obtain ⟨k1, k2, k3⟩ := put_done (p := .bool an) (q := .int .u64 (af : Int)) (r := .int .u64 (al : Int)) H.gr H.res H.below H.tys H.base hlt
      have HK := Lib.hid (And.intro k1 (And.intro k2 k3))
      clear hgk H hT hs hdn k1 k2 k3
      go_wp2_with fail
      refine bodyPost_ret (v := .agg #[.bool an, .int .u64 af, .int .u64 al]) (by simp [results, Try.results25, go_sem, x0, x1, x2]) rfl ?_
      rw [HT2.out]
      exact ⟨rfl, HK.out.1, HK.out.2.1, HK.out.2.2⟩
end Go.Proofs.Ytfpdhmecomgbdaa
