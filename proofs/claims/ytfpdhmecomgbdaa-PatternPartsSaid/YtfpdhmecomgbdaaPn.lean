/- Patterns: parts that stand one behind the other are laid. -/
import Derived.Test.YtfpdhmecomgbdaaPm
namespace Go.Proofs.Ytfpdhmecomgbdaa
open Go.RowKit

/-- The walk's state between two stores. -/
structure LaysW (w : World) (bp k0 : Nat) (t a b c : Value) (wr : World) (x y z : Value) (g : Gr) : Prop where
  gr : GrAt wr bp t a b c g
  res : Box3 wr k0 (.bool false) (.int .u64 0) (.int .u64 0) 49
  all : Box3 wr (k0 + 1) x y z 49
  below : Below bp w wr
  tys : Tys w wr
  base : w.heap.size ≤ k0
  far : bp < w.heap.size
theorem LaysW.step {w wr : World} {bp k0 : Nat} {t a b c x y z x' y' z' u : Value} {g : Gr} (i : Nat) (h : LaysW w bp k0 t a b c wr x y z g) (he : #[x, y, z].setIfInBounds i u = #[x', y', z']) : LaysW w bp k0 t a b c (wr.setCell ⟨k0 + 1, i, none⟩ u) x' y' z' g := by
  have hb := h.base
  have hf := h.far
  refine ⟨h.gr.setBox h.all (by decide) (by decide) (by omega), h.res.set (by omega), ?_, h.below.setCell (by show bp ≤ k0 + 1; omega) _, h.tys.setNew (by omega) _ _, hb, hf⟩
  have := heap_setCell_same wr (k0 + 1) i _ 49 u h.all
  rw [he] at this
  exact this
theorem LaysW.done {w wr : World} {bp k0 : Nat} {t a b c : Value} {e : Eg} {g : Gr} (h : LaysW w bp k0 t a b c wr (.bool e.none) (.int .u64 (e.first : Int)) (.int .u64 (e.last : Int)) g) (hok : GrOk g) (hs : e.first < 2 ^ g.atoms.length ∧ e.last < 2 ^ g.atoms.length) : LaysAt w bp k0 t a b c wr e g :=
  ⟨h.gr, h.res, h.all, h.below, h.tys, hok, hs, h.base, h.far⟩
def SeqLoop (w : World) (bp k0 : Nat) (t a b c : Value) (l : List Pt) (T : Eg × Gr) (n : Nat) (k : Nat) (v : Value) (wr : World) : Prop := ∃ i e g, k + i = n ∧ v = .int .i64 (i : Nat) ∧ LaysAt w bp k0 t a b c wr e g ∧ laySeq (l.drop i) e g = T ∧ g.atoms.length + sizes (l.drop i) ≤ 64

set_option maxHeartbeats 4000000 in
set_option maxRecDepth 100000 in
theorem layChain_of (l : List Pt) (hx : ∀ x ∈ l, LayC x) (w : World) (bp : Nat) (t a b c : Value) (g : Gr) (o : Option Addr) (n cap : Nat) (vs : List Value) (h : GrAt w bp t a b c g) (hL : ListAt w bp o vs l) (hn : l.length = n) (hm : n ≤ 2000000) (hs : g.atoms.length + sizes l ≤ 64) (hok : GrOk g) :
    Calls Try.prog 26 #[.pointer (some ⟨bp, 1, none⟩), .slice o n cap] w (LayRes w bp t a b c (laySeq l ⟨true, 0, 0⟩ g)) := by
  have hlt := h.lt
  obtain ⟨W, hW⟩ : ∃ W, (w.alloc (Obj.cells #[.bool false, .int .u64 0, .int .u64 0] 49)).alloc (Obj.cells #[.bool true, .int .u64 0, .int .u64 0] 49) = W := ⟨_, rfl⟩
  have hb0 : Below w.heap.size w W := by rw [← hW]; exact ((Below.refl _ _).alloc (Nat.le_refl _) _).alloc (by simp) _
  have hk0 : Box3 W w.heap.size (.bool false) (.int .u64 0) (.int .u64 0) 49 := by
    unfold Box3
    rw [← hW, Below.heap_alloc _ _ _ (by simp)]
    exact Array.getElem?_push_size
  have hk1 : Box3 W (w.heap.size + 1) (.bool true) (.int .u64 0) (.int .u64 0) 49 := by
    unfold Box3
    rw [← hW]
    have := Array.getElem?_push_size (xs := (w.alloc (Obj.cells #[.bool false, .int .u64 0, .int .u64 0] 49)).heap) (x := Obj.cells #[.bool true, .int .u64 0, .int .u64 0] 49)
    rw [World.size_alloc] at this
    exact this
  obtain ⟨T, hT⟩ : ∃ T, laySeq l ⟨true, 0, 0⟩ g = T := ⟨_, rfl⟩
  have HST : SeqLoop w bp w.heap.size t a b c l T n n (.int .i64 (0 : Nat)) W :=
    ⟨0, ⟨true, 0, 0⟩, g, rfl, rfl, ⟨h.below hb0, hk0, hk1, hb0.mono (Nat.le_of_lt hlt), Tys.of_below hb0, hok, ⟨Nat.two_pow_pos _, Nat.two_pow_pos _⟩, Nat.le_refl _, hlt⟩, hT, by simpa using hs⟩
  rw [hT]
  have HX := Lib.hid hx
  have HLI := Lib.hid hL
  have HN := Lib.hid hn
  have HW := Lib.hid hW
  clear h hL hn hW hb0 hk0 hk1 hT hs hok hx
  go_enter Try.func26, Try.ntmps26
  go_wp2_with fail
  rw [HW.out]
  go_loopg [12] n (fun k v wr => SeqLoop w bp w.heap.size t a b c l T n k v wr)
  case atStart => exact HST
  case round =>
    clear HST
    obtain ⟨i, e, g2, hgk, rfl, H, hT, hs⟩ := hrel
    have HH := Lib.hid H
    have HGK := Lib.hid hgk
    obtain ⟨q0, q1, q2, g0, g1, gq2⟩ := H.all.reads
    by_cases hin : i < n
    · have i1 : (i : Int) < n := by omega
      obtain ⟨x, hxi⟩ : ∃ x, l[i]? = some x := ⟨_, List.getElem?_eq_getElem (by rw [HN.out]; exact hin)⟩
      obtain ⟨b2, off, v2, rfl, hc, htr⟩ := HLI.out.at H.below hxi
      have hd := drop_at hxi
      rw [hd] at hT hs
      rw [laySeq] at hT
      simp only [sizes] at hs
      have hfok := layF_ok x g2 H.ok
      have HL := Lib.hid (HX.out x (List.mem_of_getElem? hxi) wr bp t a b c v2 g2 H.gr htr (by omega) H.ok)
      obtain ⟨E, G, hp⟩ : ∃ E G, layF x g2 = (E, G) := ⟨_, _, rfl⟩
      rw [hp] at HL hfok hT
      obtain ⟨en, ef, el⟩ := E
      obtain ⟨o1, o2, o3, o4⟩ := hfok
      dsimp only at o1 o2 o3 o4 hT
      obtain ⟨an, af, al⟩ := e
      have hsm := H.small
      dsimp only at hsm q0 q1 q2 hT
      have h64 : ∀ m : Nat, m < 2 ^ G.atoms.length → m < 2 ^ 64 := fun m hm => pow_mono hm (by omega)
      rw [← o2] at o3 o4
      have ha1 : af < 2 ^ G.atoms.length := pow_mono hsm.1 (by omega)
      have ha2 : al < 2 ^ G.atoms.length := pow_mono hsm.2 (by omega)
      have hor1 := or_at (h64 _ ha1) (h64 _ o3)
      have hor2 := or_at (h64 _ ha2) (h64 _ o4)
      have HLK := Lib.hid (fun (W2 : World) (h2 : GrAt W2 bp t a b c G) => link_any bp t a b c G al ef W2 h2 (by rw [o1.len]; omega) (h64 _ ha2) (h64 _ o3) (fun m hm => h64 _ (o1.small m hm)))
      have HG3 := Lib.hid (show GrOk ⟨G.atoms, linkF G.thn al ef⟩ from ⟨by rw [linkF_len]; exact o1.len, linkF_small o1.small o3⟩)
      have HS := Lib.hid (show (af ||| ef < 2 ^ G.atoms.length ∧ al ||| el < 2 ^ G.atoms.length) ∧ af < 2 ^ G.atoms.length ∧ el < 2 ^ G.atoms.length from ⟨⟨pow_or ha1 o3, pow_or ha2 o4⟩, ha1, o4⟩)
      obtain ⟨F1, hF1⟩ : ∃ F, af ||| ef = F := ⟨_, rfl⟩
      obtain ⟨F2, hF2⟩ : ∃ F, al ||| el = F := ⟨_, rfl⟩
      rw [hF1] at hor1 HS
      rw [hF2] at hor2 HS
      have HT := Lib.hid (show laySeq (l.drop (i + 1)) ⟨an && en, if an then F1 else af, if en then F2 else el⟩ ⟨G.atoms, linkF G.thn al ef⟩ = T by rw [← hF1, ← hF2]; exact hT)
      have HSZ := Lib.hid (show G.atoms.length + sizes (l.drop (i + 1)) ≤ 64 by omega)
      obtain ⟨tv, uv, rfl⟩ := htr.iface
      clear hgk H hT hs hd hxi htr hp o1 o2 o3 o4 hsm h64 ha1 ha2 hF1 hF2
      go_wp2_with fail
      refine HL.out.mono ?_
      rintro e w1 ⟨rfl, hg1, hb1, ht1⟩
      clear q0 q1 q2 g0 g1 gq2 hc
      have hK0 := HH.out.res.tys ht1 (by decide) (by decide) (by decide)
      have hK1 := HH.out.all.tys ht1 (by decide) (by decide) (by decide)
      obtain ⟨q0, q1, q2, g0, g1, gq2⟩ := hK1.reads
      have hsz : w.heap.size + 1 < w1.heap.size := (Array.getElem?_eq_some_iff.1 hK1).1
      have hsz0 : w.heap.size < w1.heap.size := by omega
      obtain ⟨W2, hW2⟩ : ∃ W2, w1.alloc (Obj.cells #[.bool en, .int .u64 (ef : Int), .int .u64 (el : Int)] 49) = W2 := ⟨_, rfl⟩
      have hb2 : Below w1.heap.size w1 W2 := by rw [← hW2]; exact (Below.refl _ _).alloc (Nat.le_refl _) _
      have H2 := Lib.hid (show LaysW w bp w.heap.size t a b c W2 (.bool an) (.int .u64 (af : Int)) (.int .u64 (al : Int)) G ∧ Box3 W2 w1.heap.size (.bool en) (.int .u64 (ef : Int)) (.int .u64 (el : Int)) 49 from
        ⟨⟨hg1.below hb2, hK0.below hb2, hK1.below hb2, (HH.out.below.trans hb1).trans (hb2.mono (by omega)), (HH.out.tys.trans ht1).trans (Tys.of_below hb2), Nat.le_refl _, hlt⟩, by unfold Box3; rw [← hW2]; exact Array.getElem?_push_size⟩)
      have HW2 := Lib.hid hW2
      clear hg1 hb1 ht1 hK0 hK1 hW2 hb2
      go_wp2_with fail
      rw [HW2.out]
      clear q0 q1 q2 g0 g1 gq2
      refine (HLK.out W2 H2.out.1.gr).mono ?_
      rintro e w3 ⟨rfl, hg3, hb3, ht3⟩
      have H4 := Lib.hid (show LaysW w bp w.heap.size t a b c w3 (.bool an) (.int .u64 (af : Int)) (.int .u64 (al : Int)) ⟨G.atoms, linkF G.thn al ef⟩ from
        ⟨hg3, H2.out.1.res.tys ht3 (by decide) (by decide) (by decide), H2.out.1.all.tys ht3 (by decide) (by decide) (by decide), H2.out.1.below.trans hb3, H2.out.1.tys.trans ht3, Nat.le_refl _, hlt⟩)
      have hk2 := H2.out.2.tys ht3 (by decide) (by decide) (by decide)
      obtain ⟨q0, q1, q2, g0, g1, gq2⟩ := H4.out.all.reads
      obtain ⟨p0, p1, p2, _, _, _⟩ := hk2.reads
      have hne : w.heap.size + 1 ≠ w1.heap.size := by omega
      clear hg3 hb3 ht3 hk2
      cases an with
      | true =>
        cases en with
        | true =>
          have HT2 := Lib.hid (show laySeq (l.drop (i + 1)) ⟨true, F1, F2⟩ ⟨G.atoms, linkF G.thn al ef⟩ = T from HT.out)
          go_wp2_with fail
          go_roundg (gk - 1)
          case measure => have := HGK.out; omega
          case rel => exact ⟨i + 1, ⟨true, F1, F2⟩, ⟨G.atoms, linkF G.thn al ef⟩, by have := HGK.out; omega, by go_num, LaysW.done (e := ⟨true, F1, F2⟩) (((H4.out.step (x' := .bool true) (y' := .int .u64 (F1 : Int)) (z' := .int .u64 (al : Int)) 1 rfl).step (x' := .bool true) (y' := .int .u64 (F1 : Int)) (z' := .int .u64 (F2 : Int)) 2 rfl).step (x' := .bool true) (y' := .int .u64 (F1 : Int)) (z' := .int .u64 (F2 : Int)) 0 rfl) HG3.out ⟨HS.out.1.1, HS.out.1.2⟩, HT2.out, HSZ.out⟩
        | false =>
          have HT2 := Lib.hid (show laySeq (l.drop (i + 1)) ⟨false, F1, el⟩ ⟨G.atoms, linkF G.thn al ef⟩ = T from HT.out)
          go_wp2_with fail
          go_roundg (gk - 1)
          case measure => have := HGK.out; omega
          case rel => exact ⟨i + 1, ⟨false, F1, el⟩, ⟨G.atoms, linkF G.thn al ef⟩, by have := HGK.out; omega, by go_num, LaysW.done (e := ⟨false, F1, el⟩) (((H4.out.step (x' := .bool true) (y' := .int .u64 (F1 : Int)) (z' := .int .u64 (al : Int)) 1 rfl).step (x' := .bool true) (y' := .int .u64 (F1 : Int)) (z' := .int .u64 (el : Int)) 2 rfl).step (x' := .bool false) (y' := .int .u64 (F1 : Int)) (z' := .int .u64 (el : Int)) 0 rfl) HG3.out ⟨HS.out.1.1, HS.out.2.2⟩, HT2.out, HSZ.out⟩
      | false =>
        cases en with
        | true =>
          have HT2 := Lib.hid (show laySeq (l.drop (i + 1)) ⟨false, af, F2⟩ ⟨G.atoms, linkF G.thn al ef⟩ = T from HT.out)
          go_wp2_with fail
          go_roundg (gk - 1)
          case measure => have := HGK.out; omega
          case rel => exact ⟨i + 1, ⟨false, af, F2⟩, ⟨G.atoms, linkF G.thn al ef⟩, by have := HGK.out; omega, by go_num, LaysW.done (e := ⟨false, af, F2⟩) ((H4.out.step (x' := .bool false) (y' := .int .u64 (af : Int)) (z' := .int .u64 (F2 : Int)) 2 rfl).step (x' := .bool false) (y' := .int .u64 (af : Int)) (z' := .int .u64 (F2 : Int)) 0 rfl) HG3.out ⟨HS.out.2.1, HS.out.1.2⟩, HT2.out, HSZ.out⟩
        | false =>
          have HT2 := Lib.hid (show laySeq (l.drop (i + 1)) ⟨false, af, el⟩ ⟨G.atoms, linkF G.thn al ef⟩ = T from HT.out)
          go_wp2_with fail
          go_roundg (gk - 1)
          case measure => have := HGK.out; omega
          case rel => exact ⟨i + 1, ⟨false, af, el⟩, ⟨G.atoms, linkF G.thn al ef⟩, by have := HGK.out; omega, by go_num, LaysW.done (e := ⟨false, af, el⟩) ((H4.out.step (x' := .bool false) (y' := .int .u64 (af : Int)) (z' := .int .u64 (el : Int)) 2 rfl).step (x' := .bool false) (y' := .int .u64 (af : Int)) (z' := .int .u64 (el : Int)) 0 rfl) HG3.out ⟨HS.out.2.1, HS.out.2.2⟩, HT2.out, HSZ.out⟩
    · have i1 : (n : Int) ≤ i := by omega
      have hdn : l.drop i = [] := List.drop_eq_nil_of_le (by rw [HN.out]; omega)
      have HT2 := Lib.hid (show T = (e, g2) by rw [← hT, hdn]; rfl)
      obtain ⟨an, af, al⟩ := e
      dsimp only at q0 q1 q2
      obtain ⟨x0, x1, x2, y0, y1, y2⟩ := H.res.reads
      obtain ⟨k1, k2, k3⟩ := put_done (p := .bool an) (q := .int .u64 (af : Int)) (r := .int .u64 (al : Int)) H.gr H.res H.below H.tys H.base hlt
      have HK := Lib.hid (And.intro k1 (And.intro k2 k3))
      clear hgk H hT hs hdn k1 k2 k3
      go_wp2_with fail
      refine bodyPost_ret (v := .agg #[.bool an, .int .u64 af, .int .u64 al]) (by simp [results, Try.results26, go_sem, x0, x1, x2]) rfl ?_
      rw [HT2.out]
      exact ⟨rfl, HK.out.1, HK.out.2.1, HK.out.2.2⟩
end Go.Proofs.Ytfpdhmecomgbdaa
