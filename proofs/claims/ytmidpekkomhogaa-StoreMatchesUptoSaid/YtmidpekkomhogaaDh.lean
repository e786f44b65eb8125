/- The document's patterns read: a class. -/
import Derived.Test.YtmidpekkomhogaaDg
namespace Go.Proofs.Ytmidpekkomhogaa.Dpt
open Go.RowKit Go.Lib
open Go.Proofs.Ytmidpekkomhogaa.Pat

theorem row_keep {w W : World} {B e sz n : Nat} {v : Value} {xs : List Value} (h : w.ownsRow B e sz v n xs) (hk : ∀ g, v.ownBlock = some g → W.heap[g]? = w.heap[g]?) : W.ownsRow B e sz v n xs :=
  ⟨h.1, h.2.imp id fun ⟨g, cap, cur, h1, h2, h3⟩ => ⟨g, cap, cur, h1, h2, (hk g (by rw [h1]; rfl)).trans h3.1, h3.2⟩⟩
/-- The parts that there are lie below. -/
def Lo (w : World) (bp pb : Nat) : Prop := ∀ v, w.cell? ⟨bp, 0, none⟩ = some v → ∀ g, v.ownBlock = some g → g < pb
theorem DP.keepLo {w W : World} {bp pb : Nat} {rs : List Int} {a : Nat} {b : Bool} {k : Nat} (h : DP w bp rs a b k) (hl : Lo w bp pb) (hbp : bp < pb) (hk : ∀ j, j < pb → W.heap[j]? = w.heap[j]?) : DP W bp rs a b k ∧ Lo W bp pb := by
  obtain ⟨vp, root, o, c, N, xs, h1, h2, h3, h4⟩ := h
  have e0 : w.cell? ⟨bp, 0, none⟩ = some vp := by rw [cell_row w bp 0 _ _ _ h1]; rfl
  have hc : W.cell? ⟨bp, 0, none⟩ = w.cell? ⟨bp, 0, none⟩ := World.cell?_of_block (a := ⟨bp, 0, none⟩) (hk bp hbp)
  refine ⟨⟨vp, root, o, c, N, xs, (hk bp hbp).trans h1, h2.keep fun j hj => hk j (by omega), row_keep h3 fun g hg => hk g (hl vp e0 g hg), h4⟩, fun v hv => hl v (hc ▸ hv)⟩
/-- The part that is made: so many items. -/
def CP (w : World) (pb n : Nat) (nt : Bool) : Prop := ∃ ol cl oh ch xs ys, w.heap[pb]? = some (.cells #[.int .i64 3, .int .i32 0, .slice ol n cl, .slice oh n ch, .bool nt, .int .i64 0, .int .i64 0, .int .i64 0, .bool false] 88 (0, 0)) ∧
  w.ownsRow (pb + 1) 21 1 (.slice ol n cl) n xs ∧ w.ownsRow (pb + 1) 21 1 (.slice oh n ch) n ys ∧ ((Value.slice ol n cl).ownBlock = none ∨ (Value.slice ol n cl).ownBlock ≠ (Value.slice oh n ch).ownBlock)
theorem CP.keep {w W : World} {pb n : Nat} {nt : Bool} (h : CP w pb n nt) (hk : ∀ j, pb ≤ j → j < w.heap.size → W.heap[j]? = w.heap[j]?) : CP W pb n nt := by
  obtain ⟨ol, cl, oh, ch, xs, ys, h1, h2, h3, h4⟩ := h
  exact ⟨ol, cl, oh, ch, xs, ys, (hk pb (Nat.le_refl _) (Array.getElem?_eq_some_iff.1 h1).1).trans h1, row_keep h2 fun g hg => hk g (by have := (h2.lt g hg).1; omega) (h2.lt g hg).2, row_keep h3 fun g hg => hk g (by have := (h3.lt g hg).1; omega) (h3.lt g hg).2, h4⟩
/-- Both, as they stand. -/
structure St (w0 w : World) (bp pb : Nat) (rs : List Int) (a : Nat) (b : Bool) (k n : Nat) (nt : Bool) : Prop where
  dp : DP w bp rs a b k
  lo : Lo w bp pb
  cp : CP w pb n nt
  below : Below bp w0 w
  lt : bp < pb
theorem St.moved {w0 w W : World} {bp pb : Nat} {rs : List Int} {a a' : Nat} {b b' : Bool} {k n : Nat} {nt : Bool} (h : St w0 w bp pb rs a b k n nt) (hd : DP W bp rs a' b' k) (hb : Below bp w W) (hk : Kept1 bp w W) : St w0 W bp pb rs a' b' k n nt :=
  ⟨hd, fun v hv => h.lo v (hk.2.2 ▸ hv), h.cp.keep fun j hj _ => hk.2.1 j (by have := h.lt; omega), h.below.trans hb, h.lt⟩
theorem St.drewN {w0 w : World} {bp pb : Nat} {rs : List Int} {a : Nat} {b : Bool} {k n : Nat} {nt : Bool} (h : St w0 w bp pb rs a b k n nt) (m : Nat) : St w0 (w.drewN m) bp pb rs a b k n nt :=
  h.moved (h.dp.drewN m) ⟨rfl, rfl, rfl, Nat.le_refl _, fun _ _ => rfl⟩ ⟨rfl, fun _ _ => rfl, rfl⟩
theorem St.at {w0 w : World} {bp pb : Nat} {rs : List Int} {a : Nat} {b : Bool} {k n : Nat} {nt : Bool} (h : St w0 w bp pb rs a b k n nt) (a' : Nat) (z : Int) (hz : z = (a' : Nat)) : St w0 (w.setCell ⟨bp, 3, none⟩ (.int .i64 z)) bp pb rs a' b k n nt :=
  h.moved (h.dp.setAt a' z hz) (below_set (Below.refl _ _) (Nat.le_refl _) 3 _) (Kept1.set h.dp 3 (by decide) _)
theorem St.bad {w0 w : World} {bp pb : Nat} {rs : List Int} {a : Nat} {b : Bool} {k n : Nat} {nt : Bool} (h : St w0 w bp pb rs a b k n nt) (b' : Bool) : St w0 (w.setCell ⟨bp, 4, none⟩ (.bool b')) bp pb rs a b' k n nt :=
  h.moved (h.dp.setBad b') (below_set (Below.refl _ _) (Nat.le_refl _) 4 _) (Kept1.set h.dp 4 (by decide) _)
theorem cells9p {w : World} {k T : Nat} {a b c d e f g h i : Value} (hh : w.heap[k]? = some (.cells #[a, b, c, d, e, f, g, h, i] T (0, 0))) : w.cell? ⟨k, 0, none⟩ = some a ∧ w.cell? ⟨k, 1, none⟩ = some b ∧ w.cell? ⟨k, 2, none⟩ = some c ∧ w.cell? ⟨k, 3, none⟩ = some d ∧ w.cell? ⟨k, 4, none⟩ = some e ∧ w.cell? ⟨k, 5, none⟩ = some f ∧ w.cell? ⟨k, 6, none⟩ = some g ∧ w.cell? ⟨k, 7, none⟩ = some h ∧ w.cell? ⟨k, 8, none⟩ = some i := by
  refine ⟨?_, ?_, ?_, ?_, ?_, ?_, ?_, ?_, ?_⟩ <;> simp [World.cell?, hh]
theorem frozen9 {w : World} {k T i : Nat} {cs : Array Value} (hh : w.heap[k]? = some (.cells cs T (0, 0))) : w.frozen? ⟨k, i, none⟩ = false := by simp [World.frozen?, hh]
/-- The sign ahead. -/
theorem St.not {w0 w : World} {bp pb : Nat} {rs : List Int} {a : Nat} {b : Bool} {k : Nat} {nt : Bool} (h : St w0 w bp pb rs a b k 0 nt) : St w0 (w.setCell ⟨pb, 4, none⟩ (.bool true)) bp pb rs a b k 0 true := by
  obtain ⟨ol, cl, oh, ch, xs, ys, h1, h2, h3, h4⟩ := h.cp
  have hk := h.dp.keepLo (W := w.setCell ⟨pb, 4, none⟩ (.bool true)) h.lo h.lt fun j hj => heap_setCell_other w ⟨pb, 4, none⟩ j _ (fun e => by have e2 : j = pb := e; omega)
  refine ⟨hk.1, hk.2, ⟨ol, cl, oh, ch, xs, ys, heap_setCell_same w pb 4 _ 88 _ h1, ?_, ?_, h4⟩, below_set h.below (Nat.le_of_lt h.lt) 4 _, h.lt⟩
  · exact row_keep h2 fun g hg => heap_setCell_other w ⟨pb, 4, none⟩ g _ (fun e => by have e2 : g = pb := e; have := (h2.lt g hg).1; omega)
  · exact row_keep h3 fun g hg => heap_setCell_other w ⟨pb, 4, none⟩ g _ (fun e => by have e2 : g = pb := e; have := (h3.lt g hg).1; omega)
/-- It begins. -/
theorem St.start {w : World} {bp : Nat} {rs : List Int} {a k : Nat} (h : DP w bp rs a false k) : St w (w.alloc (Obj.cells #[.int .i64 3, .int .i32 0, .slice none 0 0, .slice none 0 0, .bool false, .int .i64 0, .int .i64 0, .int .i64 0, .bool false] 88)) bp w.heap.size rs a false k 0 false := by
  have hlt := h.lt
  have hl : Lo w bp w.heap.size := by
    obtain ⟨vp, root, o, c, N, xs, h1, h2, h3, h4⟩ := h
    intro v hv g hg
    rw [cell_row w bp 0 _ _ _ h1] at hv
    obtain rfl := Option.some.inj hv
    exact (h3.lt g hg).2
  have hk := h.keepLo (W := w.alloc (Obj.cells #[.int .i64 3, .int .i32 0, .slice none 0 0, .slice none 0 0, .bool false, .int .i64 0, .int .i64 0, .int .i64 0, .bool false] 88)) hl hlt fun j hj => Below.heap_alloc _ _ _ hj
  refine ⟨hk.1, hk.2, ⟨none, 0, none, 0, [], [], Array.getElem?_push_size, World.ownsRow_nil _ _ _ _, World.ownsRow_nil _ _ _ _, .inl rfl⟩, (Below.refl _ _).alloc (Nat.le_of_lt hlt) _, hlt⟩

/-- What is to come of the items. -/
def ClI (rs : List Int) (R : Option (List (Int × Int) × List Int)) (kx a1 : Nat) (b1 : Bool) (n : Nat) : Prop :=
  (b1 = true ∧ R = none) ∨ (b1 = false ∧ a1 ≤ rs.length ∧ rs.length - a1 + 1 ≤ kx ∧ ∃ acc, acc.length = n ∧ R = itsR kx (rs.drop a1) acc)
/-- .. behind an item. -/
def ClT (rs : List Int) (R : Option (List (Int × Int) × List Int)) (g a3 : Nat) (b3 : Bool) (lo hi : Int) (n : Nat) : Prop :=
  (b3 = true ∧ R = none) ∨ (b3 = false ∧ a3 ≤ rs.length ∧ rs.length - a3 + 1 ≤ g ∧ ∃ acc, acc.length = n ∧ R = if hi < lo then none else itsR g (rs.drop a3) (acc ++ [(lo, hi)]))
theorem clI_next {rs : List Int} {R : Option (List (Int × Int) × List Int)} {g a3 n : Nat} {b3 : Bool} {lo hi : Int} (h : ClT rs R g a3 b3 lo hi n) : ClI rs R g a3 (b3 || decide (hi < lo)) (n + 1) := by
  rcases h with ⟨rfl, h⟩ | ⟨rfl, h1, h2, acc, h3, h4⟩
  · exact .inl ⟨rfl, h⟩
  · by_cases hlt : hi < lo
    · rw [if_pos hlt] at h4
      exact .inl ⟨by simp [hlt], h4⟩
    · rw [if_neg hlt] at h4
      exact .inr ⟨by simp [hlt], h1, h2, acc ++ [(lo, hi)], by rw [List.length_append, h3]; rfl, h4⟩
theorem clI_bad {rs : List Int} {R : Option (List (Int × Int) × List Int)} {kx a1 n : Nat} (h : ClI rs R kx a1 true n) : R = none := by
  rcases h with ⟨_, h⟩ | ⟨h, _⟩
  · exact h
  · cases h
theorem clI_open {rs : List Int} {R : Option (List (Int × Int) × List Int)} {kx a1 n : Nat} (h : ClI rs R kx a1 false n) : a1 ≤ rs.length ∧ rs.length - a1 + 1 ≤ kx ∧ ∃ acc, acc.length = n ∧ R = itsR kx (rs.drop a1) acc := by
  rcases h with ⟨h, _⟩ | ⟨_, h⟩
  · cases h
  · exact h
/-- It ends at a bracket behind an item. -/
theorem cl_end {rs : List Int} {R : Option (List (Int × Int) × List Int)} {kx a1 n : Nat} (h : ClI rs R kx a1 false n) (hn : n ≠ 0) (h93 : hd (rs.drop a1) = 93) : LeftD rs (R.map Prod.snd) false (a1 + 1) := by
  obtain ⟨h1, h2, acc, h3, h4⟩ := clI_open h
  obtain ⟨g, rfl⟩ : ∃ g, kx = g + 1 := ⟨kx - 1, by omega⟩
  rw [itsR, if_pos ⟨h93, by rintro rfl; exact hn h3.symm⟩] at h4
  have hlt := hd_lt (rs := rs) (a := a1) (by rw [h93]; decide)
  rw [h4]
  exact ⟨rfl, drop_tail _ _, by omega⟩
/-- .. or it is none. -/
theorem cl_none {rs : List Int} {R : Option (List (Int × Int) × List Int)} {kx a1 n : Nat} (h : ClI rs R kx a1 false n) (hx : (n = 0 ∧ hd (rs.drop a1) = 93) ∨ (hd (rs.drop a1) ≠ 93 ∧ rs.drop a1 = [])) : LeftD rs (R.map Prod.snd) true (a1 + 1) := by
  obtain ⟨h1, h2, acc, h3, h4⟩ := clI_open h
  obtain ⟨g, rfl⟩ : ∃ g, kx = g + 1 := ⟨kx - 1, by omega⟩
  rcases hx with ⟨rfl, h93⟩ | ⟨h93, hnil⟩
  · obtain rfl := List.eq_nil_of_length_eq_zero h3
    rw [itsR, if_neg (fun h => h.2 rfl), if_pos (.inl h93)] at h4
    rw [h4]; exact rfl
  · rw [itsR, if_neg (fun h => h93 h.1), if_pos (.inr hnil)] at h4
    rw [h4]; exact rfl
def spanR (g : Nat) (acc : List (Int × Int)) (lo : Int) : Option (Int × List Int) → Option (List (Int × Int) × List Int)
  | none => none
  | some (h, u) => if h < lo then none else itsR g u (acc ++ [(lo, h)])
def nextR (g : Nat) (acc : List (Int × Int)) : Option (Int × List Int) → Option (List (Int × Int) × List Int)
  | none => none
  | some (lo, t) => if hd t = 45 ∧ 1 < t.length ∧ hd t.tail ≠ 93 then spanR g acc lo (itR t.tail) else itsR g t (acc ++ [(lo, lo)])
/-- What an item is. -/
theorem cl_item {rs : List Int} {R : Option (List (Int × Int) × List Int)} {g a1 n : Nat} (h : ClI rs R (g + 1) a1 false n) (h93 : hd (rs.drop a1) ≠ 93) (hlt : a1 < rs.length) : ∃ acc, acc.length = n ∧ R = nextR g acc (itR (rs.drop a1)) := by
  obtain ⟨h1, h2, acc, h3, h4⟩ := clI_open h
  rw [itsR, if_neg (fun h => h93 h.1), if_neg (by
    rintro (h | h)
    · exact h93 h
    · have := congrArg List.length h
      rw [List.length_drop] at this
      simp at this; omega)] at h4
  refine ⟨acc, h3, h4.trans ?_⟩
  cases itR (rs.drop a1) with
  | none => rfl
  | some p =>
    obtain ⟨lo, t⟩ := p
    unfold nextR spanR
    dsimp only
    split
    · cases itR t.tail with
      | none => rfl
      | some q => rfl
    · rfl
/-- What is asked behind an item: is it a span? -/
def CondQ (rs : List Int) (a1 a2 : Nat) (lo : Int) (b2 : Bool) : Bool → Prop
  | true => b2 = false ∧ ∃ t, itR (rs.drop a1) = some (lo, t) ∧ rs.drop a2 = t ∧ (hd t = 45 ∧ 1 < t.length ∧ hd t.tail ≠ 93) ∧ a2 ≤ rs.length
  | false => (b2 = true ∧ True ∧ itR (rs.drop a1) = none) ∨ (b2 = false ∧ True ∧ ∃ t, itR (rs.drop a1) = some (lo, t) ∧ rs.drop a2 = t ∧ ¬ (hd t = 45 ∧ 1 < t.length ∧ hd t.tail ≠ 93) ∧ a2 ≤ rs.length)
theorem clT_one {rs : List Int} {R : Option (List (Int × Int) × List Int)} {g a1 a2 n : Nat} {b2 : Bool} {lo : Int} {acc : List (Int × Int)} (hacc : acc.length = n) (hRR : R = nextR g acc (itR (rs.drop a1))) (hq : CondQ rs a1 a2 lo b2 false) (h12 : a1 < a2) (hg : rs.length - a1 + 1 ≤ g + 1) (ha : a1 < rs.length) : ClT rs R g a2 b2 lo lo n := by
  rcases hq with ⟨e, _, h⟩ | ⟨e, _, t, h1, h2, h3, h4⟩
  · exact .inl ⟨e, by rw [hRR, h]; rfl⟩
  · refine .inr ⟨e, h4, by omega, acc, hacc, ?_⟩
    rw [hRR, h1, if_neg (Int.lt_irrefl lo), h2]
    unfold nextR
    dsimp only
    rw [if_neg h3]
theorem clT_two {rs : List Int} {R : Option (List (Int × Int) × List Int)} {g a1 a2 a3 n : Nat} {b2 b3 : Bool} {lo hi : Int} {acc : List (Int × Int)} (hacc : acc.length = n) (hRR : R = nextR g acc (itR (rs.drop a1))) (hq : CondQ rs a1 a2 lo b2 true) (h12 : a1 < a2) (h23 : a2 + 1 < a3) (hg : rs.length - a1 + 1 ≤ g + 1)
    (hn : itR (rs.drop (a2 + 1)) = none → b3 = true) (hs : ∀ x m, itR (rs.drop (a2 + 1)) = some (x, m) → b3 = false ∧ hi = x ∧ rs.drop a3 = m ∧ a3 ≤ rs.length) : ClT rs R g a3 b3 lo hi n := by
  obtain ⟨rfl, t, h1, h2, h3, h4⟩ := hq
  rw [h1] at hRR
  unfold nextR at hRR
  dsimp only at hRR
  rw [if_pos h3, ← h2, ← drop_tail] at hRR
  cases hm : itR (rs.drop (a2 + 1)) with
  | none =>
    rw [hm] at hRR
    exact .inl ⟨hn hm, hRR⟩
  | some p =>
    obtain ⟨x, m⟩ := p
    rw [hm] at hRR
    obtain ⟨e1, rfl, e3, e4⟩ := hs x m hm
    exact .inr ⟨e1, e4, by omega, acc, hacc, by rw [hRR, e3]; rfl⟩
theorem cl_res (rs : List Int) (a : Nat) : ∃ (_nt : Bool) (R : Option (List (Int × Int) × List Int)), (clR (rs.drop a)).map Prod.snd = R.map Prod.snd ∧ ((hd (rs.drop a) = 94 ∧ R = itsR ((rs.drop a).length + 1) (rs.drop (a + 1)) []) ∨ (hd (rs.drop a) ≠ 94 ∧ R = itsR ((rs.drop a).length + 1) (rs.drop a) [])) := by
  unfold clR
  by_cases h : hd (rs.drop a) = 94
  · refine ⟨true, _, ?_, .inl ⟨h, rfl⟩⟩
    rw [if_pos h, drop_tail]
    cases itsR ((rs.drop a).length + 1) (rs.drop a).tail [] <;> rfl
  · refine ⟨false, _, ?_, .inr ⟨h, rfl⟩⟩
    rw [if_neg h]
    cases itsR ((rs.drop a).length + 1) (rs.drop a) [] <;> rfl

/-- Both rows have one more, and nothing else has turned. -/
theorem St.more {w0 w W : World} {bp pb : Nat} {rs : List Int} {a : Nat} {b : Bool} {k n : Nat} {nt : Bool} {ol oh o1 o2 : Option Addr} {cl ch d1 d2 : Nat} {xs ys : List Value} (h : St w0 w bp pb rs a b k n nt)
    (h1 : w.heap[pb]? = some (.cells #[.int .i64 3, .int .i32 0, .slice ol n cl, .slice oh n ch, .bool nt, .int .i64 0, .int .i64 0, .int .i64 0, .bool false] 88 (0, 0)))
    (hl1 : w.ownsRow (pb + 1) 21 1 (.slice ol n cl) n xs) (hl2 : w.ownsRow (pb + 1) 21 1 (.slice oh n ch) n ys)
    (hos : W.os = w.os) (htape : W.tape = w.tape) (hout : W.output = w.output) (hsz : w.heap.size ≤ W.heap.size)
    (hk : ∀ j, j < w.heap.size → (Value.slice ol n cl).ownBlock ≠ some j → (Value.slice oh n ch).ownBlock ≠ some j → W.heap[j]? = w.heap[j]?)
    (xs' ys' : List Value) (r1 : W.ownsRow (pb + 1) 21 1 (.slice o1 (n + 1) d1) (n + 1) xs') (r2 : W.ownsRow (pb + 1) 21 1 (.slice o2 (n + 1) d2) (n + 1) ys') (hne : (Value.slice o1 (n + 1) d1).ownBlock = none ∨ (Value.slice o1 (n + 1) d1).ownBlock ≠ (Value.slice o2 (n + 1) d2).ownBlock) :
    St w0 ((W.setCell ⟨pb, 2, none⟩ (.slice o1 (n + 1) d1)).setCell ⟨pb, 3, none⟩ (.slice o2 (n + 1) d2)) bp pb rs a b k (n + 1) nt := by
  have hpl : pb < w.heap.size := (Array.getElem?_eq_some_iff.1 h1).1
  have hlow : ∀ j, j ≤ pb → W.heap[j]? = w.heap[j]? := fun j hj => hk j (by omega) (fun e => by have := (hl1.lt j e).1; omega) (fun e => by have := (hl2.lt j e).1; omega)
  have e1 := heap_setCell_same W pb 2 _ 88 (.slice o1 (n + 1) d1) ((hlow pb (Nat.le_refl _)).trans h1)
  have e2 := heap_setCell_same _ pb 3 _ 88 (.slice o2 (n + 1) d2) e1
  have hoth : ∀ j, j ≠ pb → ((W.setCell ⟨pb, 2, none⟩ (.slice o1 (n + 1) d1)).setCell ⟨pb, 3, none⟩ (.slice o2 (n + 1) d2)).heap[j]? = W.heap[j]? := fun j hj => (heap_setCell_other _ ⟨pb, 3, none⟩ j _ hj).trans (heap_setCell_other W ⟨pb, 2, none⟩ j _ hj)
  have hkk := h.dp.keepLo (W := (W.setCell ⟨pb, 2, none⟩ (.slice o1 (n + 1) d1)).setCell ⟨pb, 3, none⟩ (.slice o2 (n + 1) d2)) h.lo h.lt fun j hj => (hoth j (by omega)).trans (hlow j (by omega))
  refine ⟨hkk.1, hkk.2, ⟨o1, d1, o2, d2, xs', ys', e2, ?_, ?_, hne⟩, ?_, h.lt⟩
  · exact row_keep r1 fun g hg => hoth g (by have := (r1.lt g hg).1; omega)
  · exact row_keep r2 fun g hg => hoth g (by have := (r2.lt g hg).1; omega)
  · have := h.lt
    exact ((h.below.trans ⟨hos, htape, hout, hsz, fun j hj => hlow j (by omega)⟩).setCell (Nat.le_of_lt h.lt) _).setCell (Nat.le_of_lt h.lt) _

theorem hi_moved {w Wb w1 : World} {pb n : Nat} {ol oh : Option Addr} {cl ch : Nat} {ys : List Value} (hl2 : w.ownsRow (pb + 1) 21 1 (.slice oh n ch) n ys) (hne : (Value.slice ol n cl).ownBlock = none ∨ (Value.slice ol n cl).ownBlock ≠ (Value.slice oh n ch).ownBlock) (b1 : Below w.heap.size w Wb) (g1s : Wb.grownBy w1 (Value.slice ol n cl).ownBlock) : w1.ownsRow (pb + 1) 21 1 (.slice oh n ch) n ys :=
  row_keep hl2 fun g hg => (g1s.block g (Nat.lt_of_lt_of_le (hl2.lt g hg).2 b1.size) (fun e => by
    rcases hne with h | h
    · rw [h] at e; cases e
    · exact h (by rw [hg]; exact e.symm))).trans (b1.block g (hl2.lt g hg).2)
theorem low_moved {w Wb w1 : World} {pb n : Nat} {ol : Option Addr} {cl : Nat} {xs : List Value} (hl1 : w.ownsRow (pb + 1) 21 1 (.slice ol n cl) n xs) (b1 : Below w.heap.size w Wb) (g1s : Wb.grownBy w1 (Value.slice ol n cl).ownBlock) {j : Nat} (hj : j < w.heap.size) (hp : j ≤ pb) : w1.heap[j]? = w.heap[j]? :=
  (g1s.block j (Nat.lt_of_lt_of_le hj b1.size) (fun e => by have := (hl1.lt j e.symm).1; omega)).trans (b1.block j hj)
theorem new_moved {Wb w1 : World} {B k n : Nat} {v : Value} {xs : List Value} {u : Value} {T : TypeId} (_hl1 : Wb.ownsRow B 21 1 v n xs) (g1s : Wb.grownBy w1 v.ownBlock) (hn : v.ownBlock ≠ some k) (hb : Wb.heap[k]? = some (.cells #[u] T (0, 0))) : ∀ (j : Nat) (x : Value), [u][j]? = some x → w1.cell? ((⟨k, 0, none⟩ : Addr).add j) = some x := fun j x hj => by
  have e : w1.heap[k]? = some (.cells #[u] T (0, 0)) := (g1s.block k (Array.getElem?_eq_some_iff.1 hb).1 (fun e => hn e.symm)).trans hb
  match j, hj with
  | 0, hj => simp at hj; subst hj; simp [Addr.add, World.cell?, e]
  | j + 1, hj => simp at hj
theorem new_at {W : World} {k : Nat} {u : Value} {T : TypeId} (hb : W.heap[k]? = some (.cells #[u] T (0, 0))) : ∀ (j : Nat) (x : Value), [u][j]? = some x → W.cell? ((⟨k, 0, none⟩ : Addr).add j) = some x := fun j x hj => by
  match j, hj with
  | 0, hj => simp at hj; subst hj; simp [Addr.add, World.cell?, hb]
  | j + 1, hj => simp at hj
theorem St.two {w0 w Wb w1 Wb2 w2 : World} {bp pb : Nat} {rs : List Int} {a : Nat} {b : Bool} {k n : Nat} {nt : Bool} {ol oh : Option Addr} {cl ch d1 d2 g1 g2 : Nat} {xs ys xs' ys' : List Value} (h : St w0 w bp pb rs a b k n nt)
    (h1 : w.heap[pb]? = some (.cells #[.int .i64 3, .int .i32 0, .slice ol n cl, .slice oh n ch, .bool nt, .int .i64 0, .int .i64 0, .int .i64 0, .bool false] 88 (0, 0)))
    (hl1 : w.ownsRow (pb + 1) 21 1 (.slice ol n cl) n xs) (hl2 : w.ownsRow (pb + 1) 21 1 (.slice oh n ch) n ys) (hne : (Value.slice ol n cl).ownBlock = none ∨ (Value.slice ol n cl).ownBlock ≠ (Value.slice oh n ch).ownBlock)
    (b1 : Below w.heap.size w Wb) (g1s : Wb.grownBy w1 (Value.slice ol n cl).ownBlock) (r1 : w1.ownsRow (pb + 1) 21 1 (.slice (some ⟨g1, 0, none⟩) (n + 1) d1) (n + 1) xs') (at1 : (Value.slice ol n cl).ownBlock = some g1 ∨ g1 = Wb.heap.size) (lt1 : g1 < w1.heap.size)
    (b2 : Below w1.heap.size w1 Wb2) (g2s : Wb2.grownBy w2 (Value.slice oh n ch).ownBlock) (r2 : w2.ownsRow (pb + 1) 21 1 (.slice (some ⟨g2, 0, none⟩) (n + 1) d2) (n + 1) ys') (at2 : (Value.slice oh n ch).ownBlock = some g2 ∨ g2 = Wb2.heap.size) :
    St w0 ((w2.setCell ⟨pb, 2, none⟩ (.slice (some ⟨g1, 0, none⟩) (n + 1) d1)).setCell ⟨pb, 3, none⟩ (.slice (some ⟨g2, 0, none⟩) (n + 1) d2)) bp pb rs a b k (n + 1) nt := by
  have z1 := b1.size
  have z2 := g1s.size
  have z3 := b2.size
  have z4 := g2s.size
  have hg1 : (Value.slice oh n ch).ownBlock ≠ some g1 := fun e => by
    rcases at1 with h | h
    · rcases hne with h2 | h2
      · rw [h2] at h; cases h
      · exact h2 (h.trans e.symm)
    · have := (hl2.lt g1 e).2; omega
  refine h.more (W := w2) h1 hl1 hl2 (g2s.os.trans (b2.os.trans (g1s.os.trans b1.os))) (g2s.tape.trans (b2.tape.trans (g1s.tape.trans b1.tape))) (g2s.output.trans (b2.output.trans (g1s.output.trans b1.output))) (by omega) (fun j hj n1 n2 => ?_) xs' ys' ?_ r2 ?_
  · exact (g2s.block j (by omega) (fun e => n2 e.symm)).trans ((b2.block j (by omega)).trans ((g1s.block j (by omega) (fun e => n1 e.symm)).trans (b1.block j hj)))
  · exact row_keep r1 fun g hg => by
      obtain rfl : g1 = g := Option.some.inj hg
      exact (g2s.block g1 (by omega) (fun e => hg1 e.symm)).trans (b2.block g1 lt1)
  · refine .inr fun e => ?_
    obtain rfl : g1 = g2 := Option.some.inj e
    rcases at2 with h | h
    · exact hg1 h
    · omega

end Go.Proofs.Ytmidpekkomhogaa.Dpt
