/- Patterns: the graph in memory; an atom is laid. -/
import Derived.Test.YtfpdhmecomgbdaaPi
import Derived.Test.YtfpdhmecomgbdaaQb
import Derived.Laws.BitsAllLaws
import Derived.Laws.Shifts
namespace Go.Proofs.Ytfpdhmecomgbdaa
open Go.RowKit

theorem info47 : (Try.prog.info? 47).map (fun i => (i.zero, i.size, i.bytes)) = some (some (.int .u64 0), 1, 8) := by kernel_rfl
theorem own_far {w : World} {B C e f n m s : Nat} {v u : Value} {xs ys : List Value} (h : w.ownsRow B e 1 v n xs) (h' : w.ownsRow C f s u m ys) (hef : e ≠ f) : v.ownBlock = none ∨ v.ownBlock ≠ u.ownBlock := by
  rcases h.2 with ⟨rfl, _⟩ | ⟨g, cap, cur, rfl, _, hg, _⟩
  · exact .inl rfl
  · rcases h'.2 with ⟨rfl, _⟩ | ⟨g', cap', cur', rfl, _, hg', _⟩
    · exact .inr (by simp [Value.ownBlock])
    · refine .inr ?_
      simp only [Value.ownBlock, ne_eq, Option.some.injEq]
      rintro rfl
      rw [hg] at hg'
      injection hg' with e1
      injection e1 with _ e2 _
      exact hef e2
def u64s (l : List Nat) : List Value := l.map fun (n : Nat) => .int .u64 (n : Int)
/-- A graph in the block of its pattern. -/
structure GrRow (w : World) (bp : Nat) (va vt : Value) (vs : List Value) (g : Gr) : Prop where
  atoms : w.ownsRow (bp + 1) 38 1 va g.atoms.length vs
  links : w.ownsRow (bp + 1) 47 1 vt g.thn.length (u64s g.thn)
  kids : ∀ (j : Nat) u x, vs[j]? = some u → g.atoms[j]? = some x → Tree w (fun b => b < bp) u x
def Pat (w : World) (bp : Nat) (t va vt a b c : Value) : Prop := w.heap[bp]? = some (.cells #[t, va, vt, a, b, c] 51 (0, 0))
def GrAt (w : World) (bp : Nat) (t a b c : Value) (g : Gr) : Prop := ∃ va vt vs, Pat w bp t va vt a b c ∧ GrRow w bp va vt vs g
theorem Pat.reads {w : World} {bp : Nat} {t va vt a b c : Value} (h : Pat w bp t va vt a b c) : w.cell? ⟨bp, 0, none⟩ = some t ∧ w.cell? ⟨bp, 1, none⟩ = some va ∧ w.cell? ⟨bp, 2, none⟩ = some vt ∧ w.cell? ⟨bp, 3, none⟩ = some a ∧ w.cell? ⟨bp, 4, none⟩ = some b ∧ w.cell? ⟨bp, 5, none⟩ = some c ∧ w.frozen? ⟨bp, 1, none⟩ = false ∧ w.frozen? ⟨bp, 2, none⟩ = false ∧ bp < w.heap.size := by
  have hl := (Array.getElem?_eq_some_iff.1 h).1
  unfold Pat at h
  refine ⟨?_, ?_, ?_, ?_, ?_, ?_, ?_, ?_, hl⟩ <;> simp [World.cell?, World.frozen?, h]
theorem Pat.below {w w' : World} {bp : Nat} {t va vt a b c : Value} (h : Pat w bp t va vt a b c) (hb : Below w.heap.size w w') : Pat w' bp t va vt a b c :=
  (hb.block bp (Array.getElem?_eq_some_iff.1 h).1).trans h
theorem own_below {w w' : World} {B e size n : Nat} {v : Value} {xs : List Value} (h : w.ownsRow B e size v n xs) (hb : Below w.heap.size w w') : w'.ownsRow B e size v n xs :=
  h.kept (row := none) ⟨hb.os, hb.tape, hb.output, hb.size, fun k hk _ => hb.block k hk⟩ (by cases hv : v.ownBlock <;> simp)
theorem Tree.stays {w w' : World} {P : Nat → Prop} {v : Value} {x : Pt} (h : Tree w P v x) (hb : Below w.heap.size w w') : Tree w' P v x :=
  h.keep fun b hp hl => ⟨hb.block b hl, hp⟩
theorem GrRow.below {w w' : World} {bp : Nat} {va vt : Value} {vs : List Value} {g : Gr} (h : GrRow w bp va vt vs g) (hb : Below w.heap.size w w') : GrRow w' bp va vt vs g :=
  ⟨own_below h.atoms hb, own_below h.links hb, fun j u x hu hx => (h.kids j u x hu hx).stays hb⟩
theorem GrAt.below {w w' : World} {bp : Nat} {t a b c : Value} {g : Gr} (h : GrAt w bp t a b c g) (hb : Below w.heap.size w w') : GrAt w' bp t a b c g := by
  obtain ⟨va, vt, vs, h1, h2⟩ := h
  exact ⟨va, vt, vs, h1.below hb, h2.below hb⟩
theorem GrAt.lt {w : World} {bp : Nat} {t a b c : Value} {g : Gr} (h : GrAt w bp t a b c g) : bp < w.heap.size := by
  obtain ⟨va, vt, vs, h1, _⟩ := h
  exact h1.reads.2.2.2.2.2.2.2.2
/-- Below the pattern's block the world is as it was. -/
theorem below_le {B : Nat} {a b c : World} (h : Below B a b) (k : Below b.heap.size b c) (hB : B ≤ b.heap.size) : Below B a c := h.trans (k.mono hB)

theorem shl_one {n : Nat} (h : n < 64) : IntKind.u64.wrap ((2 : Int) ^ n) = ((2 ^ n : Nat) : Int) := by
  have h1 : 2 ^ n < 2 ^ 64 := Nat.pow_lt_pow_right (by omega) h
  have h2 : ((2 : Int) ^ n) = ((2 ^ n : Nat) : Int) := by simp
  have h3 : ((2 ^ 64 : Nat) : Int) = 18446744073709551616 := by decide
  rw [IntKind.wrap_u64, h2]
  generalize 2 ^ n = N at h1 ⊢
  generalize 2 ^ 64 = M at h1 h3
  rw [Int.emod_eq_of_lt (by omega) (by omega)]
theorem one_u64 (n : Int) : ∀ v ∈ [Value.int .u64 n], v.oneCell' = true := by
  intro v hv; simp at hv; subst hv; rfl
/-- Behind the first append: the links' row stands, the pattern's block too. -/
theorem Pat.after {w w1 w' : World} {bp : Nat} {t va vt a b c v : Value} (h : Pat w bp t va vt a b c) (hb : Below w.heap.size w w1) (hg : w1.grownBy w' v.ownBlock) (hv : ∀ k, v.ownBlock = some k → bp + 1 ≤ k) : Pat w' bp t va vt a b c := by
  have hl := h.reads.2.2.2.2.2.2.2.2
  refine (hg.block bp (Nat.lt_of_lt_of_le hl hb.size) (fun e => by have := hv bp e.symm; omega)).trans (h.below hb)
theorem Pat.set1 {w : World} {bp : Nat} {t va vt a b c : Value} (h : Pat w bp t va vt a b c) (u : Value) : Pat (w.setCell ⟨bp, 1, none⟩ u) bp t u vt a b c := heap_setCell_same w bp 1 _ 51 u h
theorem Pat.set2 {w : World} {bp : Nat} {t va vt a b c : Value} (h : Pat w bp t va vt a b c) (u : Value) : Pat (w.setCell ⟨bp, 2, none⟩ u) bp t va u a b c := heap_setCell_same w bp 2 _ 51 u h

theorem own_not {w : World} {B e size n k : Nat} {v : Value} {xs : List Value} {cs : Array Value} {t : TypeId} {fr : Nat × Nat} (h : w.ownsRow B e size v n xs) (hk : w.heap[k]? = some (.cells cs t fr)) (hne : t ≠ e) : v.ownBlock ≠ some k := by
  rcases h.2 with ⟨rfl, _⟩ | ⟨g, cap, cur, rfl, _, hg, _⟩
  · simp [Value.ownBlock]
  · simp only [Value.ownBlock, ne_eq, Option.some.injEq]
    rintro rfl
    rw [hg] at hk
    injection hk with e1
    injection e1 with _ e2 _
    exact hne e2.symm
/-- Every block that is no row of parts, none of links, and no pattern's own, is what it was. -/
def Tys (w w' : World) : Prop := ∀ (k : Nat) (cs : Array Value) (ty : TypeId) (fr : Nat × Nat), w.heap[k]? = some (.cells cs ty fr) → ty ≠ 38 → ty ≠ 47 → ty ≠ 51 → w'.heap[k]? = some (.cells cs ty fr)
theorem Tys.refl (w : World) : Tys w w := fun _ _ _ _ h _ _ _ => h
theorem Tys.trans {a b c : World} (h : Tys a b) (k : Tys b c) : Tys a c := fun j cs ty fr hj h1 h2 h3 => k j cs ty fr (h j cs ty fr hj h1 h2 h3) h1 h2 h3
theorem Tys.of_below {w w' : World} (h : Below w.heap.size w w') : Tys w w' := fun j _ _ _ hj _ _ _ => (h.block j (Array.getElem?_eq_some_iff.1 hj).1).trans hj
theorem Tys.of_grown {w w' : World} {B e s n : Nat} {v : Value} {xs : List Value} (h : w.ownsRow B e s v n xs) (hg : w.grownBy w' v.ownBlock) (he : e = 38 ∨ e = 47) : Tys w w' := by
  intro j cs ty fr hj h1 h2 h3
  refine (hg.block j (Array.getElem?_eq_some_iff.1 hj).1 (fun e2 => ?_)).trans hj
  exact own_not h hj (by rcases he with rfl | rfl <;> assumption) e2.symm
theorem Tys.of_set {w : World} {bp i : Nat} {cs : Array Value} {u : Value} (h : w.heap[bp]? = some (.cells cs 51 (0, 0))) : Tys w (w.setCell ⟨bp, i, none⟩ u) := by
  intro j cs' ty fr hj h1 h2 h3
  refine (heap_setCell_other _ _ _ _ (fun e => ?_)).trans hj
  have e2 : j = bp := e
  subst e2
  rw [h] at hj
  injection hj with e1
  injection e1 with _ e3 _
  exact h3 e3.symm
theorem Tys.setNew {w0 w : World} (h : Tys w0 w) {k : Nat} (hk : w0.heap.size ≤ k) (i : Nat) (u : Value) : Tys w0 (w.setCell ⟨k, i, none⟩ u) := by
  intro j cs ty fr hj h1 h2 h3
  have hl := (Array.getElem?_eq_some_iff.1 hj).1
  exact (heap_setCell_other _ _ _ _ (fun e => by have e2 : j = k := e; omega)).trans (h j cs ty fr hj h1 h2 h3)
/-- A box of three cells that the call has made. -/
def Box3 (w : World) (k : Nat) (a b c : Value) (t : TypeId) : Prop := w.heap[k]? = some (.cells #[a, b, c] t (0, 0))
theorem Box3.reads {w : World} {k : Nat} {a b c : Value} {t : TypeId} (h : Box3 w k a b c t) : w.cell? ⟨k, 0, none⟩ = some a ∧ w.cell? ⟨k, 1, none⟩ = some b ∧ w.cell? ⟨k, 2, none⟩ = some c ∧ w.frozen? ⟨k, 0, none⟩ = false ∧ w.frozen? ⟨k, 1, none⟩ = false ∧ w.frozen? ⟨k, 2, none⟩ = false := by
  unfold Box3 at h
  refine ⟨?_, ?_, ?_, ?_, ?_, ?_⟩ <;> simp [World.cell?, World.frozen?, h]
/-- Behind the append of the atom. -/
structure Lay1 (w w5 : World) (bp : Nat) (t a b c : Value) (va vt v' : Value) (n : Nat) (ks ls : List Value) : Prop where
  pat : Pat w5 bp t va vt a b c
  res : Box3 w5 w.heap.size (.bool false) (.int .u64 0) (.int .u64 0) 49
  atoms : w5.ownsRow (bp + 1) 38 1 v' (n + 1) ks
  links : w5.ownsRow (bp + 1) 47 1 vt n ls
  below : Below bp w w5
  tys : Tys w w5
  lt : bp < w.heap.size
theorem lay_first {w w5 : World} {bp n : Nat} {t a b c va vt v v' u : Value} {vs ls : List Value} (hp : Pat w bp t va vt a b c) (ha : w.ownsRow (bp + 1) 38 1 v n vs) (hl : w.ownsRow (bp + 1) 47 1 vt n ls)
    (ho : w5.ownsRow (bp + 1) 38 1 v' (n + 1) (vs ++ [u])) (hg : ((w.alloc (Obj.cells #[Value.bool false, Value.int .u64 0, Value.int .u64 0] 49)).alloc (Obj.cells #[u] 38)).grownBy w5 v.ownBlock) : Lay1 w w5 bp t a b c va vt v' n (vs ++ [u]) ls := by
  have hlt := hp.reads.2.2.2.2.2.2.2.2
  have hB : Below w.heap.size w ((w.alloc (Obj.cells #[Value.bool false, Value.int .u64 0, Value.int .u64 0] 49)).alloc (Obj.cells #[u] 38)) := ((Below.refl _ _).alloc (Nat.le_refl _) _).alloc (by simp) _
  have hv : ∀ k, v.ownBlock = some k → bp + 1 ≤ k ∧ k < w.heap.size := fun k hk => ha.lt k hk
  refine ⟨hp.after hB hg (fun k hk => (hv k hk).1), ?_, ho, (own_below hl hB).kept hg (own_far hl ha (by decide)), ?_, (Tys.of_below hB).trans (Tys.of_grown (own_below ha hB) hg (.inl rfl)), hlt⟩
  · unfold Box3
    rw [hg.block w.heap.size (by simp; omega) (fun e => by have := (hv _ e.symm).2; omega), Below.heap_alloc _ _ _ (by simp)]
    exact Array.getElem?_push_size
  · exact Below.grown (hB.mono (Nat.le_of_lt hlt)) hg (by have := hB.size; omega) (fun k hk => by have := (hv k hk).1; omega)
theorem Lay1.second {w w5 : World} {bp n : Nat} {t a b c va vt v' : Value} {ks ls : List Value} (h : Lay1 w w5 bp t a b c va vt v' n ks ls) (o : Obj) : ((w5.setCell ⟨bp, 1, none⟩ v').alloc o).ownsRow (bp + 1) 47 1 vt n ls :=
  (ownsRow_setCell_below h.links (a := ⟨bp, 1, none⟩) (Nat.lt_succ_self bp) v').alloc o
/-- Behind both appends. -/
structure Lay2 (w w7 : World) (bp : Nat) (t a b c : Value) (vt v' v'' : Value) (n : Nat) (ks ls : List Value) : Prop where
  pat : Pat w7 bp t v' vt a b c
  res : Box3 w7 w.heap.size (.bool false) (.int .u64 0) (.int .u64 0) 49
  atoms : w7.ownsRow (bp + 1) 38 1 v' (n + 1) ks
  links : w7.ownsRow (bp + 1) 47 1 v'' (n + 1) ls
  below : Below bp w w7
  tys : Tys w w7
  lt : bp < w.heap.size
theorem lay_second {w w5 w7 : World} {bp n : Nat} {t a b c va vt v v' v'' u : Value} {ks ls : List Value} (h : Lay1 w w5 bp t a b c va vt v' n ks ls) (hv : vt = v)
    (ho : w7.ownsRow (bp + 1) 47 1 v'' (n + 1) (ls ++ [u])) (hg : ((w5.setCell ⟨bp, 1, none⟩ v').alloc (Obj.cells #[u] 47)).grownBy w7 v.ownBlock) : Lay2 w w7 bp t a b c vt v' v'' n ks (ls ++ [u]) := by
  subst hv
  have hlt := h.lt
  have hs5 : w.heap.size < w5.heap.size := (Array.getElem?_eq_some_iff.1 h.res).1
  have hbl : ∀ k, vt.ownBlock = some k → bp + 1 ≤ k ∧ k < w5.heap.size := fun k hk => h.links.lt k hk
  have hW : (w5.setCell ⟨bp, 1, none⟩ v').heap.size = w5.heap.size := by simp [World.setCell]
  have hB : Below (w5.setCell ⟨bp, 1, none⟩ v').heap.size (w5.setCell ⟨bp, 1, none⟩ v') ((w5.setCell ⟨bp, 1, none⟩ v').alloc (Obj.cells #[u] 47)) := (Below.refl _ _).alloc (Nat.le_refl _) _
  refine ⟨(h.pat.set1 v').after hB hg (fun k hk => (hbl k hk).1), ?_, ?_, ho, ?_, h.tys.trans ((Tys.of_set h.pat).trans ((Tys.of_below hB).trans (Tys.of_grown (own_below (ownsRow_setCell_below h.links (a := ⟨bp, 1, none⟩) (Nat.lt_succ_self bp) v') hB) hg (.inr rfl)))), hlt⟩
  · unfold Box3
    rw [hg.block w.heap.size (by rw [World.size_alloc, hW]; omega) (fun e => own_not h.links h.res (by decide) e.symm), Below.heap_alloc _ _ _ (by rw [hW]; exact hs5), heap_setCell_other _ _ _ _ (by show w.heap.size ≠ bp; omega)]
    exact h.res
  · exact (own_below (ownsRow_setCell_below h.atoms (a := ⟨bp, 1, none⟩) (Nat.lt_succ_self bp) v') hB).kept hg (own_far h.atoms h.links (by decide))
  · have h1 : Below bp w (w5.setCell ⟨bp, 1, none⟩ v') := h.below.setCell (Nat.le_refl _) _
    exact Below.grown (h1.alloc (by rw [hW]; omega) _) hg (by rw [World.size_alloc, hW]; omega) (fun k hk => by have := (hbl k hk).1; omega)

theorem Tree.under {w w' : World} {bp : Nat} {v : Value} {x : Pt} (h : Tree w (fun b => b < bp) v x) (hb : Below bp w w') : Tree w' (fun b => b < bp) v x :=
  h.keep fun b hp _ => ⟨hb.block b hp, hp⟩
theorem lay_done {w w7 : World} {bp n : Nat} {t a b c va vt vt0 v' v'' u p q r : Value} {vs : List Value} {g : Gr} {x : Pt} (h : Lay2 w w7 bp t a b c vt0 v' v'' n (vs ++ [u]) (u64s g.thn ++ [.int .u64 0])) (hr : GrRow w bp va vt vs g) (ht : Tree w (fun b => b < bp) u x) (hn : g.atoms.length = n) (hn3 : g.thn.length = n) :
    GrAt ((((w7.setCell ⟨bp, 2, none⟩ v'').setCell ⟨w.heap.size, 0, none⟩ p).setCell ⟨w.heap.size, 1, none⟩ q).setCell ⟨w.heap.size, 2, none⟩ r) bp t a b c (layAtomF x g).2 ∧ Below bp w ((((w7.setCell ⟨bp, 2, none⟩ v'').setCell ⟨w.heap.size, 0, none⟩ p).setCell ⟨w.heap.size, 1, none⟩ q).setCell ⟨w.heap.size, 2, none⟩ r) ∧ Tys w ((((w7.setCell ⟨bp, 2, none⟩ v'').setCell ⟨w.heap.size, 0, none⟩ p).setCell ⟨w.heap.size, 1, none⟩ q).setCell ⟨w.heap.size, 2, none⟩ r) := by
  have hlt := h.lt
  have hB : Below bp w ((((w7.setCell ⟨bp, 2, none⟩ v'').setCell ⟨w.heap.size, 0, none⟩ p).setCell ⟨w.heap.size, 1, none⟩ q).setCell ⟨w.heap.size, 2, none⟩ r) :=
    (((h.below.setCell (Nat.le_refl _) _).setCell (Nat.le_of_lt hlt) _).setCell (Nat.le_of_lt hlt) _).setCell (Nat.le_of_lt hlt) _
  refine ⟨⟨v', v'', vs ++ [u], ?_, ?_, ?_, ?_⟩, hB, (((h.tys.trans (Tys.of_set h.pat)).setNew (Nat.le_refl _) _ _).setNew (Nat.le_refl _) _ _).setNew (Nat.le_refl _) _ _⟩
  · have h2 := h.pat.set2 v''
    unfold Pat at h2 ⊢
    rw [heap_setCell_other _ _ _ _ (by show bp ≠ w.heap.size; omega), heap_setCell_other _ _ _ _ (by show bp ≠ w.heap.size; omega), heap_setCell_other _ _ _ _ (by show bp ≠ w.heap.size; omega)]
    exact h2
  · have h2 := ownsRow_setCell_below h.atoms (a := ⟨bp, 2, none⟩) (Nat.lt_succ_self bp) v''
    have hne : v'.ownBlock ≠ some w.heap.size := own_not h.atoms h.res (by decide)
    have h3 := ownsRow_setCell_other (ownsRow_setCell_other (ownsRow_setCell_other h2 (a := ⟨w.heap.size, 0, none⟩) hne p) (a := ⟨w.heap.size, 1, none⟩) hne q) (a := ⟨w.heap.size, 2, none⟩) hne r
    have e : (layAtomF x g).2.atoms.length = n + 1 := by simp [layAtomF, hn]
    rw [e]; exact h3
  · have h2 := ownsRow_setCell_below h.links (a := ⟨bp, 2, none⟩) (Nat.lt_succ_self bp) v''
    have hne : v''.ownBlock ≠ some w.heap.size := own_not h.links h.res (by decide)
    have h3 := ownsRow_setCell_other (ownsRow_setCell_other (ownsRow_setCell_other h2 (a := ⟨w.heap.size, 0, none⟩) hne p) (a := ⟨w.heap.size, 1, none⟩) hne q) (a := ⟨w.heap.size, 2, none⟩) hne r
    have e : (layAtomF x g).2.thn.length = n + 1 := by simp [layAtomF, hn3]
    have e2 : u64s (layAtomF x g).2.thn = u64s g.thn ++ [.int .u64 0] := by simp [layAtomF, u64s]
    rw [e, e2]; exact h3
  · intro j uu y hu hy
    have hlen : vs.length = g.atoms.length := by have := hr.atoms.1; omega
    have hy2 : (g.atoms ++ [x])[j]? = some y := hy
    by_cases hj : j < g.atoms.length
    · rw [List.getElem?_append_left (by omega)] at hu
      rw [List.getElem?_append_left hj] at hy2
      exact (hr.kids j uu y hu hy2).under hB
    · rw [List.getElem?_append_right (by omega)] at hu
      rw [List.getElem?_append_right (by omega)] at hy2
      by_cases h0 : j = g.atoms.length
      · subst h0
        simp [hlen] at hu hy2
        subst hu; subst hy2
        exact ht.under hB
      · obtain ⟨k, hk2⟩ : ∃ k, j - g.atoms.length = k + 1 := ⟨j - g.atoms.length - 1, by omega⟩
        rw [hk2] at hy2
        simp at hy2

set_option maxHeartbeats 4000000 in
set_option maxRecDepth 100000 in
theorem layAtom_any (bp : Nat) (t a b c : Value) (g : Gr) (v : Value) (x : Pt) (w : World) (h : GrAt w bp t a b c g) (ht : Tree w (fun b => b < bp) v x) (hn : g.atoms.length < 64) (hok : GrOk g) :
    Calls Try.prog 28 #[.pointer (some ⟨bp, 1, none⟩), v] w fun e w' => e = .returned (.agg #[.bool false, .int .u64 ((2 ^ g.atoms.length : Nat) : Int), .int .u64 ((2 ^ g.atoms.length : Nat) : Int)]) ∧ GrAt w' bp t a b c (layAtomF x g).2 ∧ Below bp w w' ∧ Tys w w' := by
  obtain ⟨ia, hi, hz0, hz1, hz2⟩ := info_parts info38
  obtain ⟨it, hj, hy0, hy1, hy2⟩ := info_parts info47
  obtain ⟨va, vt, vs, hp, hr⟩ := h
  obtain ⟨oa, ca, hva⟩ := own_shape hr.atoms
  obtain ⟨ot, ct, hvt⟩ := own_shape hr.links
  obtain ⟨p0, p1, p2, _, _, _, f1, f2, hlt⟩ := hp.reads
  obtain ⟨tv, uv, rfl⟩ := ht.iface
  obtain ⟨n, hn2⟩ : ∃ n, g.atoms.length = n := ⟨_, rfl⟩
  have hn3 : g.thn.length = n := by rw [hok.len]; exact hn2
  have HN := Lib.hid hn2
  have HN3 := Lib.hid hn3
  have HR := Lib.hid hr
  have HT := Lib.hid ht
  have HP := Lib.hid hp
  rw [hva, hn2] at p1
  rw [hvt, hn3] at p2
  rw [hn2] at hn
  rw [hn2]
  have hsh := shl_one hn
  obtain ⟨N, hN⟩ : ∃ N : Nat, 2 ^ n = N := ⟨_, rfl⟩
  rw [hN] at hsh
  rw [hN]
  have HNN := Lib.hid hN
  have hoa := hr.atoms
  have hot := hr.links
  rw [hva, hn2] at hoa
  rw [hvt, hn3] at hot
  have HOA := Lib.hid hoa
  have HOT := Lib.hid hot
  have HOT0 := Lib.hid (show w.ownsRow (bp + 1) 47 1 vt n (u64s g.thn) by rw [hvt, hn3]; exact hot)
  have HVT2 := Lib.hid (show vt = .slice ot n ct by rw [hvt, hn3])
  have HFAR := Lib.hid (own_far hoa hot (by decide))
  have HFAR2 := Lib.hid (own_far hot hoa (by decide))
  have HVA := Lib.hid hva
  have HVT := Lib.hid hvt
  clear hr ht hp p0 hn2 hn3 hN hva hvt hoa hot
  have hHA := (HOA.out.alloc (Obj.cells #[Value.bool false, Value.int .u64 0, Value.int .u64 0] 49)).alloc (Obj.cells #[.iface tv uv] 38)
  have HOA2 := Lib.hid hHA
  clear hHA
  go_enter Try.func28, Try.ntmps28
  go_wp2_with (at_builtin; first
    | (refine wpList_append_keeps _ rfl _ _ 42 rfl (bp + 1) 38 ia .nilIface 1 16 Try.underlying42 hi hz0 hz1 hz2 rfl (by decide) _ _ _ rfl HOA2.out ⟨w.heap.size + 1, 0, none⟩ 1 1 [.iface tv uv] rfl rfl (cell_1k _ _ _ _ (by simp)) (one_iface _ _) (by unfold maxLen; omega) (by omega) (by simp; omega) ?_; intro v' w5 hown' hgrow' hblk' _; obtain ⟨o1, c1, hv1⟩ := own_shape hown'; subst hv1; have A5 := Lib.hid (lay_first HP.out HOA.out HOT0.out hown' hgrow'); clear hown' hgrow' hblk' p1 p2 f1 f2; obtain ⟨p0, p1, p2, _, _, _, f1, f2, _⟩ := A5.out.pat.reads; obtain ⟨x0, x1, x2, y0, y1, y2⟩ := A5.out.res.reads; rw [HVT2.out] at p2)
    | (refine wpList_append_keeps _ rfl _ _ 43 rfl (bp + 1) 47 it (.int .u64 0) 1 8 Try.underlying43 hj hy0 hy1 hy2 rfl (by decide) _ _ _ rfl (HVT2.out ▸ A5.out.second _) ⟨w5.heap.size, 0, none⟩ 1 1 [.int .u64 0] rfl rfl (cell_1k _ _ _ _ (by simp [World.setCell])) (one_u64 _) (by unfold maxLen; omega) (by omega) (by have := A5.out.lt; have := (Array.getElem?_eq_some_iff.1 A5.out.res).1; simp; omega) ?_; intro v'' w7 hown'' hgrow'' hblk'' _; obtain ⟨o2, c2, hv2⟩ := own_shape hown''; subst hv2; have A7 := Lib.hid (lay_second A5.out HVT2.out hown'' hgrow''); clear hown'' hgrow'' hblk'' p1 p2 f1 f2 x0 x1 x2 y0 y1 y2; obtain ⟨p0, p1, p2, _, _, _, f1, f2, _⟩ := A7.out.pat.reads; obtain ⟨x0, x1, x2, y0, y1, y2⟩ := A7.out.res.reads))
  have hne : bp ≠ w.heap.size := by omega
  obtain ⟨k1, k2⟩ := lay_done (p := .bool false) (q := .int .u64 N) (r := .int .u64 N) A7.out HR.out HT.out HN.out HN3.out
  refine bodyPost_ret (v := .agg #[.bool false, .int .u64 N, .int .u64 N]) (by simp [results, Try.results28, go_sem, x0, x1, x2]) rfl ⟨rfl, k1, k2⟩
end Go.Proofs.Ytfpdhmecomgbdaa
