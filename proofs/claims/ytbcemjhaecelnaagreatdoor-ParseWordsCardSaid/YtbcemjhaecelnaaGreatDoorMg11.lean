import Derived.Test.YtbcemjhaecelnaaGreatDoorMg08
import Derived.Test.YtbcemjhaecelnaaGreatDoorMg10
import Derived.Laws.BitsAllLaws
import Derived.Laws.Shifts
section
set_option maxHeartbeats 4000000
set_option maxRecDepth 100000
section
namespace Go.Proofs.YtbcemjhaecelnaaGreatDoor.Pat
structure Eg where
 none : Bool
 first : Nat
 last : Nat
structure Gr where
 atoms : List Pt
 thn : List Nat
def linkF (thn : List Nat) (a b : Nat) : List Nat := thn.mapIdx fun i t => if a.testBit i then t ||| b else t
def za8 (x : Pt) (g : Gr) : Eg × Gr := (⟨false, 2 ^ g.atoms.length, 2 ^ g.atoms.length⟩, ⟨g.atoms ++ [x], g.thn ++ [0]⟩)
def altF (e e1 : Eg) : Eg := ⟨e.none || e1.none, e.first ||| e1.first, e.last ||| e1.last⟩
def seqF (e e1 : Eg) : Eg := ⟨e.none && e1.none, if e.none then e.first ||| e1.first else e.first, if e1.none then e.last ||| e1.last else e1.last⟩
def zcw (a b : Bool) (p : Eg × Gr) : Eg × Gr := (⟨p.1.none || a, p.1.first, p.1.last⟩, if b then ⟨p.2.atoms, linkF p.2.thn p.1.last p.1.first⟩ else p.2)
mutual
def layF : Pt -> Gr -> Eg × Gr
 | .choice l, g => zaT l ⟨false, 0, 0⟩ g
 | .chain l, g => zbo l ⟨true, 0, 0⟩ g
 | .times x a b, g => zcw a b (layF x g)
 | .only r, g => za8 (.only r) g
 | .cls n xs, g => za8 (.cls n xs) g
 | .dot, g => za8 .dot g
def zaT : List Pt -> Eg -> Gr -> Eg × Gr
 | [], e, g => (e, g)
 | x :: xs, e, g => zaT xs (altF e (layF x g).1) (layF x g).2
def zbo : List Pt -> Eg -> Gr -> Eg × Gr
 | [], e, g => (e, g)
 | x :: xs, e, g => zbo xs (seqF e (layF x g).1) ⟨(layF x g).2.atoms, linkF (layF x g).2.thn e.last (layF x g).1.first⟩
end
theorem zb6 (t : List Nat) (a b : Nat) : (linkF t a b).length = t.length := by simp [linkF]
theorem zdt {a b n : Nat} (ha : a < 2 ^ n) (hb : b < 2 ^ n) : a ||| b < 2 ^ n := Nat.or_lt_two_pow ha hb
theorem zaM {a n m : Nat} (ha : a < 2 ^ n) (h : n <= m) : a < 2 ^ m := Nat.lt_of_lt_of_le ha (Nat.pow_le_pow_right (by omega) h)
structure GrOk (g : Gr) : Prop where
 len : g.thn.length = g.atoms.length
 small : ∀ t ∈ g.thn, t < 2 ^ g.atoms.length
theorem zdc {t : List Nat} {a b n : Nat} (h : ∀ x ∈ t, x < 2 ^ n) (hb : b < 2 ^ n) : ∀ x ∈ linkF t a b, x < 2 ^ n := by
 intro x hx
 unfold linkF at hx
 obtain ⟨i, hi, rfl⟩ := List.mem_mapIdx.1 hx
 split
 ·exact zdt (h _ (List.getElem_mem _)) hb
 ·exact h _ (List.getElem_mem _)
theorem zdd (x : Pt) (hx : x.size = 1) (g : Gr) (h : GrOk g) : GrOk (za8 x g).2 /\ (za8 x g).2.atoms.length = g.atoms.length + x.size /\ (za8 x g).1.first < 2 ^ (g.atoms.length + x.size) /\ (za8 x g).1.last < 2 ^ (g.atoms.length + x.size) := by
 unfold za8
 rw [hx]
 have hp : 2 ^ g.atoms.length < 2 ^ (g.atoms.length + 1) := Nat.pow_lt_pow_right (by omega) (by omega)
 refine ⟨⟨by simp [h.len], fun t ht => ?_⟩, by simp, hp, hp⟩
 rw [List.length_append]
 rcases List.mem_append.1 ht with ht | ht
 ·exact zaM (h.small t ht) (by simp)
 ·simp at ht; subst ht; exact Nat.two_pow_pos _
mutual
theorem zdB : ∀ (x : Pt) (g : Gr), GrOk g -> GrOk (layF x g).2 /\ (layF x g).2.atoms.length = g.atoms.length + x.size /\ (layF x g).1.first < 2 ^ (g.atoms.length + x.size) /\ (layF x g).1.last < 2 ^ (g.atoms.length + x.size)
 | .choice l, g, h => by
   rw [layF]
   exact zfc l ⟨false, 0, 0⟩ g h (Nat.two_pow_pos _) (Nat.two_pow_pos _)
 | .chain l, g, h => by
   rw [layF]
   exact zge l ⟨true, 0, 0⟩ g h (Nat.two_pow_pos _) (Nat.two_pow_pos _)
 | .times x a b, g, h => by
   rw [layF]
   obtain ⟨h1, h2, h3, h4⟩ := zdB x g h
   unfold zcw
   refine ⟨?_, ?_, h3, h4⟩
   ·cases b with
    | false => exact h1
    | true =>
      rw [if_pos rfl]
      exact ⟨by rw [zb6]; exact h1.len, zdc h1.small (by rw [h2]; exact h3)⟩
   ·cases b with
    | false => exact h2
    | true => exact h2
 | .only r, g, h => by rw [layF]; exact zdd _ rfl g h
 | .cls n xs, g, h => by rw [layF]; exact zdd _ rfl g h
 | .dot, g, h => by rw [layF]; exact zdd _ rfl g h
theorem zfc : ∀ (l : List Pt) (e : Eg) (g : Gr), GrOk g -> e.first < 2 ^ g.atoms.length -> e.last < 2 ^ g.atoms.length -> GrOk (zaT l e g).2 /\ (zaT l e g).2.atoms.length = g.atoms.length + zaI l /\ (zaT l e g).1.first < 2 ^ (g.atoms.length + zaI l) /\ (zaT l e g).1.last < 2 ^ (g.atoms.length + zaI l)
 | [], e, g, h, h1, h2 => ⟨h, by simp [zaT, zaI], by simpa [zaT, zaI] using h1, by simpa [zaT, zaI] using h2⟩
 | x :: xs, e, g, h, h1, h2 => by
   rw [zaT]
   obtain ⟨k1, k2, k3, k4⟩ := zdB x g h
   have := zfc xs (altF e (layF x g).1) (layF x g).2 k1 (by rw [k2]; exact zdt (zaM h1 (by omega)) k3) (by rw [k2]; exact zdt (zaM h2 (by omega)) k4)
   rw [k2] at this
   simpa [zaI, Nat.add_assoc] using this
theorem zge : ∀ (l : List Pt) (e : Eg) (g : Gr), GrOk g -> e.first < 2 ^ g.atoms.length -> e.last < 2 ^ g.atoms.length -> GrOk (zbo l e g).2 /\ (zbo l e g).2.atoms.length = g.atoms.length + zaI l /\ (zbo l e g).1.first < 2 ^ (g.atoms.length + zaI l) /\ (zbo l e g).1.last < 2 ^ (g.atoms.length + zaI l)
 | [], e, g, h, h1, h2 => ⟨h, by simp [zbo, zaI], by simpa [zbo, zaI] using h1, by simpa [zbo, zaI] using h2⟩
 | x :: xs, e, g, h, h1, h2 => by
   rw [zbo]
   obtain ⟨k1, k2, k3, k4⟩ := zdB x g h
   have ok : GrOk ⟨(layF x g).2.atoms, linkF (layF x g).2.thn e.last (layF x g).1.first⟩ := ⟨by rw [zb6]; exact k1.len, zdc k1.small (by rw [k2]; exact k3)⟩
   have f1 : (seqF e (layF x g).1).first < 2 ^ (layF x g).2.atoms.length := by
    rw [k2]; unfold seqF; dsimp only; split
    ·exact zdt (zaM h1 (by omega)) k3
    ·exact zaM h1 (by omega)
   have f2 : (seqF e (layF x g).1).last < 2 ^ (layF x g).2.atoms.length := by
    rw [k2]; unfold seqF; dsimp only; split
    ·exact zdt (zaM h2 (by omega)) k4
    ·exact k4
   have := zge xs (seqF e (layF x g).1) ⟨(layF x g).2.atoms, linkF (layF x g).2.thn e.last (layF x g).1.first⟩ ok f1 f2
   dsimp only at this
   rw [k2] at this
   simpa [zaI, Nat.add_assoc] using this
end
end Go.Proofs.YtbcemjhaecelnaaGreatDoor.Pat
end
section
namespace Go.Proofs.YtbcemjhaecelnaaGreatDoor.Pat
open Go.RowKit
theorem info47 : (Tryz.prog.info? 223).map (fun i => (i.zero, i.size, i.bytes)) = some (some (.int .u64 0), 1, 8) := by kernel_rfl
theorem ze2 {w : World} {B C e f n m s : Nat} {v u : Value} {xs ys : List Value} (h : w.ownsRow B e 1 v n xs) (h' : w.ownsRow C f s u m ys) (hef : e ≠ f) : v.ownBlock = none \/ v.ownBlock ≠ u.ownBlock := by
 rcases h.2 with ⟨rfl, _⟩ | ⟨g, cap, cur, rfl, _, hg, _⟩
 ·exact .inl rfl
 ·rcases h'.2 with ⟨rfl, _⟩ | ⟨g', cap', cur', rfl, _, hg', _⟩
  ·exact .inr (by simp [Value.ownBlock])
  ·refine .inr ?_
   simp only [Value.ownBlock, ne_eq, Option.some.injEq]
   rintro rfl
   rw [hg] at hg'
   injection hg' with e1
   injection e1 with _ e2 _
   exact hef e2
def u64s (l : List Nat) : List Value := l.map fun (n : Nat) => .int .u64 (n : Int)
structure GrRow (w : World) (bp : Nat) (va vt : Value) (vs : List Value) (g : Gr) : Prop where
 atoms : w.ownsRow (bp + 1) 216 1 va g.atoms.length vs
 links : w.ownsRow (bp + 1) 223 1 vt g.thn.length (u64s g.thn)
 kids : ∀ (j : Nat) u x, vs[j]? = some u -> g.atoms[j]? = some x -> Tree w (fun b => b < bp) u x
def Pat (w : World) (bp : Nat) (t va vt a b c : Value) : Prop := w.heap[bp]? = some (.cells #[t, va, vt, a, b, c] 227 (0, 0))
def GrAt (w : World) (bp : Nat) (t a b c : Value) (g : Gr) : Prop := ∃ va vt vs, Pat w bp t va vt a b c /\ GrRow w bp va vt vs g
theorem Pat.reads {w : World} {bp : Nat} {t va vt a b c : Value} (h : Pat w bp t va vt a b c) : w.cell? ⟨bp, 0, none⟩ = some t /\ w.cell? ⟨bp, 1, none⟩ = some va /\ w.cell? ⟨bp, 2, none⟩ = some vt /\ w.cell? ⟨bp, 3, none⟩ = some a /\ w.cell? ⟨bp, 4, none⟩ = some b /\ w.cell? ⟨bp, 5, none⟩ = some c /\ w.frozen? ⟨bp, 1, none⟩ = false /\ w.frozen? ⟨bp, 2, none⟩ = false /\ bp < w.heap.size := by
 have hl := (Array.getElem?_eq_some_iff.1 h).1
 unfold Pat at h
 refine ⟨?_, ?_, ?_, ?_, ?_, ?_, ?_, ?_, hl⟩ <;> simp [World.cell?, World.frozen?, h]
theorem Pat.below {w w' : World} {bp : Nat} {t va vt a b c : Value} (h : Pat w bp t va vt a b c) (hb : Below w.heap.size w w') : Pat w' bp t va vt a b c :=
 (hb.block bp (Array.getElem?_eq_some_iff.1 h).1).trans h
theorem own_below {w w' : World} {B e size n : Nat} {v : Value} {xs : List Value} (h : w.ownsRow B e size v n xs) (hb : Below w.heap.size w w') : w'.ownsRow B e size v n xs :=
 h.kept (row := none) ⟨hb.os, hb.tape, hb.output, hb.size, fun k hk _ => hb.block k hk⟩ (by cases hv : v.ownBlock <;> simp)
theorem Tree.stays {w w' : World} {P : Nat -> Prop} {v : Value} {x : Pt} (h : Tree w P v x) (hb : Below w.heap.size w w') : Tree w' P v x :=
 h.keep fun b hp hl => ⟨hb.block b hl, hp⟩
theorem GrRow.below {w w' : World} {bp : Nat} {va vt : Value} {vs : List Value} {g : Gr} (h : GrRow w bp va vt vs g) (hb : Below w.heap.size w w') : GrRow w' bp va vt vs g :=
 ⟨own_below h.atoms hb, own_below h.links hb, fun j u x hu hx => (h.kids j u x hu hx).stays hb⟩
theorem GrAt.below {w w' : World} {bp : Nat} {t a b c : Value} {g : Gr} (h : GrAt w bp t a b c g) (hb : Below w.heap.size w w') : GrAt w' bp t a b c g := by
 obtain ⟨va, vt, vs, h1, h2⟩ := h
 exact ⟨va, vt, vs, h1.below hb, h2.below hb⟩
theorem GrAt.lt {w : World} {bp : Nat} {t a b c : Value} {g : Gr} (h : GrAt w bp t a b c g) : bp < w.heap.size := by
 obtain ⟨va, vt, vs, h1, _⟩ := h
 exact h1.reads.2.2.2.2.2.2.2.2
theorem shl_one {n : Nat} (h : n < 64) : IntKind.u64.wrap ((2 : Int) ^ n) = ((2 ^ n : Nat) : Int) := by
 have h1 : 2 ^ n < 2 ^ 64 := Nat.pow_lt_pow_right (by omega) h
 have h2 : ((2 : Int) ^ n) = ((2 ^ n : Nat) : Int) := by simp
 have h3 : ((2 ^ 64 : Nat) : Int) = 18446744073709551616 := by decide
 rw [IntKind.wrap_u64, h2]
 generalize 2 ^ n = N at h1 ⊢
 generalize 2 ^ 64 = M at h1 h3
 rw [Int.emod_eq_of_lt (by omega) (by omega)]
theorem one_u64 (n : Int) : ∀ v ∈ [Value.int .u64 n], v.oneCell' = true := by
 intro v hv; simp at hv; subst hv; rfl
theorem Pat.after {w w1 w' : World} {bp : Nat} {t va vt a b c v : Value} (h : Pat w bp t va vt a b c) (hb : Below w.heap.size w w1) (hg : w1.grownBy w' v.ownBlock) (hv : ∀ k, v.ownBlock = some k -> bp + 1 <= k) : Pat w' bp t va vt a b c := by
 have hl := h.reads.2.2.2.2.2.2.2.2
 refine (hg.block bp (Nat.lt_of_lt_of_le hl hb.size) (fun e => by have := hv bp e.symm; omega)).trans (h.below hb)
theorem Pat.set1 {w : World} {bp : Nat} {t va vt a b c : Value} (h : Pat w bp t va vt a b c) (u : Value) : Pat (w.setCell ⟨bp, 1, none⟩ u) bp t u vt a b c := heap_setCell_same w bp 1 _ 227 u h
theorem Pat.set2 {w : World} {bp : Nat} {t va vt a b c : Value} (h : Pat w bp t va vt a b c) (u : Value) : Pat (w.setCell ⟨bp, 2, none⟩ u) bp t va u a b c := heap_setCell_same w bp 2 _ 227 u h
theorem zdC {w : World} {B e size n k : Nat} {v : Value} {xs : List Value} {cs : Array Value} {t : TypeId} {fr : Nat × Nat} (h : w.ownsRow B e size v n xs) (hk : w.heap[k]? = some (.cells cs t fr)) (hne : t ≠ e) : v.ownBlock ≠ some k := by
 rcases h.2 with ⟨rfl, _⟩ | ⟨g, cap, cur, rfl, _, hg, _⟩
 ·simp [Value.ownBlock]
 ·simp only [Value.ownBlock, ne_eq, Option.some.injEq]
  rintro rfl
  rw [hg] at hk
  injection hk with e1
  injection e1 with _ e2 _
  exact hne e2.symm
def Tys (w w' : World) : Prop := ∀ (k : Nat) (cs : Array Value) (ty : TypeId) (fr : Nat × Nat), w.heap[k]? = some (.cells cs ty fr) -> ty ≠ 216 -> ty ≠ 223 -> ty ≠ 227 -> w'.heap[k]? = some (.cells cs ty fr)
theorem Tys.refl (w : World) : Tys w w := fun _ _ _ _ h _ _ _ => h
theorem Tys.trans {a b c : World} (h : Tys a b) (k : Tys b c) : Tys a c := fun j cs ty fr hj h1 h2 h3 => k j cs ty fr (h j cs ty fr hj h1 h2 h3) h1 h2 h3
theorem Tys.of_below {w w' : World} (h : Below w.heap.size w w') : Tys w w' := fun j _ _ _ hj _ _ _ => (h.block j (Array.getElem?_eq_some_iff.1 hj).1).trans hj
theorem Tys.of_grown {w w' : World} {B e s n : Nat} {v : Value} {xs : List Value} (h : w.ownsRow B e s v n xs) (hg : w.grownBy w' v.ownBlock) (he : e = 216 \/ e = 223) : Tys w w' := by
 intro j cs ty fr hj h1 h2 h3
 refine (hg.block j (Array.getElem?_eq_some_iff.1 hj).1 (fun e2 => ?_)).trans hj
 exact zdC h hj (by rcases he with rfl | rfl <;> assumption) e2.symm
theorem Tys.of_set {w : World} {bp i : Nat} {cs : Array Value} {u : Value} (h : w.heap[bp]? = some (.cells cs 227 (0, 0))) : Tys w (w.setCell ⟨bp, i, none⟩ u) := by
 intro j cs' ty fr hj h1 h2 h3
 refine (heap_setCell_other _ _ _ _ (fun e => ?_)).trans hj
 have e2 : j = bp := e
 subst e2
 rw [h] at hj
 injection hj with e1
 injection e1 with _ e3 _
 exact h3 e3.symm
theorem Tys.setNew {w0 w : World} (h : Tys w0 w) {k : Nat} (hk : w0.heap.size <= k) (i : Nat) (u : Value) : Tys w0 (w.setCell ⟨k, i, none⟩ u) := by
 intro j cs ty fr hj h1 h2 h3
 have hl := (Array.getElem?_eq_some_iff.1 hj).1
 exact (heap_setCell_other _ _ _ _ (fun e => by have e2 : j = k := e; omega)).trans (h j cs ty fr hj h1 h2 h3)
def Box3 (w : World) (k : Nat) (a b c : Value) (t : TypeId) : Prop := w.heap[k]? = some (.cells #[a, b, c] t (0, 0))
theorem Box3.reads {w : World} {k : Nat} {a b c : Value} {t : TypeId} (h : Box3 w k a b c t) : w.cell? ⟨k, 0, none⟩ = some a /\ w.cell? ⟨k, 1, none⟩ = some b /\ w.cell? ⟨k, 2, none⟩ = some c /\ w.frozen? ⟨k, 0, none⟩ = false /\ w.frozen? ⟨k, 1, none⟩ = false /\ w.frozen? ⟨k, 2, none⟩ = false := by
 unfold Box3 at h
 refine ⟨?_, ?_, ?_, ?_, ?_, ?_⟩ <;> simp [World.cell?, World.frozen?, h]
structure Lay1 (w w5 : World) (bp : Nat) (t a b c : Value) (va vt v' : Value) (n : Nat) (ks ls : List Value) : Prop where
 pat : Pat w5 bp t va vt a b c
 res : Box3 w5 w.heap.size (.bool false) (.int .u64 0) (.int .u64 0) 225
 atoms : w5.ownsRow (bp + 1) 216 1 v' (n + 1) ks
 links : w5.ownsRow (bp + 1) 223 1 vt n ls
 below : Below bp w w5
 tys : Tys w w5
 lt : bp < w.heap.size
theorem lay_first {w w5 : World} {bp n : Nat} {t a b c va vt v v' u : Value} {vs ls : List Value} (hp : Pat w bp t va vt a b c) (ha : w.ownsRow (bp + 1) 216 1 v n vs) (hl : w.ownsRow (bp + 1) 223 1 vt n ls)
 (ho : w5.ownsRow (bp + 1) 216 1 v' (n + 1) (vs ++ [u])) (hg : ((w.alloc (Obj.cells #[Value.bool false, Value.int .u64 0, Value.int .u64 0] 225)).alloc (Obj.cells #[u] 216)).grownBy w5 v.ownBlock) : Lay1 w w5 bp t a b c va vt v' n (vs ++ [u]) ls := by
 have hlt := hp.reads.2.2.2.2.2.2.2.2
 have hB : Below w.heap.size w ((w.alloc (Obj.cells #[Value.bool false, Value.int .u64 0, Value.int .u64 0] 225)).alloc (Obj.cells #[u] 216)) := ((Below.refl _ _).alloc (Nat.le_refl _) _).alloc (by simp) _
 have hv : ∀ k, v.ownBlock = some k -> bp + 1 <= k /\ k < w.heap.size := fun k hk => ha.lt k hk
 refine ⟨hp.after hB hg (fun k hk => (hv k hk).1), ?_, ho, (own_below hl hB).kept hg (ze2 hl ha (by decide)), ?_, (Tys.of_below hB).trans (Tys.of_grown (own_below ha hB) hg (.inl rfl)), hlt⟩
 ·unfold Box3
  rw [hg.block w.heap.size (by simp; omega) (fun e => by have := (hv _ e.symm).2; omega), Below.heap_alloc _ _ _ (by simp)]
  exact Array.getElem?_push_size
 ·exact Below.grown (hB.mono (Nat.le_of_lt hlt)) hg (by have := hB.size; omega) (fun k hk => by have := (hv k hk).1; omega)
theorem Lay1.second {w w5 : World} {bp n : Nat} {t a b c va vt v' : Value} {ks ls : List Value} (h : Lay1 w w5 bp t a b c va vt v' n ks ls) (o : Obj) : ((w5.setCell ⟨bp, 1, none⟩ v').alloc o).ownsRow (bp + 1) 223 1 vt n ls :=
 (ownsRow_setCell_below h.links (a := ⟨bp, 1, none⟩) (Nat.lt_succ_self bp) v').alloc o
structure Lay2 (w w7 : World) (bp : Nat) (t a b c : Value) (vt v' v'' : Value) (n : Nat) (ks ls : List Value) : Prop where
 pat : Pat w7 bp t v' vt a b c
 res : Box3 w7 w.heap.size (.bool false) (.int .u64 0) (.int .u64 0) 225
 atoms : w7.ownsRow (bp + 1) 216 1 v' (n + 1) ks
 links : w7.ownsRow (bp + 1) 223 1 v'' (n + 1) ls
 below : Below bp w w7
 tys : Tys w w7
 lt : bp < w.heap.size
theorem lay_second {w w5 w7 : World} {bp n : Nat} {t a b c va vt v v' v'' u : Value} {ks ls : List Value} (h : Lay1 w w5 bp t a b c va vt v' n ks ls) (hv : vt = v)
 (ho : w7.ownsRow (bp + 1) 223 1 v'' (n + 1) (ls ++ [u])) (hg : ((w5.setCell ⟨bp, 1, none⟩ v').alloc (Obj.cells #[u] 223)).grownBy w7 v.ownBlock) : Lay2 w w7 bp t a b c vt v' v'' n ks (ls ++ [u]) := by
 subst hv
 have hlt := h.lt
 have hs5 : w.heap.size < w5.heap.size := (Array.getElem?_eq_some_iff.1 h.res).1
 have hbl : ∀ k, vt.ownBlock = some k -> bp + 1 <= k /\ k < w5.heap.size := fun k hk => h.links.lt k hk
 have hW : (w5.setCell ⟨bp, 1, none⟩ v').heap.size = w5.heap.size := by simp [World.setCell]
 have hB : Below (w5.setCell ⟨bp, 1, none⟩ v').heap.size (w5.setCell ⟨bp, 1, none⟩ v') ((w5.setCell ⟨bp, 1, none⟩ v').alloc (Obj.cells #[u] 223)) := (Below.refl _ _).alloc (Nat.le_refl _) _
 refine ⟨(h.pat.set1 v').after hB hg (fun k hk => (hbl k hk).1), ?_, ?_, ho, ?_, h.tys.trans ((Tys.of_set h.pat).trans ((Tys.of_below hB).trans (Tys.of_grown (own_below (ownsRow_setCell_below h.links (a := ⟨bp, 1, none⟩) (Nat.lt_succ_self bp) v') hB) hg (.inr rfl)))), hlt⟩
 ·unfold Box3
  rw [hg.block w.heap.size (by rw [World.size_alloc, hW]; omega) (fun e => zdC h.links h.res (by decide) e.symm), Below.heap_alloc _ _ _ (by rw [hW]; exact hs5), heap_setCell_other _ _ _ _ (by show w.heap.size ≠ bp; omega)]
  exact h.res
 ·exact (own_below (ownsRow_setCell_below h.atoms (a := ⟨bp, 1, none⟩) (Nat.lt_succ_self bp) v') hB).kept hg (ze2 h.atoms h.links (by decide))
 ·have h1 : Below bp w (w5.setCell ⟨bp, 1, none⟩ v') := h.below.setCell (Nat.le_refl _) _
  exact Below.grown (h1.alloc (by rw [hW]; omega) _) hg (by rw [World.size_alloc, hW]; omega) (fun k hk => by have := (hbl k hk).1; omega)
theorem Tree.under {w w' : World} {bp : Nat} {v : Value} {x : Pt} (h : Tree w (fun b => b < bp) v x) (hb : Below bp w w') : Tree w' (fun b => b < bp) v x :=
 h.keep fun b hp _ => ⟨hb.block b hp, hp⟩
theorem lay_done {w w7 : World} {bp n : Nat} {t a b c va vt vt0 v' v'' u p q r : Value} {vs : List Value} {g : Gr} {x : Pt} (h : Lay2 w w7 bp t a b c vt0 v' v'' n (vs ++ [u]) (u64s g.thn ++ [.int .u64 0])) (hr : GrRow w bp va vt vs g) (ht : Tree w (fun b => b < bp) u x) (hn : g.atoms.length = n) (hn3 : g.thn.length = n) :
 GrAt ((((w7.setCell ⟨bp, 2, none⟩ v'').setCell ⟨w.heap.size, 0, none⟩ p).setCell ⟨w.heap.size, 1, none⟩ q).setCell ⟨w.heap.size, 2, none⟩ r) bp t a b c (za8 x g).2 /\ Below bp w ((((w7.setCell ⟨bp, 2, none⟩ v'').setCell ⟨w.heap.size, 0, none⟩ p).setCell ⟨w.heap.size, 1, none⟩ q).setCell ⟨w.heap.size, 2, none⟩ r) /\ Tys w ((((w7.setCell ⟨bp, 2, none⟩ v'').setCell ⟨w.heap.size, 0, none⟩ p).setCell ⟨w.heap.size, 1, none⟩ q).setCell ⟨w.heap.size, 2, none⟩ r) := by
 have hlt := h.lt
 have hB : Below bp w ((((w7.setCell ⟨bp, 2, none⟩ v'').setCell ⟨w.heap.size, 0, none⟩ p).setCell ⟨w.heap.size, 1, none⟩ q).setCell ⟨w.heap.size, 2, none⟩ r) :=
  (((h.below.setCell (Nat.le_refl _) _).setCell (Nat.le_of_lt hlt) _).setCell (Nat.le_of_lt hlt) _).setCell (Nat.le_of_lt hlt) _
 refine ⟨⟨v', v'', vs ++ [u], ?_, ?_, ?_, ?_⟩, hB, (((h.tys.trans (Tys.of_set h.pat)).setNew (Nat.le_refl _) _ _).setNew (Nat.le_refl _) _ _).setNew (Nat.le_refl _) _ _⟩
 ·have h2 := h.pat.set2 v''
  unfold Pat at h2 ⊢
  rw [heap_setCell_other _ _ _ _ (by show bp ≠ w.heap.size; omega), heap_setCell_other _ _ _ _ (by show bp ≠ w.heap.size; omega), heap_setCell_other _ _ _ _ (by show bp ≠ w.heap.size; omega)]
  exact h2
 ·have h2 := ownsRow_setCell_below h.atoms (a := ⟨bp, 2, none⟩) (Nat.lt_succ_self bp) v''
  have hne : v'.ownBlock ≠ some w.heap.size := zdC h.atoms h.res (by decide)
  have h3 := ownsRow_setCell_other (ownsRow_setCell_other (ownsRow_setCell_other h2 (a := ⟨w.heap.size, 0, none⟩) hne p) (a := ⟨w.heap.size, 1, none⟩) hne q) (a := ⟨w.heap.size, 2, none⟩) hne r
  have e : (za8 x g).2.atoms.length = n + 1 := by simp [za8, hn]
  rw [e]; exact h3
 ·have h2 := ownsRow_setCell_below h.links (a := ⟨bp, 2, none⟩) (Nat.lt_succ_self bp) v''
  have hne : v''.ownBlock ≠ some w.heap.size := zdC h.links h.res (by decide)
  have h3 := ownsRow_setCell_other (ownsRow_setCell_other (ownsRow_setCell_other h2 (a := ⟨w.heap.size, 0, none⟩) hne p) (a := ⟨w.heap.size, 1, none⟩) hne q) (a := ⟨w.heap.size, 2, none⟩) hne r
  have e : (za8 x g).2.thn.length = n + 1 := by simp [za8, hn3]
  have e2 : u64s (za8 x g).2.thn = u64s g.thn ++ [.int .u64 0] := by simp [za8, u64s]
  rw [e, e2]; exact h3
 ·intro j uu y hu hy
  have hlen : vs.length = g.atoms.length := by have := hr.atoms.1; omega
  have hy2 : (g.atoms ++ [x])[j]? = some y := hy
  by_cases hj : j < g.atoms.length
  ·rw [List.getElem?_append_left (by omega)] at hu
   rw [List.getElem?_append_left hj] at hy2
   exact (hr.kids j uu y hu hy2).under hB
  ·rw [List.getElem?_append_right (by omega)] at hu
   rw [List.getElem?_append_right (by omega)] at hy2
   by_cases h0 : j = g.atoms.length
   ·subst h0
    simp [hlen] at hu hy2
    subst hu; subst hy2
    exact ht.under hB
   ·obtain ⟨k, hk2⟩ : ∃ k, j - g.atoms.length = k + 1 := ⟨j - g.atoms.length - 1, by omega⟩
    rw [hk2] at hy2
    simp at hy2
theorem layAtom_any (bp : Nat) (t a b c : Value) (g : Gr) (v : Value) (x : Pt) (w : World) (h : GrAt w bp t a b c g) (ht : Tree w (fun b => b < bp) v x) (hn : g.atoms.length < 64) (hok : GrOk g) :
 Calls Tryz.prog 183 #[.pointer (some ⟨bp, 1, none⟩), v] w fun e w' => e = .returned (.agg #[.bool false, .int .u64 ((2 ^ g.atoms.length : Nat) : Int), .int .u64 ((2 ^ g.atoms.length : Nat) : Int)]) /\ GrAt w' bp t a b c (za8 x g).2 /\ Below bp w w' /\ Tys w w' := by
 obtain ⟨ia, hi, hz0, hz1, hz2⟩ := info_parts zhC
 obtain ⟨it, hj, hy0, hy1, hy2⟩ := info_parts info47
 obtain ⟨va, vt, vs, hp, hr⟩ := h
 obtain ⟨oa, ca, hva⟩ := own_shape hr.atoms
 obtain ⟨ot, ct, hvt⟩ := own_shape hr.links
 obtain ⟨p0, p1, p2, _, _, _, f1, f2, hlt⟩ := hp.reads
 obtain ⟨tv, uv, rfl⟩ := ht.iface
 obtain ⟨n, hn2⟩ : ∃ n, g.atoms.length = n := ⟨_, rfl⟩
 have hn3 : g.thn.length = n := by rw [hok.len]; exact hn2
 have HN := zh hn2
 have HN3 := zh hn3
 have HR := zh hr
 have HT := zh ht
 have HP := zh hp
 rw [hva, hn2] at p1
 rw [hvt, hn3] at p2
 rw [hn2] at hn
 rw [hn2]
 have hsh := shl_one hn
 obtain ⟨N, hN⟩ : ∃ N : Nat, 2 ^ n = N := ⟨_, rfl⟩
 rw [hN] at hsh
 rw [hN]
 have HNN := zh hN
 have hoa := hr.atoms
 have hot := hr.links
 rw [hva, hn2] at hoa
 rw [hvt, hn3] at hot
 have HOA := zh hoa
 have HOT := zh hot
 have HOT0 := zh (show w.ownsRow (bp + 1) 223 1 vt n (u64s g.thn) by rw [hvt, hn3]; exact hot)
 have HVT2 := zh (show vt = .slice ot n ct by rw [hvt, hn3])
 have HFAR := zh (ze2 hoa hot (by decide))
 have HFAR2 := zh (ze2 hot hoa (by decide))
 have HVA := zh hva
 have HVT := zh hvt
 clear hr ht hp p0 hn2 hn3 hN hva hvt hoa hot
 have hHA := (HOA.out.alloc (Obj.cells #[Value.bool false, Value.int .u64 0, Value.int .u64 0] 225)).alloc (Obj.cells #[.iface tv uv] 216)
 have HOA2 := zh hHA
 clear hHA
 go_enter Tryz.func183, Tryz.ntmps183
 go_wp2_with (at_builtin; first
  | (refine zaL _ rfl _ _ 219 rfl (bp + 1) 216 ia .nilIface 1 16 Tryz.underlying219 hi hz0 hz1 hz2 rfl (by decide) _ _ _ rfl HOA2.out ⟨w.heap.size + 1, 0, none⟩ 1 1 [.iface tv uv] rfl rfl (cell_1k _ _ _ _ (by simp)) (zez _ _) (by unfold maxLen; omega) (by omega) (by simp; omega) ?_; intro v' w5 hown' hgrow' hblk' _; obtain ⟨o1, c1, hv1⟩ := own_shape hown'; subst hv1; have A5 := zh (lay_first HP.out HOA.out HOT0.out hown' hgrow'); clear hown' hgrow' hblk' p1 p2 f1 f2; obtain ⟨p0, p1, p2, _, _, _, f1, f2, _⟩ := A5.out.pat.reads; obtain ⟨x0, x1, x2, y0, y1, y2⟩ := A5.out.res.reads; rw [HVT2.out] at p2)
  | (refine zaL _ rfl _ _ 220 rfl (bp + 1) 223 it (.int .u64 0) 1 8 Tryz.underlying220 hj hy0 hy1 hy2 rfl (by decide) _ _ _ rfl (HVT2.out ▸ A5.out.second _) ⟨w5.heap.size, 0, none⟩ 1 1 [.int .u64 0] rfl rfl (cell_1k _ _ _ _ (by simp [World.setCell])) (one_u64 _) (by unfold maxLen; omega) (by omega) (by have := A5.out.lt; have := (Array.getElem?_eq_some_iff.1 A5.out.res).1; simp; omega) ?_; intro v'' w7 hown'' hgrow'' hblk'' _; obtain ⟨o2, c2, hv2⟩ := own_shape hown''; subst hv2; have A7 := zh (lay_second A5.out HVT2.out hown'' hgrow''); clear hown'' hgrow'' hblk'' p1 p2 f1 f2 x0 x1 x2 y0 y1 y2; obtain ⟨p0, p1, p2, _, _, _, f1, f2, _⟩ := A7.out.pat.reads; obtain ⟨x0, x1, x2, y0, y1, y2⟩ := A7.out.res.reads))
 have hne : bp ≠ w.heap.size := by omega
 obtain ⟨k1, k2⟩ := lay_done (p := .bool false) (q := .int .u64 N) (r := .int .u64 N) A7.out HR.out HT.out HN.out HN3.out
 refine bodyPost_ret (v := .agg #[.bool false, .int .u64 N, .int .u64 N]) (by simp [results, Tryz.results183, go_sem, x0, x1, x2]) rfl ⟨rfl, k1, k2⟩
end Go.Proofs.YtbcemjhaecelnaaGreatDoor.Pat
end
section
namespace Go.Proofs.YtbcemjhaecelnaaGreatDoor.Pat
open Go.RowKit
def mixL (t : List Nat) (a b k : Nat) : List Nat := (linkF t a b).take k ++ t.drop k
theorem zee (t : List Nat) (a b k : Nat) : (mixL t a b k).length = t.length := by
 unfold mixL
 rw [List.length_append, List.length_take, List.length_drop, zb6]; omega
theorem mixL_zero (t : List Nat) (a b : Nat) : mixL t a b 0 = t := by simp [mixL]
theorem mixL_end (t : List Nat) (a b k : Nat) (h : t.length <= k) : mixL t a b k = linkF t a b := by
 unfold mixL
 rw [List.take_of_length_le (by rw [zb6]; exact h), List.drop_eq_nil_of_le h, List.append_nil]
theorem linkF_at (t : List Nat) (a b i : Nat) (h : i < t.length) : (linkF t a b)[i]? = some (if a.testBit i then t[i] ||| b else t[i]) := by
 unfold linkF
 rw [List.getElem?_mapIdx, List.getElem?_eq_getElem h]; rfl
theorem mixL_at (t : List Nat) (a b k : Nat) (h : k < t.length) : (mixL t a b k)[k]? = some t[k] := by
 unfold mixL
 rw [List.getElem?_append_right (by rw [List.length_take, zb6]; omega), List.length_take, zb6, Nat.min_eq_left (by omega), Nat.sub_self, List.getElem?_drop, Nat.add_zero, List.getElem?_eq_getElem h]
theorem zgf (t : List Nat) (a b k : Nat) (h : k < t.length) : mixL t a b (k + 1) = (mixL t a b k).set k (if a.testBit k then t[k] ||| b else t[k]) := by
 apply List.ext_getElem?
 intro i
 rw [List.getElem?_set, zee]
 unfold mixL
 rw [List.getElem?_append, List.getElem?_append, List.length_take, List.length_take, zb6, List.getElem?_take, List.getElem?_take, List.getElem?_drop, List.getElem?_drop]
 by_cases h1 : k = i
 ·subst h1
  rw [if_pos (by omega), if_pos (by omega), if_pos rfl, if_pos h, linkF_at t a b k h]
 ·rw [if_neg h1]
  by_cases h2 : i < k
  ·rw [if_pos (by omega), if_pos (by omega), if_pos (by omega), if_pos h2]
  ·rw [if_neg (by omega), if_neg (by omega)]
   congr 1; omega
theorem set_same {t : List Nat} {k : Nat} {x : Nat} (h : t[k]? = some x) : t.set k x = t := by
 apply List.ext_getElem?
 intro i
 rw [List.getElem?_set]
 by_cases h1 : k = i
 ·subst h1
  have := (List.getElem?_eq_some_iff.1 h).1
  rw [if_pos rfl, if_pos this, h]
 ·rw [if_neg h1]
theorem bit_at {A k : Nat} (hA : A < 2 ^ 64) : (bits .and .u64 ((A : Int) / 2 ^ k) 1 != 0) = A.testBit k := by
 have h64 : (2 : Nat) ^ 64 = 18446744073709551616 := by decide
 have h1 : ((A : Int) / 2 ^ k) = ((A / 2 ^ k : Nat) : Int) := by simp
 have h2 : A / 2 ^ k < 2 ^ 64 := Nat.lt_of_le_of_lt (Nat.div_le_self _ _) hA
 rw [h1, show (1 : Int) = ((1 : Nat) : Int) from rfl, u64_and_nat _ _ (by rw [<- h64]; exact h2) (by omega), Nat.testBit_eq_decide_div_mod_eq, Nat.and_one_is_mod]
 have h3 : A / 2 ^ k % 2 < 2 := Nat.mod_lt _ (by omega)
 generalize A / 2 ^ k % 2 = m at h3
 rcases (show m = 0 \/ m = 1 by omega) with rfl | rfl <;> rfl
theorem zhE {A B : Nat} (hA : A < 2 ^ 64) (hB : B < 2 ^ 64) : bits .or .u64 (A : Int) (B : Int) = ((A ||| B : Nat) : Int) := by
 have h64 : (2 : Nat) ^ 64 = 18446744073709551616 := by decide
 exact u64_or_nat _ _ (by rw [<- h64]; exact hA) (by rw [<- h64]; exact hB)
theorem own_some {w : World} {B e size n : Nat} {v : Value} {xs : List Value} (h : w.ownsRow B e size v n xs) (hn : 0 < n) : ∃ g cap, v = .slice (some ⟨g, 0, none⟩) n cap /\ B <= g := by
 rcases h.2 with ⟨_, h0⟩ | ⟨g, cap, cur, rfl, hB, _⟩
 ·omega
 ·exact ⟨g, cap, rfl, hB⟩
theorem u64s_at {l : List Nat} {k x : Nat} (h : l[k]? = some x) : (u64s l)[k]? = some (.int .u64 (x : Int)) := by
 unfold u64s; rw [List.getElem?_map, h]; rfl
theorem u64s_set (l : List Nat) (k x : Nat) : u64s (l.set k x) = (u64s l).set k (.int .u64 (x : Int)) := by
 unfold u64s; rw [List.map_set]
structure LinkAt (w : World) (bp : Nat) (t a b c va vt : Value) (vs : List Value) (g : Gr) (A B k : Nat) (wr : World) : Prop where
 pat : Pat wr bp t va vt a b c
 row : GrRow wr bp va vt vs ⟨g.atoms, mixL g.thn A B k⟩
 below : Below bp w wr
 tys : Tys w wr
 le : k <= g.thn.length
theorem GrRow.links_set {w : World} {bp g1 n ct k O : Nat} {va vt : Value} {vs : List Value} {ats : List Pt} {l l2 : List Nat} (h : GrRow w bp va vt vs ⟨ats, l⟩) (hv : vt = .slice (some ⟨g1, 0, none⟩) n ct) (hn : l.length = n)
 (hl : l2 = l.set k O) : GrRow (w.setCell ⟨g1, k, none⟩ (.int .u64 (O : Int))) bp va vt vs ⟨ats, l2⟩ := by
 subst hv
 subst hl
 have hk := h.links
 dsimp only at hk
 rw [hn] at hk
 have hst := hk.stored k (.int .u64 (O : Int))
 have hB : bp + 1 <= g1 := (hk.lt g1 rfl).1
 refine ⟨?_, ?_, fun j u x hu hx => ?_⟩
 ·exact h.atoms.kept hst.2 (ze2 h.atoms hk (by decide))
 ·have : (l.set k O).length = n := by rw [List.length_set]; exact hn
  dsimp only
  rw [this, u64s_set]
  exact hst.1
 ·exact (h.kids j u x hu hx).keep fun b hb hl => ⟨hst.2.block b hl (by simp; omega), hb⟩
theorem link_next {w wr : World} {bp g1 n ct k O T A B : Nat} {t a b c va vt : Value} {vs : List Value} {g : Gr} (h : LinkAt w bp t a b c va vt vs g A B k wr) (hv : vt = .slice (some ⟨g1, 0, none⟩) n ct) (hn : g.thn.length = n) (hT : g.thn[k]? = some T) (hbit : A.testBit k = true) (hO : T ||| B = O) :
 LinkAt w bp t a b c va vt vs g A B (k + 1) (wr.setCell ⟨g1, k, none⟩ (.int .u64 (O : Int))) := by
 have hk : k < g.thn.length := (List.getElem?_eq_some_iff.1 hT).1
 have hT2 : g.thn[k] = T := (List.getElem?_eq_some_iff.1 hT).2
 have hg1 : bp + 1 <= g1 := (h.row.links.lt g1 (by rw [hv]; rfl)).1
 refine ⟨?_, ?_, h.below.setCell (by show bp <= g1; omega) _, h.tys.trans (Tys.of_grown h.row.links (by rw [hv]; exact grown_set wr g1 k _) (.inr rfl)), by omega⟩
 ·have := h.pat
  unfold Pat at this ⊢
  rw [heap_setCell_other _ _ _ _ (by show bp ≠ g1; omega)]
  exact this
 ·refine h.row.links_set hv (by rw [zee]; exact hn) ?_
  rw [zgf _ _ _ _ hk, hbit, hT2, if_pos rfl, hO]
theorem link_skip {w wr : World} {bp k T A B : Nat} {t a b c va vt : Value} {vs : List Value} {g : Gr} (h : LinkAt w bp t a b c va vt vs g A B k wr) (hT : g.thn[k]? = some T /\ (mixL g.thn A B k)[k]? = some T) (hbit : A.testBit k = false) :
 LinkAt w bp t a b c va vt vs g A B (k + 1) wr := by
 have hk : k < g.thn.length := (List.getElem?_eq_some_iff.1 hT.1).1
 have hT2 : g.thn[k] = T := (List.getElem?_eq_some_iff.1 hT.1).2
 refine ⟨h.pat, ?_, h.below, h.tys, by omega⟩
 rw [zgf _ _ _ _ hk, hbit, hT2]
 simp only [Bool.false_eq_true, if_false]
 rw [set_same hT.2]
 exact h.row
def zhc (w : World) (bp : Nat) (t a b c va vt : Value) (vs : List Value) (g : Gr) (A B n : Nat) (k : Nat) (v : Value) (wr : World) : Prop := ∃ i, k + i = n /\ v = .int .i64 i /\ LinkAt w bp t a b c va vt vs g A B i wr
theorem zhd (bp : Nat) (t a b c : Value) (g : Gr) (A B : Nat) (w : World) (h : GrAt w bp t a b c g) (hn : g.thn.length <= 64) (hA : A < 2 ^ 64) (hB : B < 2 ^ 64) (hs : ∀ x ∈ g.thn, x < 2 ^ 64) :
 Calls Tryz.prog 187 #[.pointer (some ⟨bp, 1, none⟩), .int .u64 (A : Int), .int .u64 (B : Int)] w fun e w' => e = .returned (.tuple #[]) /\ GrAt w' bp t a b c ⟨g.atoms, linkF g.thn A B⟩ /\ Below bp w w' /\ Tys w w' := by
 obtain ⟨va, vt, vs, hp, hr⟩ := h
 obtain ⟨ot, ct, hvt⟩ := own_shape hr.links
 obtain ⟨_, _, p2, _, _, _, _, f2, hlt⟩ := hp.reads
 obtain ⟨n, hn2⟩ : ∃ n, g.thn.length = n := ⟨_, rfl⟩
 have HST : zhc w bp t a b c va vt vs g A B n n (.int .i64 (0 : Nat)) w := ⟨0, rfl, rfl, hp, by rw [mixL_zero]; exact hr, Below.refl _ _, Tys.refl _, Nat.zero_le _⟩
 have HN := zh hn2
 have HVT := zh (show vt = .slice ot n ct by rw [hvt, hn2])
 have HA := zh hA
 have HB := zh hB
 have HS := zh hs
 rw [hvt, hn2] at p2
 rw [hn2] at hn
 clear hp hr hvt hn2 hA hB hs
 go_enter Tryz.func187, Tryz.ntmps187
 go_wp2_with fail
 go_loopg [12] n (fun k v wr => zhc w bp t a b c va vt vs g A B n k v wr)
 case atStart => exact HST
 case round =>
  clear HST p2 f2
  obtain ⟨k, hgk, rfl, H⟩ := hrel
  have HH := zh H
  obtain ⟨_, _, p2, _, _, _, _, f2, _⟩ := H.pat.reads
  rw [HVT.out] at p2
  clear H
  have HGK := zh hgk
  by_cases hkn : k < n
  ·have i1 : (k : Int) < n := by omega
   obtain ⟨g1, c1, hv1, hg1⟩ := own_some HH.out.row.links (by show 0 < (mixL g.thn A B k).length; rw [zee, HN.out]; omega)
   rw [HVT.out] at hv1
   injection hv1 with e1 e2 e3
   clear e2
   subst e1; subst e3
   obtain ⟨T, hT⟩ : ∃ T, g.thn[k]? = some T := ⟨_, List.getElem?_eq_getElem (by rw [HN.out]; exact hkn)⟩
   have hTm : (mixL g.thn A B k)[k]? = some T := by
    rw [mixL_at _ _ _ _ (by rw [HN.out]; exact hkn), <- hT, List.getElem?_eq_getElem (by rw [HN.out]; exact hkn)]
   have hT64 : T < 2 ^ 64 := HS.out T (List.mem_of_getElem? hT)
   have hrow := HH.out.row.links
   rw [HVT.out] at hrow
   have hln : (mixL g.thn A B k).length = n := by rw [zee, HN.out]
   replace hrow : wr.ownsRow (bp + 1) 223 1 (.slice (some ⟨g1, 0, none⟩) n ct) n (u64s (mixL g.thn A B k)) := by
    have h2 := hrow
    dsimp only at h2
    rw [hln] at h2
    exact h2
   have c0 : wr.cell? ⟨g1, k, none⟩ = some (.int .u64 (T : Int)) := by rw [hrow.cellAt k (by omega)]; exact u64s_at hTm
   have c1 := hrow.frozenAt k
   have hbit := bit_at (A := A) (k := k) HA.out
   have hor := zhE hT64 HB.out
   have hst := hrow.stored k (.int .u64 ((T ||| B : Nat) : Int))
   have HST2 := zh hst
   have HTK := zh (And.intro hT hTm)
   obtain ⟨O, hO⟩ : ∃ O, T ||| B = O := ⟨_, rfl⟩
   rw [hO] at hor HST2
   have HO := zh hO
   clear hgk hrow hst hT hTm hT64 hln hO
   cases hb : A.testBit k with
   | true =>
     rw [hb] at hbit
     have HBT := zh hb
     clear hb
     go_wp2_with fail
     go_roundg (gk - 1)
     case measure => have := HGK.out; omega
     case rel => exact ⟨k + 1, by have := HGK.out; omega, by go_num, link_next HH.out HVT.out HN.out HTK.out.1 HBT.out HO.out⟩
   | false =>
     rw [hb] at hbit
     have HBT := zh hb
     clear hb
     go_wp2_with fail
     go_roundg (gk - 1)
     case measure => have := HGK.out; omega
     case rel => exact ⟨k + 1, by have := HGK.out; omega, by go_num, link_skip HH.out HTK.out HBT.out⟩
  ·have i1 : (n : Int) <= k := by omega
   clear hgk
   go_wp2
   go_end0
   refine ⟨rfl, ⟨va, vt, vs, HH.out.pat, ?_⟩, HH.out.below, HH.out.tys⟩
   have := HH.out.row
   rwa [mixL_end _ _ _ _ (by rw [HN.out]; omega)] at this
end Go.Proofs.YtbcemjhaecelnaaGreatDoor.Pat
end
end
