import Derived.Test.YtddglepimbfdkaaGreatDoorNu
section
/- Queries are read: the whole. -/

namespace Go.Proofs.YtddglepimbfdkaaGreatDoor.Par
open Go.RowKit Go.Lib
open Go.Proofs.YtddglepimbfdkaaGreatDoor.Sto

/-- A block of ten cells. -/
def Box10 (w : World) (k : Nat) (x0 x1 x2 x3 x4 x5 x6 x7 x8 x9 : Value) : Prop := w.heap[k]? = some (.cells #[x0, x1, x2, x3, x4, x5, x6, x7, x8, x9] 29 (0, 0))
theorem Box10.reads {w : World} {k : Nat} {x0 x1 x2 x3 x4 x5 x6 x7 x8 x9 : Value} (h : Box10 w k x0 x1 x2 x3 x4 x5 x6 x7 x8 x9) : (w.cell? ⟨k, 0, none⟩ = some x0 ∧ w.cell? ⟨k, 1, none⟩ = some x1 ∧ w.cell? ⟨k, 2, none⟩ = some x2 ∧ w.cell? ⟨k, 3, none⟩ = some x3 ∧ w.cell? ⟨k, 4, none⟩ = some x4 ∧ w.cell? ⟨k, 5, none⟩ = some x5 ∧ w.cell? ⟨k, 6, none⟩ = some x6 ∧ w.cell? ⟨k, 7, none⟩ = some x7 ∧ w.cell? ⟨k, 8, none⟩ = some x8 ∧ w.cell? ⟨k, 9, none⟩ = some x9) ∧ (w.frozen? ⟨k, 0, none⟩ = false ∧ w.frozen? ⟨k, 1, none⟩ = false ∧ w.frozen? ⟨k, 2, none⟩ = false ∧ w.frozen? ⟨k, 3, none⟩ = false ∧ w.frozen? ⟨k, 4, none⟩ = false ∧ w.frozen? ⟨k, 5, none⟩ = false ∧ w.frozen? ⟨k, 6, none⟩ = false ∧ w.frozen? ⟨k, 7, none⟩ = false ∧ w.frozen? ⟨k, 8, none⟩ = false ∧ w.frozen? ⟨k, 9, none⟩ = false) := by
  unfold Box10 at h
  refine ⟨⟨?_, ?_, ?_, ?_, ?_, ?_, ?_, ?_, ?_, ?_⟩, ?_, ?_, ?_, ?_, ?_, ?_, ?_, ?_, ?_, ?_⟩ <;> simp [World.cell?, World.frozen?, h]
abbrev put10 (w : World) (k : Nat) (y0 y1 y2 y3 y4 y5 y6 y7 y8 y9 : Value) : World := ((((((((((w.setCell ⟨k, 0, none⟩ y0).setCell ⟨k, 1, none⟩ y1).setCell ⟨k, 2, none⟩ y2).setCell ⟨k, 3, none⟩ y3).setCell ⟨k, 4, none⟩ y4).setCell ⟨k, 5, none⟩ y5).setCell ⟨k, 6, none⟩ y6).setCell ⟨k, 7, none⟩ y7).setCell ⟨k, 8, none⟩ y8).setCell ⟨k, 9, none⟩ y9)
theorem put10_other (w : World) (k : Nat) (y0 y1 y2 y3 y4 y5 y6 y7 y8 y9 : Value) : ∀ j, j ≠ k → (put10 w k y0 y1 y2 y3 y4 y5 y6 y7 y8 y9).heap[j]? = w.heap[j]? := fun j hj => by
  unfold put10
  rw [Below.heap_setCell _ _ _ _ hj, Below.heap_setCell _ _ _ _ hj, Below.heap_setCell _ _ _ _ hj, Below.heap_setCell _ _ _ _ hj, Below.heap_setCell _ _ _ _ hj, Below.heap_setCell _ _ _ _ hj, Below.heap_setCell _ _ _ _ hj, Below.heap_setCell _ _ _ _ hj, Below.heap_setCell _ _ _ _ hj, Below.heap_setCell _ _ _ _ hj]
theorem put10_grown {w0 w : World} {r : Option Nat} (h : w0.grownBy w r) {k : Nat} (hk : w0.heap.size ≤ k) (y0 y1 y2 y3 y4 y5 y6 y7 y8 y9 : Value) : w0.grownBy (put10 w k y0 y1 y2 y3 y4 y5 y6 y7 y8 y9) r :=
  (grown_setNew (grown_setNew (grown_setNew (grown_setNew (grown_setNew (grown_setNew (grown_setNew (grown_setNew (grown_setNew (grown_setNew h hk 0 y0) hk 1 y1) hk 2 y2) hk 3 y3) hk 4 y4) hk 5 y5) hk 6 y6) hk 7 y7) hk 8 y8) hk 9 y9)
theorem put10_box {w : World} {k : Nat} {x0 x1 x2 x3 x4 x5 x6 x7 x8 x9 : Value} (h : Box10 w k x0 x1 x2 x3 x4 x5 x6 x7 x8 x9) (y0 y1 y2 y3 y4 y5 y6 y7 y8 y9 : Value) : Box10 (put10 w k y0 y1 y2 y3 y4 y5 y6 y7 y8 y9) k y0 y1 y2 y3 y4 y5 y6 y7 y8 y9 := by
  unfold Box10 at h
  have e0 : (w.setCell ⟨k, 0, none⟩ y0).heap[k]? = some (.cells #[y0, x1, x2, x3, x4, x5, x6, x7, x8, x9] 29 (0, 0)) := heap_setCell_same _ k 0 #[x0, x1, x2, x3, x4, x5, x6, x7, x8, x9] 29 y0 h
  have e1 : ((w.setCell ⟨k, 0, none⟩ y0).setCell ⟨k, 1, none⟩ y1).heap[k]? = some (.cells #[y0, y1, x2, x3, x4, x5, x6, x7, x8, x9] 29 (0, 0)) := heap_setCell_same _ k 1 #[y0, x1, x2, x3, x4, x5, x6, x7, x8, x9] 29 y1 e0
  have e2 : (((w.setCell ⟨k, 0, none⟩ y0).setCell ⟨k, 1, none⟩ y1).setCell ⟨k, 2, none⟩ y2).heap[k]? = some (.cells #[y0, y1, y2, x3, x4, x5, x6, x7, x8, x9] 29 (0, 0)) := heap_setCell_same _ k 2 #[y0, y1, x2, x3, x4, x5, x6, x7, x8, x9] 29 y2 e1
  have e3 : ((((w.setCell ⟨k, 0, none⟩ y0).setCell ⟨k, 1, none⟩ y1).setCell ⟨k, 2, none⟩ y2).setCell ⟨k, 3, none⟩ y3).heap[k]? = some (.cells #[y0, y1, y2, y3, x4, x5, x6, x7, x8, x9] 29 (0, 0)) := heap_setCell_same _ k 3 #[y0, y1, y2, x3, x4, x5, x6, x7, x8, x9] 29 y3 e2
  have e4 : (((((w.setCell ⟨k, 0, none⟩ y0).setCell ⟨k, 1, none⟩ y1).setCell ⟨k, 2, none⟩ y2).setCell ⟨k, 3, none⟩ y3).setCell ⟨k, 4, none⟩ y4).heap[k]? = some (.cells #[y0, y1, y2, y3, y4, x5, x6, x7, x8, x9] 29 (0, 0)) := heap_setCell_same _ k 4 #[y0, y1, y2, y3, x4, x5, x6, x7, x8, x9] 29 y4 e3
  have e5 : ((((((w.setCell ⟨k, 0, none⟩ y0).setCell ⟨k, 1, none⟩ y1).setCell ⟨k, 2, none⟩ y2).setCell ⟨k, 3, none⟩ y3).setCell ⟨k, 4, none⟩ y4).setCell ⟨k, 5, none⟩ y5).heap[k]? = some (.cells #[y0, y1, y2, y3, y4, y5, x6, x7, x8, x9] 29 (0, 0)) := heap_setCell_same _ k 5 #[y0, y1, y2, y3, y4, x5, x6, x7, x8, x9] 29 y5 e4
  have e6 : (((((((w.setCell ⟨k, 0, none⟩ y0).setCell ⟨k, 1, none⟩ y1).setCell ⟨k, 2, none⟩ y2).setCell ⟨k, 3, none⟩ y3).setCell ⟨k, 4, none⟩ y4).setCell ⟨k, 5, none⟩ y5).setCell ⟨k, 6, none⟩ y6).heap[k]? = some (.cells #[y0, y1, y2, y3, y4, y5, y6, x7, x8, x9] 29 (0, 0)) := heap_setCell_same _ k 6 #[y0, y1, y2, y3, y4, y5, x6, x7, x8, x9] 29 y6 e5
  have e7 : ((((((((w.setCell ⟨k, 0, none⟩ y0).setCell ⟨k, 1, none⟩ y1).setCell ⟨k, 2, none⟩ y2).setCell ⟨k, 3, none⟩ y3).setCell ⟨k, 4, none⟩ y4).setCell ⟨k, 5, none⟩ y5).setCell ⟨k, 6, none⟩ y6).setCell ⟨k, 7, none⟩ y7).heap[k]? = some (.cells #[y0, y1, y2, y3, y4, y5, y6, y7, x8, x9] 29 (0, 0)) := heap_setCell_same _ k 7 #[y0, y1, y2, y3, y4, y5, y6, x7, x8, x9] 29 y7 e6
  have e8 : (((((((((w.setCell ⟨k, 0, none⟩ y0).setCell ⟨k, 1, none⟩ y1).setCell ⟨k, 2, none⟩ y2).setCell ⟨k, 3, none⟩ y3).setCell ⟨k, 4, none⟩ y4).setCell ⟨k, 5, none⟩ y5).setCell ⟨k, 6, none⟩ y6).setCell ⟨k, 7, none⟩ y7).setCell ⟨k, 8, none⟩ y8).heap[k]? = some (.cells #[y0, y1, y2, y3, y4, y5, y6, y7, y8, x9] 29 (0, 0)) := heap_setCell_same _ k 8 #[y0, y1, y2, y3, y4, y5, y6, y7, x8, x9] 29 y8 e7
  have e9 : ((((((((((w.setCell ⟨k, 0, none⟩ y0).setCell ⟨k, 1, none⟩ y1).setCell ⟨k, 2, none⟩ y2).setCell ⟨k, 3, none⟩ y3).setCell ⟨k, 4, none⟩ y4).setCell ⟨k, 5, none⟩ y5).setCell ⟨k, 6, none⟩ y6).setCell ⟨k, 7, none⟩ y7).setCell ⟨k, 8, none⟩ y8).setCell ⟨k, 9, none⟩ y9).heap[k]? = some (.cells #[y0, y1, y2, y3, y4, y5, y6, y7, y8, y9] 29 (0, 0)) := heap_setCell_same _ k 9 #[y0, y1, y2, y3, y4, y5, y6, y7, y8, x9] 29 y9 e8
  exact e9
theorem put10_rd {w : World} {bd k : Nat} {l : List Tq} (h : Rd w bd l) (hk : bd < k) (y0 y1 y2 y3 y4 y5 y6 y7 y8 y9 : Value) : Rd (put10 w k y0 y1 y2 y3 y4 y5 y6 y7 y8 y9) bd l :=
  h.keep fun j hj => put10_other w k y0 y1 y2 y3 y4 y5 y6 y7 y8 y9 j (by omega)
theorem put10_nod {w : World} {k : Nat} {P Q : Nat → Prop} {cs : List Value} {x : Ex} (h : Nod w P cs x) (hP : ∀ b, P b → b ≠ k ∧ Q b) (y0 y1 y2 y3 y4 y5 y6 y7 y8 y9 : Value) : Nod (put10 w k y0 y1 y2 y3 y4 y5 y6 y7 y8 y9) Q cs x :=
  h.keep fun j hj _ => ⟨put10_other w k y0 y1 y2 y3 y4 y5 y6 y7 y8 y9 j (hP j hj).1, (hP j hj).2⟩
theorem box10_new (w : World) (x0 x1 x2 x3 x4 x5 x6 x7 x8 x9 : Value) : Box10 (w.alloc (Obj.cells #[x0, x1, x2, x3, x4, x5, x6, x7, x8, x9] 29)) w.heap.size x0 x1 x2 x3 x4 x5 x6 x7 x8 x9 := Array.getElem?_push_size

theorem TailEnd.shape2 {w w' : World} {bd : Nat} {r : Option (Int × List Tq)} {e : Ending} (h : TailEnd w bd r e w') : (∃ n ok, e = .returned (.tuple #[.int .i64 n, .bool ok]) ∧ (r.isSome = ok ∧ ∀ p, r = some p → n = p.1)) ∧ (∃ l', Rd w' bd l' ∧ ∀ p, r = some p → l' = p.2) ∧ w.grownBy w' (some bd) := by
  obtain ⟨⟨n, h1, h2⟩, h3⟩ := h.shape
  exact ⟨⟨n, _, h1, rfl, h2⟩, h3⟩
/-- How a query's reading ends. -/
def QEnd (w : World) (bd : Nat) (r : Option (Qr × List Tq)) (e : Ending) (w' : World) : Prop := match r with
  | none => (∃ cs x y z, e = .returned (.tuple #[.agg (cs ++ [.int .i64 x, .int .i64 y, .int .i64 z]).toArray, .bool false]) ∧ Raw cs) ∧ w.grownBy w' (some bd)
  | some (q, k) => (∃ cs, e = .returned (.tuple #[.agg (cs ++ [.int .i64 (q.order : Nat), .int .i64 q.limit, .int .i64 q.offset]).toArray, .bool true]) ∧ Nod w' (fun b => w.heap.size ≤ b) cs q.root) ∧ Rd w' bd k ∧ w.grownBy w' (some bd)

set_option maxHeartbeats 8000000 in
set_option maxRecDepth 100000 in
theorem query_any (n : Nat) (l : List Tq) (hl : 9 * l.length + 8 ≤ n + 1) (w : World) (bd : Nat) (h : Rd w bd l) :
    Calls Tryz.prog 33 #[.pointer (some ⟨bd, 0, none⟩)] w (QEnd w bd (match chainGo n 1 l with | none => none | some (x, m) => tailsP x m)) := by
  have hfar := h.lt
  have HB := Lib.hid (box10_new w (.string ⟨#[]⟩) (.string ⟨#[]⟩) (.int .i64 0) (.int .i64 0) (.slice none 0 0) (.slice none 0 0) (.slice none 0 0) (.int .i64 0) (.int .i64 0) (.int .i64 0))
  have HG := Lib.hid (grown_alloc (grown_refl w (some bd)) (Obj.cells #[.string ⟨#[]⟩, .string ⟨#[]⟩, .int .i64 0, .int .i64 0, .slice none 0 0, .slice none 0 0, .slice none 0 0, .int .i64 0, .int .i64 0, .int .i64 0] 29))
  have HE := Lib.hid (expr_any n l hl _ bd (h.alloc (Obj.cells #[.string ⟨#[]⟩, .string ⟨#[]⟩, .int .i64 0, .int .i64 0, .slice none 0 0, .slice none 0 0, .slice none 0 0, .int .i64 0, .int .i64 0, .int .i64 0] 29)))
  cases hr : chainGo n 1 l with
  | none =>
    rw [hr] at HE
    dsimp only
    clear h hl hr
    go_enter Tryz.func33, Tryz.ntmps33
    go_wp2_with fail
    refine HE.out.mono ?_
    intro e w1 hres
    have HB1 := Lib.hid (show Box10 w1 w.heap.size (.string ⟨#[]⟩) (.string ⟨#[]⟩) (.int .i64 0) (.int .i64 0) (.slice none 0 0) (.slice none 0 0) (.slice none 0 0) (.int .i64 0) (.int .i64 0) (.int .i64 0) from block_past HB.out hres.wide (by omega))
    have HG1 := Lib.hid (grown_trans HG.out hres.wide)
    have hsz1 : w.heap.size < w1.heap.size := Nat.lt_of_lt_of_le (by simp) hres.wide.size
    obtain ⟨a, b, z, m, o1, k1, c1, o2, k2, c2, o3, k3, c3, rfl⟩ := hres.shape
    clear hres
    obtain ⟨⟨q0, q1, q2, q3, q4, q5, q6, q7, q8, q9⟩, f0, f1, f2, f3, f4, f5, f6, f7, f8, f9⟩ := HB1.out.reads
    go_wp2
    refine bodyPost_ret (v := .tuple #[.agg #[.string ⟨#[]⟩, .string ⟨#[]⟩, .int .i64 0, .int .i64 0, .slice none 0 0, .slice none 0 0, .slice none 0 0, .int .i64 0, .int .i64 0, .int .i64 0], .bool false]) (by simp [results, Tryz.results33, go_sem, q0, q1, q2, q3, q4, q5, q6, q7, q8, q9, hsz1]) rfl ?_
    exact ⟨⟨[.string ⟨#[]⟩, .string ⟨#[]⟩, .int .i64 0, .int .i64 0, .slice none 0 0, .slice none 0 0, .slice none 0 0], 0, 0, 0, rfl, raw_zero⟩, grown_alloc (put10_grown HG1.out (Nat.le_refl _) _ _ _ _ _ _ _ _ _ _) _⟩
  | some p =>
    obtain ⟨x, mm⟩ := p
    rw [hr] at HE
    dsimp only
    obtain ⟨T, hT⟩ : ∃ T, tailsP x mm = T := ⟨_, rfl⟩
    rw [hT]
    unfold tailsP at hT
    have HT := Lib.hid hT
    clear h hl hr hT
    go_enter Tryz.func33, Tryz.ntmps33
    go_wp2_with fail
    refine HE.out.mono ?_
    intro e w1 hres
    have HRES := Lib.hid hres
    have HB1 := Lib.hid (show Box10 w1 w.heap.size (.string ⟨#[]⟩) (.string ⟨#[]⟩) (.int .i64 0) (.int .i64 0) (.slice none 0 0) (.slice none 0 0) (.slice none 0 0) (.int .i64 0) (.int .i64 0) (.int .i64 0) from block_past HB.out hres.wide (by omega))
    have HG1 := Lib.hid (grown_trans HG.out hres.wide)
    have hsz1 : w.heap.size < w1.heap.size := Nat.lt_of_lt_of_le (by simp) hres.wide.size
    obtain ⟨a, b, z, m, o1, k1, c1, o2, k2, c2, o3, k3, c3, rfl⟩ := hres.shape
    clear hres
    have HX2 := Lib.hid (box_new w1 (.string a) (.string b) (.int .i64 z) (.int .i64 m) (.slice o1 k1 c1) (.slice o2 k2 c2) (.slice o3 k3 c3))
    have HB2 := Lib.hid ((Below.heap_alloc _ (Obj.cells #[.string a, .string b, .int .i64 z, .int .i64 m, .slice o1 k1 c1, .slice o2 k2 c2, .slice o3 k3 c3] 27) _ hsz1).trans HB1.out)
    have HG2 := Lib.hid (grown_alloc HG1.out (Obj.cells #[.string a, .string b, .int .i64 z, .int .i64 m, .slice o1 k1 c1, .slice o2 k2 c2, .slice o3 k3 c3] 27))
    have HO := Lib.hid (order_any bd mm _ (HRES.out.part.2.1.alloc (Obj.cells #[.string a, .string b, .int .i64 z, .int .i64 m, .slice o1 k1 c1, .slice o2 k2 c2, .slice o3 k3 c3] 27)))
    have HN2 := Lib.hid (show Nod (w1.alloc (Obj.cells #[.string a, .string b, .int .i64 z, .int .i64 m, .slice o1 k1 c1, .slice o2 k2 c2, .slice o3 k3 c3] 27)) (fun b => w.heap.size < b) [.string a, .string b, .int .i64 z, .int .i64 m, .slice o1 k1 c1, .slice o2 k2 c2, .slice o3 k3 c3] x from HRES.out.part.1.keep fun b hb hl => ⟨Below.heap_alloc _ _ _ hl, by simp at hb; omega⟩)
    go_wp2_with fail
    refine HO.out.mono ?_
    intro e w2 hres
    obtain ⟨⟨n1, ok1, rfl, hn1⟩, ⟨l1, hr2, hl1⟩, hg2⟩ := hres.shape2
    have HX3 := Lib.hid (block_past HX2.out hg2 (by omega))
    have HB3 := Lib.hid (block_past HB2.out hg2 (by omega))
    have HG3 := Lib.hid (grown_trans HG2.out hg2)
    have HN3 := Lib.hid (HN2.out.grown hg2 (fun b hb => by omega))
    have HL1 := Lib.hid (And.intro hn1 hl1)
    have HR1 := Lib.hid (rows_any bd l1 ⟨#[108, 105, 109, 105, 116]⟩ w2 hr2)
    clear hres hr2 hg2 hn1 hl1
    go_wp2_with fail
    refine HR1.out.mono ?_
    intro e w3 hres
    obtain ⟨⟨n2, ok2, rfl, hn2⟩, ⟨l2, hr3, hl2⟩, hg3⟩ := hres.shape2
    have HX4 := Lib.hid (block_past HX3.out hg3 (by omega))
    have HB4 := Lib.hid (block_past HB3.out hg3 (by omega))
    have HG4 := Lib.hid (grown_trans HG3.out hg3)
    have HN4 := Lib.hid (HN3.out.grown hg3 (fun b hb => by omega))
    have HL2 := Lib.hid (And.intro hn2 hl2)
    have HR2 := Lib.hid (rows_any bd l2 ⟨#[111, 102, 102, 115, 101, 116]⟩ w3 hr3)
    clear hres hr3 hg3 hn2 hl2
    go_wp2_with fail
    refine HR2.out.mono ?_
    intro e w4 hres
    obtain ⟨⟨n3, ok3, rfl, hn3⟩, ⟨l3, hr4, hl3⟩, hg4⟩ := hres.shape2
    have HX5 := Lib.hid (show Box7 w4 w1.heap.size (.string a) (.string b) (.int .i64 z) (.int .i64 m) (.slice o1 k1 c1) (.slice o2 k2 c2) (.slice o3 k3 c3) from block_past HX4.out hg4 (by omega))
    have HB5 := Lib.hid (show Box10 w4 w.heap.size (.string ⟨#[]⟩) (.string ⟨#[]⟩) (.int .i64 0) (.int .i64 0) (.slice none 0 0) (.slice none 0 0) (.slice none 0 0) (.int .i64 0) (.int .i64 0) (.int .i64 0) from block_past HB4.out hg4 (by omega))
    have HG5 := Lib.hid (grown_trans HG4.out hg4)
    have HN5 := Lib.hid (HN4.out.grown hg4 (fun b hb => by omega))
    have HL3 := Lib.hid (And.intro hn3 hl3)
    have HR5 := Lib.hid hr4
    have hsz4 : w.heap.size < w4.heap.size := (Array.getElem?_eq_some_iff.1 HB5.out).1
    clear hres hr4 hg4 hn3 hl3
    obtain ⟨⟨q0, q1, q2, q3, q4, q5, q6, q7, q8, q9⟩, f0, f1, f2, f3, f4, f5, f6, f7, f8, f9⟩ := HB5.out.reads
    obtain ⟨⟨p0, p1, p2, p3, p4, p5, p6⟩, g0, g1, g2, g3, g4, g5, g6⟩ := HX5.out.reads
    have HEND := Lib.hid (show QEnd w bd T (.returned (.tuple #[.agg #[.string a, .string b, .int .i64 z, .int .i64 m, .slice o1 k1 c1, .slice o2 k2 c2, .slice o3 k3 c3, .int .i64 n1, .int .i64 n2, .int .i64 n3], .bool ((ok1 && ok2) && ok3)])) ((put10 w4 w.heap.size (.string a) (.string b) (.int .i64 z) (.int .i64 m) (.slice o1 k1 c1) (.slice o2 k2 c2) (.slice o3 k3 c3) (.int .i64 n1) (.int .i64 n2) (.int .i64 n3)).alloc (Obj.cells #[.string a, .string b, .int .i64 z, .int .i64 m, .slice o1 k1 c1, .slice o2 k2 c2, .slice o3 k3 c3, .int .i64 n1, .int .i64 n2, .int .i64 n3] 29)) by
      have hg := grown_alloc (put10_grown HG5.out (Nat.le_refl _) (.string a) (.string b) (.int .i64 z) (.int .i64 m) (.slice o1 k1 c1) (.slice o2 k2 c2) (.slice o3 k3 c3) (.int .i64 n1) (.int .i64 n2) (.int .i64 n3)) (Obj.cells #[.string a, .string b, .int .i64 z, .int .i64 m, .slice o1 k1 c1, .slice o2 k2 c2, .slice o3 k3 c3, .int .i64 n1, .int .i64 n2, .int .i64 n3] 29)
      have hT := HT.out
      cases ho : orderP mm with
      | none =>
        rw [ho] at hT
        obtain rfl : ok1 = false := HL1.out.1.1.symm.trans (by rw [ho]; rfl)
        rw [← (show none = T from hT)]
        exact ⟨⟨[.string a, .string b, .int .i64 z, .int .i64 m, .slice o1 k1 c1, .slice o2 k2 c2, .slice o3 k3 c3], n1, n2, n3, rfl, raw7 _ _ _ _ _ _ _ _ _ _ _ _ _⟩, hg⟩
      | some po =>
        obtain ⟨o, l1'⟩ := po
        obtain rfl : ok1 = true := HL1.out.1.1.symm.trans (by rw [ho]; rfl)
        have e1 := HL1.out.1.2 ((o : Int), l1') (by rw [ho]; rfl)
        have e2 := HL1.out.2 ((o : Int), l1') (by rw [ho]; rfl)
        dsimp only at e1 e2
        subst e1; subst e2
        rw [ho] at hT
        dsimp only at hT
        cases hl : rowsP wLimit l1 with
        | none =>
          rw [hl] at hT
          obtain rfl : ok2 = false := HL2.out.1.1.symm.trans (by show (rowsP wLimit l1).isSome = false; rw [hl]; rfl)
          rw [← (show none = T from hT)]
          exact ⟨⟨[.string a, .string b, .int .i64 z, .int .i64 m, .slice o1 k1 c1, .slice o2 k2 c2, .slice o3 k3 c3], (o : Int), n2, n3, rfl, raw7 _ _ _ _ _ _ _ _ _ _ _ _ _⟩, hg⟩
        | some pl =>
          obtain ⟨la, l2'⟩ := pl
          obtain rfl : ok2 = true := HL2.out.1.1.symm.trans (by show (rowsP wLimit l1).isSome = true; rw [hl]; rfl)
          have e1 := HL2.out.1.2 (la, l2') hl
          have e2 := HL2.out.2 (la, l2') hl
          dsimp only at e1 e2
          subst e1; subst e2
          rw [hl] at hT
          dsimp only at hT
          cases hf : rowsP wOffset l2 with
          | none =>
            rw [hf] at hT
            obtain rfl : ok3 = false := HL3.out.1.1.symm.trans (by show (rowsP wOffset l2).isSome = false; rw [hf]; rfl)
            rw [← (show none = T from hT)]
            exact ⟨⟨[.string a, .string b, .int .i64 z, .int .i64 m, .slice o1 k1 c1, .slice o2 k2 c2, .slice o3 k3 c3], (o : Int), n2, n3, rfl, raw7 _ _ _ _ _ _ _ _ _ _ _ _ _⟩, hg⟩
          | some pf =>
            obtain ⟨lb, l3'⟩ := pf
            obtain rfl : ok3 = true := HL3.out.1.1.symm.trans (by show (rowsP wOffset l2).isSome = true; rw [hf]; rfl)
            have e1 := HL3.out.1.2 (lb, l3') hf
            have e2 := HL3.out.2 (lb, l3') hf
            dsimp only at e1 e2
            subst e1; subst e2
            rw [hf] at hT
            rw [← (show some (⟨x, o, n2, n3⟩, l3) = T from hT)]
            have hn := put10_nod (k := w.heap.size) (Q := fun b => w.heap.size ≤ b) HN5.out (fun b hb => ⟨by omega, by omega⟩) (.string a) (.string b) (.int .i64 z) (.int .i64 m) (.slice o1 k1 c1) (.slice o2 k2 c2) (.slice o3 k3 c3) (.int .i64 (o : Int)) (.int .i64 n2) (.int .i64 n3)
            have hrd := put10_rd HR5.out hfar (.string a) (.string b) (.int .i64 z) (.int .i64 m) (.slice o1 k1 c1) (.slice o2 k2 c2) (.slice o3 k3 c3) (.int .i64 (o : Int)) (.int .i64 n2) (.int .i64 n3)
            exact ⟨⟨[.string a, .string b, .int .i64 z, .int .i64 m, .slice o1 k1 c1, .slice o2 k2 c2, .slice o3 k3 c3], rfl, hn.under ((Below.refl _ _).alloc (Nat.le_refl _) _)⟩, hrd.alloc _, hg⟩)
    cases ok1 <;> cases ok2 <;> cases ok3
    all_goals
      go_wp2
      refine bodyPost_ret (v := .tuple #[.agg #[.string a, .string b, .int .i64 z, .int .i64 m, .slice o1 k1 c1, .slice o2 k2 c2, .slice o3 k3 c3, .int .i64 n1, .int .i64 n2, .int .i64 n3], .bool _]) (by simp [results, Tryz.results33, go_sem, q0, q1, q2, q3, q4, q5, q6, q7, q8, q9, hsz4]; rfl) rfl ?_
      exact HEND.out
end Go.Proofs.YtddglepimbfdkaaGreatDoor.Par
end

section
/- Queries are read: out of a text. -/

namespace Go.Proofs.YtddglepimbfdkaaGreatDoor.Par
open Go.RowKit Go.Lib
open Go.Proofs.YtddglepimbfdkaaGreatDoor.Sto

/-! ### no more nodes than words -/
theorem go_count : ∀ (n : Nat),
    (∀ t l x m, chainGo n t l = some (x, m) → countE x + m.length ≤ l.length) ∧
    (∀ t y l x m, restGo n t y l = some (x, m) → countE x + m.length ≤ countE y + l.length) ∧
    (∀ t y l x m, binGo n t y l = some (x, m) → countE x + m.length ≤ countE y + l.length) ∧
    (∀ l x m, unaryGo n l = some (x, m) → countE x + m.length ≤ l.length) ∧
    (∀ l x m, primGo n l = some (x, m) → countE x + m.length ≤ l.length) ∧
    (∀ l x m, closedGo n l = some (x, m) → countE x + m.length ≤ l.length) ∧
    (∀ s l x m, aggGo n s l = some (x, m) → countE x + m.length ≤ l.length) ∧
    (∀ s l x m, fnGo n s l = some (x, m) → countE x + m.length ≤ l.length)
  | 0 => ⟨fun _ _ _ _ h => by simp [chainGo] at h, fun _ _ _ _ _ h => by simp [restGo] at h, fun _ _ _ _ _ h => by simp [binGo] at h, fun _ _ _ h => by simp [unaryGo] at h, fun _ _ _ h => by simp [primGo] at h, fun _ _ _ h => by simp [closedGo] at h, fun _ _ _ _ h => by simp [aggGo] at h, fun _ _ _ _ h => by simp [fnGo] at h⟩
  | n + 1 => by
    obtain ⟨i1, i2, i3, i4, i5, i6, i7, i8⟩ := go_count n
    refine ⟨?_, ?_, ?_, ?_, ?_, ?_, ?_, ?_⟩
    · intro t l x m h
      rw [chainGo] at h
      split at h
      · exact i4 _ _ _ h
      · split at h
        · cases h
        · rename_i y k hk
          have := i1 _ _ _ _ hk
          have := i2 _ _ _ _ _ h
          omega
    · intro t y l x m h
      rw [restGo] at h
      split at h
      · split at h
        · cases h
        · rename_i z k hk
          have := i3 _ _ _ _ _ hk
          have := i2 _ _ _ _ _ h
          omega
      · injection h with h; injection h with h1 h; subst h; subst h1; exact Nat.le_refl _
    · intro t y l x m h
      cases l with
      | nil => simp [binGo] at h
      | cons s l =>
        rw [binGo] at h
        split at h
        · cases h
        · rename_i mode names k hk
          have := modeP_le hk
          split at h
          · cases h
          · rename_i z j hj
            have := i1 _ _ _ _ hj
            injection h with h; injection h with h1 h; subst h; subst h1
            simp [countE]; omega
    · intro l x m h
      rw [unaryGo] at h
      split at h
      · rename_i hc
        have := isT_tail hc
        split at h
        · cases h
        · rename_i y k hk
          have := i4 _ _ _ hk
          injection h with h; injection h with h1 h; subst h; subst h1
          simp [countE]; omega
      · exact i5 _ _ _ h
    · intro l x m h
      cases l with
      | nil => simp [primGo] at h
      | cons s l =>
        have hsel : ∀ t b l x m, selP t b l = some (x, m) → countE x = 1 := by
          intro t b l x m h
          unfold selP at h
          split at h
          · cases h
          · split at h
            · rename_i ms k _ _
              cases hx : windowP k with
              | none => rw [hx] at h; cases h
              | some q =>
                rw [hx] at h
                injection h with h; injection h with h1 h; subst h1; rfl
            · cases h
        rw [primGo] at h
        split at h
        · have := i6 _ _ _ h
          simp; omega
        · split at h
          · injection h with h; injection h with h1 h; subst h; subst h1; simp [countE]; omega
          · split at h
            · split at h
              · have := i7 _ _ _ _ h; simp; omega
              · split at h
                · have := i8 _ _ _ _ h; simp; omega
                · split at h
                  · cases h
                  · have := (selP_le h).1; have := hsel _ _ _ _ _ h; simp; omega
            · have := (selP_le h).2 rfl; have := hsel _ _ _ _ _ h; omega
    · intro l x m h
      rw [closedGo] at h
      split at h
      · cases h
      · rename_i y k hk
        have := i1 _ _ _ _ hk
        split at h
        · injection h with h; injection h with h1 h; subst h; subst h1
          simp; omega
        · cases h
    · intro s l x m h
      rw [aggGo] at h
      split at h
      · cases h
      · rename_i mode names k hk
        have := modeP_le hk
        split at h
        · rename_i hc
          have := isT_tail hc
          split at h
          · cases h
          · rename_i j k2 hk2
            have := aggNP_le hk2
            split at h
            · cases h
            · rename_i z k3 hk3
              have := i6 _ _ _ hk3
              injection h with h; injection h with h1 h; subst h; subst h1
              simp [countE]; omega
        · cases h
    · intro s l x m h
      rw [fnGo] at h
      split at h
      · rename_i hc
        have := isT_tail hc
        split at h
        · cases h
        · rename_i z k3 hk3
          have := i6 _ _ _ hk3
          injection h with h; injection h with h1 h; subst h; subst h1
          simp [countE]; omega
      · cases h
theorem tails_root {x : Ex} {m : List Tq} {q : Qr} {k : List Tq} (h : tailsP x m = some (q, k)) : q.root = x := by
  unfold tailsP at h
  split at h
  · cases h
  · split at h
    · cases h
    · split at h
      · cases h
      · injection h with h; injection h with h1 _; subst h1; rfl

/-! ### the tokens of a text -/
theorem tok_row {w : World} {B g n c : Nat} {ws : List Wd} (h : w.ownsRow B 124 3 (.slice (some ⟨g, 0, none⟩) n c) ws.length (flatT ws)) : ws.length ≤ c ∧ n = ws.length ∧ TokAt w g 0 (ws.map tq) := by
  rcases h.2 with ⟨e, _⟩ | ⟨g', cap, cur, e, hB, hg, hle, _⟩
  · cases e
  · injection e with e1 e2 e3
    injection e1 with e1
    injection e1 with e1 _ _
    subst e1; subst e3
    refine ⟨hle, e2, (Array.getElem?_eq_some_iff.1 hg).1, fun j x hx => ?_, fun j x hx => ?_⟩
    · rw [List.getElem?_map] at hx
      cases hy : ws[j]? with
      | none => rw [hy] at hx; cases hx
      | some y =>
        rw [hy] at hx
        obtain rfl := Option.some.inj hx
        have := h.cells (g := g) rfl (j * 3 + 0) _ (flat_at encT 3 (fun _ => rfl) ws j y hy 0 _ rfl)
        simpa [tq, Addr.add_lit] using this
    · rw [List.getElem?_map] at hx
      cases hy : ws[j]? with
      | none => rw [hy] at hx; cases hx
      | some y =>
        rw [hy] at hx
        obtain rfl := Option.some.inj hx
        have := h.cells (g := g) rfl (j * 3 + 2) _ (flat_at encT 3 (fun _ => rfl) ws j y hy 2 _ rfl)
        simpa [tq, Addr.add_lit] using this
/-- A reader that begins. -/
theorem rd_start {w : World} {B : Nat} {v : Value} {ws : List Wd} (h : w.ownsRow B 124 3 v ws.length (flatT ws)) (hl : ws.length ≤ 1000000) (hok : ∀ x ∈ ws, TokOk (tq x)) : ∃ o c, v = .slice o ws.length c ∧ Rd (w.alloc (Obj.cells #[.slice o ws.length c] 66)) w.heap.size (ws.map tq) := by
  rcases h.2 with ⟨rfl, h0⟩ | ⟨g, cap, cur, rfl, hB, hg, hle, _⟩
  · obtain rfl := List.eq_nil_of_length_eq_zero h0
    exact ⟨none, 0, rfl, none, 0, Array.getElem?_push_size, Nat.le_refl _, ⟨Nat.zero_le _, fun s hs => by simp at hs⟩, .inl rfl⟩
  · obtain ⟨h1, _, h3⟩ := tok_row h
    have hgl := (Array.getElem?_eq_some_iff.1 hg).1
    refine ⟨_, cap, rfl, some ⟨g, 0, none⟩, cap, by rw [List.length_map]; exact Array.getElem?_push_size, by rw [List.length_map]; exact hle, ⟨by rw [List.length_map]; exact hl, toks_ok hok⟩, .inr ⟨g, 0, rfl, hgl, h3.keep (Below.heap_alloc _ _ _ hgl)⟩⟩

/-- What a text's reading comes to. -/
def ReadEnd (w : World) (s : ByteArray) (e : Ending) (w' : World) : Prop :=
  if 600 < s.size then e = .returned (.tuple #[.agg #[.string ⟨#[]⟩, .string ⟨#[]⟩, .int .i64 0, .int .i64 0, .slice none 0 0, .slice none 0 0, .slice none 0 0, .int .i64 0, .int .i64 0, .int .i64 0], .int .i64 1])
  else match readL s.data.toList with
    | none => e = .returned (.tuple #[.agg #[.string ⟨#[]⟩, .string ⟨#[]⟩, .int .i64 0, .int .i64 0, .slice none 0 0, .slice none 0 0, .slice none 0 0, .int .i64 0, .int .i64 0, .int .i64 0], .int .i64 2])
    | some q => ∃ cs, e = .returned (.tuple #[.agg (cs ++ [.int .i64 (q.order : Nat), .int .i64 q.limit, .int .i64 q.offset]).toArray, .int .i64 0]) ∧ Nod w' (fun b => w.heap.size ≤ b) cs q.root
theorem below_of_grown {w w' : World} {bd : Nat} (h : w.grownBy w' (some bd)) (hb : w.heap.size ≤ bd) : Below w.heap.size w w' :=
  ⟨h.os, h.tape, h.output, h.size, fun k hk => h.block k hk (by simp; omega)⟩

theorem read_long {w : World} {s : ByteArray} {e : Ending} {w' : World} (h : 600 < s.size) (he : e = .returned (.tuple #[.agg #[.string ⟨#[]⟩, .string ⟨#[]⟩, .int .i64 0, .int .i64 0, .slice none 0 0, .slice none 0 0, .slice none 0 0, .int .i64 0, .int .i64 0, .int .i64 0], .int .i64 1])) : ReadEnd w s e w' := by
  unfold ReadEnd; rw [if_pos h]; exact he
theorem read_none {w : World} {s : ByteArray} {e : Ending} {w' : World} (h : ¬ 600 < s.size) (hr : readL s.data.toList = none) (he : e = .returned (.tuple #[.agg #[.string ⟨#[]⟩, .string ⟨#[]⟩, .int .i64 0, .int .i64 0, .slice none 0 0, .slice none 0 0, .slice none 0 0, .int .i64 0, .int .i64 0, .int .i64 0], .int .i64 2])) : ReadEnd w s e w' := by
  unfold ReadEnd; rw [if_neg h, hr]; exact he
theorem read_some {w : World} {s : ByteArray} {e : Ending} {w' : World} {q : Qr} (h : ¬ 600 < s.size) (hr : readL s.data.toList = some q) (he : ∃ cs, e = .returned (.tuple #[.agg (cs ++ [.int .i64 (q.order : Nat), .int .i64 q.limit, .int .i64 q.offset]).toArray, .int .i64 0]) ∧ Nod w' (fun b => w.heap.size ≤ b) cs q.root) : ReadEnd w s e w' := by
  unfold ReadEnd; rw [if_neg h, hr]; exact he

set_option maxHeartbeats 8000000 in
set_option maxRecDepth 100000 in
theorem read_err (s : ByteArray) (k : Int) (hk : k ≠ 0) (w : World) (hW : Calls Tryz.prog 32 #[.string s] (w.alloc (Obj.cells #[.string ⟨#[]⟩, .string ⟨#[]⟩, .int .i64 0, .int .i64 0, .slice none 0 0, .slice none 0 0, .slice none 0 0, .int .i64 0, .int .i64 0, .int .i64 0] 29)) fun e w' => e = .returned (.tuple #[.slice none 0 0, .int .i64 k]) ∧ Below (w.alloc (Obj.cells #[.string ⟨#[]⟩, .string ⟨#[]⟩, .int .i64 0, .int .i64 0, .slice none 0 0, .slice none 0 0, .slice none 0 0, .int .i64 0, .int .i64 0, .int .i64 0] 29)).heap.size (w.alloc (Obj.cells #[.string ⟨#[]⟩, .string ⟨#[]⟩, .int .i64 0, .int .i64 0, .slice none 0 0, .slice none 0 0, .slice none 0 0, .int .i64 0, .int .i64 0, .int .i64 0] 29)) w') :
    Calls Tryz.prog 10 #[.string s] w fun e w' => e = .returned (.tuple #[.agg #[.string ⟨#[]⟩, .string ⟨#[]⟩, .int .i64 0, .int .i64 0, .slice none 0 0, .slice none 0 0, .slice none 0 0, .int .i64 0, .int .i64 0, .int .i64 0], .int .i64 k]) ∧ Below w.heap.size w w' := by
  have HB := Lib.hid (box10_new w (.string ⟨#[]⟩) (.string ⟨#[]⟩) (.int .i64 0) (.int .i64 0) (.slice none 0 0) (.slice none 0 0) (.slice none 0 0) (.int .i64 0) (.int .i64 0) (.int .i64 0))
  have HG := Lib.hid ((Below.refl w.heap.size w).alloc (Nat.le_refl _) (Obj.cells #[.string ⟨#[]⟩, .string ⟨#[]⟩, .int .i64 0, .int .i64 0, .slice none 0 0, .slice none 0 0, .slice none 0 0, .int .i64 0, .int .i64 0, .int .i64 0] 29))
  have HW := Lib.hid hW
  have hkk : (k != 0) = true := by simp [hk]
  clear hW
  go_enter Tryz.func10, Tryz.ntmps10
  go_wp2_with fail
  refine HW.out.mono ?_
  rintro e w1 ⟨rfl, b1⟩
  have HB1 := Lib.hid (show Box10 w1 w.heap.size (.string ⟨#[]⟩) (.string ⟨#[]⟩) (.int .i64 0) (.int .i64 0) (.slice none 0 0) (.slice none 0 0) (.slice none 0 0) (.int .i64 0) (.int .i64 0) (.int .i64 0) from (b1.block _ (by simp)).trans HB.out)
  have HG1 := Lib.hid (HG.out.trans (b1.mono (by simp)))
  clear b1
  obtain ⟨⟨q0, q1, q2, q3, q4, q5, q6, q7, q8, q9⟩, f0, f1, f2, f3, f4, f5, f6, f7, f8, f9⟩ := HB1.out.reads
  go_wp2
  refine bodyPost_ret (v := .tuple #[.agg #[.string ⟨#[]⟩, .string ⟨#[]⟩, .int .i64 0, .int .i64 0, .slice none 0 0, .slice none 0 0, .slice none 0 0, .int .i64 0, .int .i64 0, .int .i64 0], .int .i64 k]) (by simp [results, Tryz.results10, go_sem, q0, q1, q2, q3, q4, q5, q6, q7, q8, q9]) rfl ?_
  exact ⟨rfl, ((((((((((HG1.out.setCell (Nat.le_refl _) _).setCell (Nat.le_refl _) _).setCell (Nat.le_refl _) _).setCell (Nat.le_refl _) _).setCell (Nat.le_refl _) _).setCell (Nat.le_refl _) _).setCell (Nat.le_refl _) _).setCell (Nat.le_refl _) _).setCell (Nat.le_refl _) _).setCell (Nat.le_refl _) _)⟩

/-- What a query's tokens come to, and the rest. -/
def partT (l : List Tq) : Option (Qr × List Tq) := match chainGo (9 * l.length + 9) 1 l with
  | none => none
  | some (x, m) => tailsP x m
def finT : Option (Qr × List Tq) → Option Qr
  | none => none
  | some (q, k) => if k.isEmpty && decide (countE q.root ≤ 200) then some q else none
theorem readW_eq (l : List Tq) : readW l = finT (partT l) := by
  unfold readW partT finT
  cases hc : chainGo (9 * l.length + 9) 1 l with
  | none => rfl
  | some p =>
    obtain ⟨x, m⟩ := p
    dsimp only
    cases ht : tailsP x m with
    | none => rfl
    | some q =>
      obtain ⟨q, k⟩ := q
      dsimp only
      rw [tails_root ht]
theorem root_count {l : List Tq} {q : Qr} {k : List Tq} (h : partT l = some (q, k)) : countE q.root ≤ l.length := by
  unfold partT at h
  cases hc : chainGo (9 * l.length + 9) 1 l with
  | none => rw [hc] at h; cases h
  | some p =>
    obtain ⟨x, m⟩ := p
    rw [hc] at h
    rw [tails_root h]
    have := (go_count _).1 _ _ _ _ hc
    omega

set_option maxHeartbeats 8000000 in
set_option maxRecDepth 100000 in
theorem read_toks (s : ByteArray) (hz : ¬ 600 < s.size) (ws : List Wd) (hws : lexL s.data.toList = some ws) (w : World) (hEnv : Env w) :
    Calls Tryz.prog 10 #[.string s] w fun e w' => ReadEnd w s e w' ∧ Below w.heap.size w w' := by
  have HB := Lib.hid (box10_new w (.string ⟨#[]⟩) (.string ⟨#[]⟩) (.int .i64 0) (.int .i64 0) (.slice none 0 0) (.slice none 0 0) (.slice none 0 0) (.int .i64 0) (.int .i64 0) (.int .i64 0))
  have HG := Lib.hid (grown_alloc (grown_refl w none) (Obj.cells #[.string ⟨#[]⟩, .string ⟨#[]⟩, .int .i64 0, .int .i64 0, .slice none 0 0, .slice none 0 0, .slice none 0 0, .int .i64 0, .int .i64 0, .int .i64 0] 29))
  have htk := lexL_tokens (by rw [← Lib.size_eq]; omega) hws
  rw [← Lib.size_eq] at htk
  have HW := Lib.hid ((words_any s (w.alloc (Obj.cells #[.string ⟨#[]⟩, .string ⟨#[]⟩, .int .i64 0, .int .i64 0, .slice none 0 0, .slice none 0 0, .slice none 0 0, .int .i64 0, .int .i64 0, .int .i64 0] 29)) (hEnv.below ((Below.refl _ _).alloc (Nat.le_refl _) _)) (by unfold maxLen; omega)).mono (R' := fun e w' => (∃ v, e = .returned (.tuple #[v, .int .i64 0]) ∧ w'.ownsRow ((w.alloc (Obj.cells #[.string ⟨#[]⟩, .string ⟨#[]⟩, .int .i64 0, .int .i64 0, .slice none 0 0, .slice none 0 0, .slice none 0 0, .int .i64 0, .int .i64 0, .int .i64 0] 29)).heap.size + 1) 124 3 v ws.length (flatT ws)) ∧ Below (w.alloc (Obj.cells #[.string ⟨#[]⟩, .string ⟨#[]⟩, .int .i64 0, .int .i64 0, .slice none 0 0, .slice none 0 0, .slice none 0 0, .int .i64 0, .int .i64 0, .int .i64 0] 29)).heap.size (w.alloc (Obj.cells #[.string ⟨#[]⟩, .string ⟨#[]⟩, .int .i64 0, .int .i64 0, .slice none 0 0, .slice none 0 0, .slice none 0 0, .int .i64 0, .int .i64 0, .int .i64 0] 29)) w') (fun e w' ⟨h1, h2⟩ => ⟨by unfold WordsEnd at h1; rw [if_neg (by rw [← Lib.size_eq]; omega), hws] at h1; exact h1, h2⟩))
  obtain ⟨T, hT⟩ : ∃ T, partT (ws.map tq) = T := ⟨_, rfl⟩
  have HRW := Lib.hid (show readL s.data.toList = finT T by
    unfold readL; rw [hws, ← hT]; exact readW_eq _)
  have HCN := Lib.hid (show ∀ q k, T = some (q, k) → countE q.root ≤ 600 by
    intro q k hk; rw [hk] at hT; have := root_count hT; rw [List.length_map] at this; omega)
  have HQ := Lib.hid (fun W bd (hr : Rd W bd (ws.map tq)) => (show Calls Tryz.prog 33 #[.pointer (some ⟨bd, 0, none⟩)] W (QEnd W bd (partT (ws.map tq))) from query_any (9 * (ws.map tq).length + 9) (ws.map tq) (by omega) W bd hr))
  rw [hT] at HQ
  have HZ := Lib.hid hz
  have HTK := Lib.hid (show ws.length ≤ 1000000 ∧ ∀ x ∈ ws, TokOk (tq x) from ⟨by omega, htk.2⟩)
  clear hws hEnv htk hT hz
  go_enter Tryz.func10, Tryz.ntmps10
  go_wp2_with fail
  refine HW.out.mono ?_
  rintro e w1 ⟨⟨v, rfl, hown⟩, b1⟩
  have HB1 := Lib.hid ((b1.block w.heap.size (by simp)).trans HB.out)
  have HG1 := Lib.hid (grown_trans HG.out (grown_of_below b1 none))
  have hsz1 : w.heap.size < w1.heap.size := Nat.lt_of_lt_of_le (by simp) b1.size
  obtain ⟨ow, cw, rfl, hrd⟩ := rd_start hown HTK.out.1 HTK.out.2
  obtain ⟨nw, hnw⟩ : ∃ n, ws.length = n := ⟨_, rfl⟩
  rw [hnw] at hrd ⊢
  have HRD := Lib.hid hrd
  have HQQ := Lib.hid (HQ.out _ _ hrd)
  have HBX := Lib.hid ((Below.heap_alloc w1 (Obj.cells #[.slice ow nw cw] 66) _ hsz1).trans HB1.out)
  have HGX := Lib.hid (grown_alloc HG1.out (Obj.cells #[.slice ow nw cw] 66))
  clear hrd hown b1 hnw
  go_wp2_with fail
  refine HQQ.out.mono ?_
  intro e w2 hq
  cases T with
  | none =>
    obtain ⟨⟨cs, xx, yy, zz, rfl, ⟨a, b, z, m, o1, k1, c1, o2, k2, c2, o3, k3, c3, rfl⟩⟩, hg2⟩ := hq
    have HB2 := Lib.hid (show Box10 w2 w.heap.size (.string ⟨#[]⟩) (.string ⟨#[]⟩) (.int .i64 0) (.int .i64 0) (.slice none 0 0) (.slice none 0 0) (.slice none 0 0) (.int .i64 0) (.int .i64 0) (.int .i64 0) from block_past HBX.out hg2 (by omega))
    have hsz2 : w.heap.size < w2.heap.size := (Array.getElem?_eq_some_iff.1 HB2.out).1
    have HE := Lib.hid (show Below w.heap.size w w2 from ⟨hg2.os.trans HGX.out.os, hg2.tape.trans HGX.out.tape, hg2.output.trans HGX.out.output, Nat.le_trans HGX.out.size hg2.size, fun j hj => (hg2.block j (Nat.lt_of_lt_of_le hj HGX.out.size) (by simp; omega)).trans (HGX.out.block j hj (by simp))⟩)
    clear hg2
    obtain ⟨⟨q0, q1, q2, q3, q4, q5, q6, q7, q8, q9⟩, f0, f1, f2, f3, f4, f5, f6, f7, f8, f9⟩ := HB2.out.reads
    simp only [List.cons_append, List.nil_append]
    go_wp2
    refine bodyPost_ret (v := .tuple #[.agg #[.string ⟨#[]⟩, .string ⟨#[]⟩, .int .i64 0, .int .i64 0, .slice none 0 0, .slice none 0 0, .slice none 0 0, .int .i64 0, .int .i64 0, .int .i64 0], .int .i64 2]) (by simp [results, Tryz.results10, go_sem, q0, q1, q2, q3, q4, q5, q6, q7, q8, q9, hsz2]) rfl ?_
    exact ⟨read_none HZ.out HRW.out rfl, (((((((((((HE.out.setCell (Nat.le_refl _) _).setCell (Nat.le_refl _) _).setCell (Nat.le_refl _) _).setCell (Nat.le_refl _) _).setCell (Nat.le_refl _) _).setCell (Nat.le_refl _) _).setCell (Nat.le_refl _) _).setCell (Nat.le_refl _) _).setCell (Nat.le_refl _) _).setCell (Nat.le_refl _) _).alloc (by simp [World.setCell]; omega) _)⟩
  | some p =>
    obtain ⟨q, kk⟩ := p
    obtain ⟨⟨cs, rfl, hnd⟩, hr2, hg2⟩ := hq
    obtain ⟨a, b, z, m, o1, k1, c1, o2, k2, c2, o3, k3, c3, rfl⟩ := hnd.raw
    have HB2 := Lib.hid (show Box10 w2 w.heap.size (.string ⟨#[]⟩) (.string ⟨#[]⟩) (.int .i64 0) (.int .i64 0) (.slice none 0 0) (.slice none 0 0) (.slice none 0 0) (.int .i64 0) (.int .i64 0) (.int .i64 0) from block_past HBX.out hg2 (by omega))
    have hsz2 : w.heap.size < w2.heap.size := (Array.getElem?_eq_some_iff.1 HB2.out).1
    have HE := Lib.hid (show Below w.heap.size w w2 from ⟨hg2.os.trans HGX.out.os, hg2.tape.trans HGX.out.tape, hg2.output.trans HGX.out.output, Nat.le_trans HGX.out.size hg2.size, fun j hj => (hg2.block j (Nat.lt_of_lt_of_le hj HGX.out.size) (by simp; omega)).trans (HGX.out.block j hj (by simp))⟩)
    have HND := Lib.hid (show Nod w2 (fun b => w.heap.size < b) [.string a, .string b, .int .i64 z, .int .i64 m, .slice o1 k1 c1, .slice o2 k2 c2, .slice o3 k3 c3] q.root from hnd.keep fun b hb _ => ⟨rfl, by simp at hb; omega⟩)
    have hbd2 : w1.heap.size < w2.heap.size := hr2.lt
    obtain ⟨ol, cl, hcl, _, _, _⟩ := hr2
    have d0 : w2.cell? ⟨w1.heap.size, 0, none⟩ = some (.slice ol kk.length cl) := by simp [World.cell?, hcl]
    obtain ⟨kn, hkn⟩ : ∃ n, kk.length = n := ⟨_, rfl⟩
    rw [hkn] at d0
    have HKN := Lib.hid hkn
    have hcnt := HCN.out q kk rfl
    obtain ⟨cn, hcn⟩ : ∃ n, countE q.root = n := ⟨_, rfl⟩
    have HCT := Lib.hid (fun W (hW : Below w2.heap.size w2 W) => count_any 1000000 q.root (by omega) (Nat.le_refl _) _ W a b z m o1 k1 c1 o2 k2 c2 o3 k3 c3 (HND.out.under hW))
    have HCN2 := Lib.hid hcn
    rw [hcn] at HCT hcnt
    clear hg2 hnd hcl hkn hcn
    obtain ⟨⟨q0, q1, q2, q3, q4, q5, q6, q7, q8, q9⟩, f0, f1, f2, f3, f4, f5, f6, f7, f8, f9⟩ := HB2.out.reads
    simp only [List.cons_append, List.nil_append]
    by_cases hk0 : 0 < kn
    · have i0 : (0 : Int) < kn := by omega
      have hne : readL s.data.toList = none := by
        rw [HRW.out]; unfold finT; dsimp only; rw [if_neg]
        have : kk ≠ [] := by rintro rfl; have := HKN.out; simp at this; omega
        simp [this]
      have HNE := Lib.hid hne
      clear hne
      go_wp2
      refine bodyPost_ret (v := .tuple #[.agg #[.string ⟨#[]⟩, .string ⟨#[]⟩, .int .i64 0, .int .i64 0, .slice none 0 0, .slice none 0 0, .slice none 0 0, .int .i64 0, .int .i64 0, .int .i64 0], .int .i64 2]) (by simp [results, Tryz.results10, go_sem, q0, q1, q2, q3, q4, q5, q6, q7, q8, q9, hsz2]) rfl ?_
      exact ⟨read_none HZ.out HNE.out rfl, (((((((((((HE.out.setCell (Nat.le_refl _) _).setCell (Nat.le_refl _) _).setCell (Nat.le_refl _) _).setCell (Nat.le_refl _) _).setCell (Nat.le_refl _) _).setCell (Nat.le_refl _) _).setCell (Nat.le_refl _) _).setCell (Nat.le_refl _) _).setCell (Nat.le_refl _) _).setCell (Nat.le_refl _) _).alloc (by simp [World.setCell]; omega) _)⟩
    · have i0 : ¬ (0 : Int) < kn := by omega
      have hkn0 : kn = 0 := by omega
      subst hkn0
      have hke : kk = [] := List.eq_nil_of_length_eq_zero HKN.out
      have HBQ := Lib.hid ((Below.refl w2.heap.size w2).alloc (Nat.le_refl _) (Obj.cells #[.string a, .string b, .int .i64 z, .int .i64 m, .slice o1 k1 c1, .slice o2 k2 c2, .slice o3 k3 c3, .int .i64 (q.order : Nat), .int .i64 q.limit, .int .i64 q.offset] 29))
      have HCC := Lib.hid (HCT.out _ HBQ.out)
      go_wp2_with fail
      refine HCC.out.mono ?_
      rintro e w3 ⟨rfl, b3⟩
      have HB3 := Lib.hid (show Box10 w3 w.heap.size (.string ⟨#[]⟩) (.string ⟨#[]⟩) (.int .i64 0) (.int .i64 0) (.slice none 0 0) (.slice none 0 0) (.slice none 0 0) (.int .i64 0) (.int .i64 0) (.int .i64 0) from (b3.block _ (by simp; omega)).trans ((HBQ.out.block _ hsz2).trans HB2.out))
      have HX3 := Lib.hid (show Box10 w3 w2.heap.size (.string a) (.string b) (.int .i64 z) (.int .i64 m) (.slice o1 k1 c1) (.slice o2 k2 c2) (.slice o3 k3 c3) (.int .i64 (q.order : Nat)) (.int .i64 q.limit) (.int .i64 q.offset) from (b3.block _ (by simp)).trans (box10_new w2 _ _ _ _ _ _ _ _ _ _))
      have HE3 := Lib.hid (HE.out.trans ((HBQ.out.trans (b3.mono (by simp))).mono HE.out.size))
      have HN3 := Lib.hid (HND.out.under (HBQ.out.trans (b3.mono (by simp))))
      clear b3 q0 q1 q2 q3 q4 q5 q6 q7 q8 q9 f0 f1 f2 f3 f4 f5 f6 f7 f8 f9
      obtain ⟨⟨q0, q1, q2, q3, q4, q5, q6, q7, q8, q9⟩, f0, f1, f2, f3, f4, f5, f6, f7, f8, f9⟩ := HB3.out.reads
      obtain ⟨⟨p0, p1, p2, p3, p4, p5, p6, p7, p8, p9⟩, g0, g1, g2, g3, g4, g5, g6, g7, g8, g9⟩ := HX3.out.reads
      by_cases hc2 : 200 < cn
      · have i2 : (200 : Int) < cn := by omega
        have HNE := Lib.hid (show readL s.data.toList = none by
          rw [HRW.out]; unfold finT; dsimp only; rw [if_neg]; rw [HCN2.out]; simp; omega)
        go_wp2
        refine bodyPost_ret (v := .tuple #[.agg #[.string ⟨#[]⟩, .string ⟨#[]⟩, .int .i64 0, .int .i64 0, .slice none 0 0, .slice none 0 0, .slice none 0 0, .int .i64 0, .int .i64 0, .int .i64 0], .int .i64 2]) (by simp [results, Tryz.results10, go_sem, q0, q1, q2, q3, q4, q5, q6, q7, q8, q9]) rfl ?_
        exact ⟨read_none HZ.out HNE.out rfl, ((((((((((HE3.out.setCell (Nat.le_refl _) _).setCell (Nat.le_refl _) _).setCell (Nat.le_refl _) _).setCell (Nat.le_refl _) _).setCell (Nat.le_refl _) _).setCell (Nat.le_refl _) _).setCell (Nat.le_refl _) _).setCell (Nat.le_refl _) _).setCell (Nat.le_refl _) _).setCell (Nat.le_refl _) _)⟩
      · have i2 : ¬ (200 : Int) < cn := by omega
        have HNE := Lib.hid (show readL s.data.toList = some q by
          rw [HRW.out]; unfold finT; dsimp only; rw [if_pos]; rw [HCN2.out, hke]; simp; omega)
        go_wp2
        refine bodyPost_ret (v := .tuple #[.agg #[.string a, .string b, .int .i64 z, .int .i64 m, .slice o1 k1 c1, .slice o2 k2 c2, .slice o3 k3 c3, .int .i64 (q.order : Nat), .int .i64 q.limit, .int .i64 q.offset], .int .i64 0]) (by simp [results, Tryz.results10, go_sem, q0, q1, q2, q3, q4, q5, q6, q7, q8, q9]) rfl ?_
        exact ⟨read_some HZ.out HNE.out ⟨_, rfl, put10_nod HN3.out (fun b hb => ⟨by omega, by omega⟩) _ _ _ _ _ _ _ _ _ _⟩, ((((((((((HE3.out.setCell (Nat.le_refl _) _).setCell (Nat.le_refl _) _).setCell (Nat.le_refl _) _).setCell (Nat.le_refl _) _).setCell (Nat.le_refl _) _).setCell (Nat.le_refl _) _).setCell (Nat.le_refl _) _).setCell (Nat.le_refl _) _).setCell (Nat.le_refl _) _).setCell (Nat.le_refl _) _)⟩

theorem parse_any (s : ByteArray) (hs : s.size ≤ maxLen) (w : World) (h : Env w) :
    Calls Tryz.prog 10 #[.string s] w fun e w' => ReadEnd w s e w' ∧ Below w.heap.size w w' := by
  have hE := h.below ((Below.refl w.heap.size w).alloc (Nat.le_refl _) (Obj.cells #[.string ⟨#[]⟩, .string ⟨#[]⟩, .int .i64 0, .int .i64 0, .slice none 0 0, .slice none 0 0, .slice none 0 0, .int .i64 0, .int .i64 0, .int .i64 0] 29))
  by_cases hz : 600 < s.size
  · exact (read_err s 1 (by decide) w ((words_any s _ hE hs).mono fun e w' ⟨h1, h2⟩ => ⟨by unfold WordsEnd at h1; rw [if_pos (by rw [← Lib.size_eq]; exact hz)] at h1; exact h1, h2⟩)).mono fun e w' q => ⟨read_long hz q.1, q.2⟩
  · cases hl : lexL s.data.toList with
    | none => exact (read_err s 2 (by decide) w ((words_any s _ hE hs).mono fun e w' ⟨h1, h2⟩ => ⟨by unfold WordsEnd at h1; rw [if_neg (by rw [← Lib.size_eq]; exact hz), hl] at h1; exact h1, h2⟩)).mono fun e w' q => ⟨read_none hz (by unfold readL; rw [hl]) q.1, q.2⟩
    | some ws => exact read_toks s hz ws hl w h
end Go.Proofs.YtddglepimbfdkaaGreatDoor.Par
end
