import Derived.Test.YtbcemjhaecelnaaGreatDoorMg22
section
set_option maxHeartbeats 8000000
set_option maxRecDepth 100000
section
namespace Go.Proofs.YtbcemjhaecelnaaGreatDoor.Par
open Go.RowKit Go.Lib
open Go.Proofs.YtbcemjhaecelnaaGreatDoor.Sto
def zbb (w : World) (k : Nat) (x0 x1 x2 x3 x4 x5 x6 x7 x8 x9 : Value) : Prop := w.heap[k]? = some (.cells #[x0, x1, x2, x3, x4, x5, x6, x7, x8, x9] 29 (0, 0))
theorem zbb.reads {w : World} {k : Nat} {x0 x1 x2 x3 x4 x5 x6 x7 x8 x9 : Value} (h : zbb w k x0 x1 x2 x3 x4 x5 x6 x7 x8 x9) : (w.cell? ⟨k, 0, none⟩ = some x0 /\ w.cell? ⟨k, 1, none⟩ = some x1 /\ w.cell? ⟨k, 2, none⟩ = some x2 /\ w.cell? ⟨k, 3, none⟩ = some x3 /\ w.cell? ⟨k, 4, none⟩ = some x4 /\ w.cell? ⟨k, 5, none⟩ = some x5 /\ w.cell? ⟨k, 6, none⟩ = some x6 /\ w.cell? ⟨k, 7, none⟩ = some x7 /\ w.cell? ⟨k, 8, none⟩ = some x8 /\ w.cell? ⟨k, 9, none⟩ = some x9) /\ (w.frozen? ⟨k, 0, none⟩ = false /\ w.frozen? ⟨k, 1, none⟩ = false /\ w.frozen? ⟨k, 2, none⟩ = false /\ w.frozen? ⟨k, 3, none⟩ = false /\ w.frozen? ⟨k, 4, none⟩ = false /\ w.frozen? ⟨k, 5, none⟩ = false /\ w.frozen? ⟨k, 6, none⟩ = false /\ w.frozen? ⟨k, 7, none⟩ = false /\ w.frozen? ⟨k, 8, none⟩ = false /\ w.frozen? ⟨k, 9, none⟩ = false) := by
 unfold zbb at h
 refine ⟨⟨?_, ?_, ?_, ?_, ?_, ?_, ?_, ?_, ?_, ?_⟩, ?_, ?_, ?_, ?_, ?_, ?_, ?_, ?_, ?_, ?_⟩ <;> simp [World.cell?, World.frozen?, h]
abbrev zhw (w : World) (k : Nat) (y0 y1 y2 y3 y4 y5 y6 y7 y8 y9 : Value) : World := ((((((((((w.setCell ⟨k, 0, none⟩ y0).setCell ⟨k, 1, none⟩ y1).setCell ⟨k, 2, none⟩ y2).setCell ⟨k, 3, none⟩ y3).setCell ⟨k, 4, none⟩ y4).setCell ⟨k, 5, none⟩ y5).setCell ⟨k, 6, none⟩ y6).setCell ⟨k, 7, none⟩ y7).setCell ⟨k, 8, none⟩ y8).setCell ⟨k, 9, none⟩ y9)
theorem zeA (w : World) (k : Nat) (y0 y1 y2 y3 y4 y5 y6 y7 y8 y9 : Value) : ∀ j, j ≠ k -> (zhw w k y0 y1 y2 y3 y4 y5 y6 y7 y8 y9).heap[j]? = w.heap[j]? := fun j hj => by
 unfold zhw
 rw [Below.heap_setCell _ _ _ _ hj, Below.heap_setCell _ _ _ _ hj, Below.heap_setCell _ _ _ _ hj, Below.heap_setCell _ _ _ _ hj, Below.heap_setCell _ _ _ _ hj, Below.heap_setCell _ _ _ _ hj, Below.heap_setCell _ _ _ _ hj, Below.heap_setCell _ _ _ _ hj, Below.heap_setCell _ _ _ _ hj, Below.heap_setCell _ _ _ _ hj]
theorem zeB {w0 w : World} {r : Option Nat} (h : w0.grownBy w r) {k : Nat} (hk : w0.heap.size <= k) (y0 y1 y2 y3 y4 y5 y6 y7 y8 y9 : Value) : w0.grownBy (zhw w k y0 y1 y2 y3 y4 y5 y6 y7 y8 y9) r :=
 (grown_setNew (grown_setNew (grown_setNew (grown_setNew (grown_setNew (grown_setNew (grown_setNew (grown_setNew (grown_setNew (grown_setNew h hk 0 y0) hk 1 y1) hk 2 y2) hk 3 y3) hk 4 y4) hk 5 y5) hk 6 y6) hk 7 y7) hk 8 y8) hk 9 y9)
theorem put10_rd {w : World} {bd k : Nat} {l : List Tq} (h : Rd w bd l) (hk : bd < k) (y0 y1 y2 y3 y4 y5 y6 y7 y8 y9 : Value) : Rd (zhw w k y0 y1 y2 y3 y4 y5 y6 y7 y8 y9) bd l :=
 h.keep fun j hj => zeA w k y0 y1 y2 y3 y4 y5 y6 y7 y8 y9 j (by omega)
theorem zeC {w : World} {k : Nat} {P Q : Nat -> Prop} {cs : List Value} {x : Ex} (h : Nod w P cs x) (hP : ∀ b, P b -> b ≠ k /\ Q b) (y0 y1 y2 y3 y4 y5 y6 y7 y8 y9 : Value) : Nod (zhw w k y0 y1 y2 y3 y4 y5 y6 y7 y8 y9) Q cs x :=
 h.keep fun j hj _ => ⟨zeA w k y0 y1 y2 y3 y4 y5 y6 y7 y8 y9 j (hP j hj).1, (hP j hj).2⟩
theorem zaS (w : World) (x0 x1 x2 x3 x4 x5 x6 x7 x8 x9 : Value) : zbb (w.alloc (Obj.cells #[x0, x1, x2, x3, x4, x5, x6, x7, x8, x9] 29)) w.heap.size x0 x1 x2 x3 x4 x5 x6 x7 x8 x9 := Array.getElem?_push_size
theorem zdI.shape2 {w w' : World} {bd : Nat} {r : Option (Int × List Tq)} {e : Ending} (h : zdI w bd r e w') : (∃ n ok, e = .returned (.tuple #[.int .i64 n, .bool ok]) /\ (r.isSome = ok /\ ∀ p, r = some p -> n = p.1)) /\ (∃ l', Rd w' bd l' /\ ∀ p, r = some p -> l' = p.2) /\ w.grownBy w' (some bd) := by
 obtain ⟨⟨n, h1, h2⟩, h3⟩ := h.shape
 exact ⟨⟨n, _, h1, rfl, h2⟩, h3⟩
def QEnd (w : World) (bd : Nat) (r : Option (Qr × List Tq)) (e : Ending) (w' : World) : Prop := match r with
 | none => (∃ cs x y z, e = .returned (.tuple #[.agg (cs ++ [.int .i64 x, .int .i64 y, .int .i64 z]).toArray, .bool false]) /\ Raw cs) /\ w.grownBy w' (some bd)
 | some (q, k) => (∃ cs, e = .returned (.tuple #[.agg (cs ++ [.int .i64 (q.order : Nat), .int .i64 q.limit, .int .i64 q.offset]).toArray, .bool true]) /\ Nod w' (fun b => w.heap.size <= b) cs q.root) /\ Rd w' bd k /\ w.grownBy w' (some bd)
theorem query_any (n : Nat) (l : List Tq) (hl : 9 * l.length + 8 <= n + 1) (w : World) (bd : Nat) (h : Rd w bd l) :
 Calls Tryz.prog 19 #[.pointer (some ⟨bd, 0, none⟩)] w (QEnd w bd (match chainGo n 1 l with | none => none | some (x, m) => zcX x m)) := by
 have hfar := h.lt
 have HB := zh (zaS w (.string ⟨#[]⟩) (.string ⟨#[]⟩) (.int .i64 0) (.int .i64 0) (.slice none 0 0) (.slice none 0 0) (.slice none 0 0) (.int .i64 0) (.int .i64 0) (.int .i64 0))
 have HG := zh (grown_alloc (grown_refl w (some bd)) (Obj.cells #[.string ⟨#[]⟩, .string ⟨#[]⟩, .int .i64 0, .int .i64 0, .slice none 0 0, .slice none 0 0, .slice none 0 0, .int .i64 0, .int .i64 0, .int .i64 0] 29))
 have HE := zh (expr_any n l hl _ bd (h.alloc (Obj.cells #[.string ⟨#[]⟩, .string ⟨#[]⟩, .int .i64 0, .int .i64 0, .slice none 0 0, .slice none 0 0, .slice none 0 0, .int .i64 0, .int .i64 0, .int .i64 0] 29)))
 cases hr : chainGo n 1 l with
 | none =>
   rw [hr] at HE
   dsimp only
   clear h hl hr
   go_enter Tryz.func19, Tryz.ntmps19
   go_wp2_with fail
   refine HE.out.mono ?_
   intro e w1 hres
   have HB1 := zh (show zbb w1 w.heap.size (.string ⟨#[]⟩) (.string ⟨#[]⟩) (.int .i64 0) (.int .i64 0) (.slice none 0 0) (.slice none 0 0) (.slice none 0 0) (.int .i64 0) (.int .i64 0) (.int .i64 0) from zaa HB.out hres.wide (by omega))
   have HG1 := zh (grown_trans HG.out hres.wide)
   have hsz1 : w.heap.size < w1.heap.size := Nat.lt_of_lt_of_le (by simp) hres.wide.size
   obtain ⟨a, b, z, m, o1, k1, c1, o2, k2, c2, o3, k3, c3, rfl⟩ := hres.shape
   clear hres
   obtain ⟨⟨q0, q1, q2, q3, q4, q5, q6, q7, q8, q9⟩, f0, f1, f2, f3, f4, f5, f6, f7, f8, f9⟩ := HB1.out.reads
   go_wp2
   refine bodyPost_ret (v := .tuple #[.agg #[.string ⟨#[]⟩, .string ⟨#[]⟩, .int .i64 0, .int .i64 0, .slice none 0 0, .slice none 0 0, .slice none 0 0, .int .i64 0, .int .i64 0, .int .i64 0], .bool false]) (by simp [results, Tryz.results19, go_sem, q0, q1, q2, q3, q4, q5, q6, q7, q8, q9, hsz1]) rfl ?_
   exact ⟨⟨[.string ⟨#[]⟩, .string ⟨#[]⟩, .int .i64 0, .int .i64 0, .slice none 0 0, .slice none 0 0, .slice none 0 0], 0, 0, 0, rfl, zbX⟩, grown_alloc (zeB HG1.out (Nat.le_refl _) _ _ _ _ _ _ _ _ _ _) _⟩
 | some p =>
   obtain ⟨x, mm⟩ := p
   rw [hr] at HE
   dsimp only
   obtain ⟨T, hT⟩ : ∃ T, zcX x mm = T := ⟨_, rfl⟩
   rw [hT]
   unfold zcX at hT
   have HT := zh hT
   clear h hl hr hT
   go_enter Tryz.func19, Tryz.ntmps19
   go_wp2_with fail
   refine HE.out.mono ?_
   intro e w1 hres
   have HRES := zh hres
   have HB1 := zh (show zbb w1 w.heap.size (.string ⟨#[]⟩) (.string ⟨#[]⟩) (.int .i64 0) (.int .i64 0) (.slice none 0 0) (.slice none 0 0) (.slice none 0 0) (.int .i64 0) (.int .i64 0) (.int .i64 0) from zaa HB.out hres.wide (by omega))
   have HG1 := zh (grown_trans HG.out hres.wide)
   have hsz1 : w.heap.size < w1.heap.size := Nat.lt_of_lt_of_le (by simp) hres.wide.size
   obtain ⟨a, b, z, m, o1, k1, c1, o2, k2, c2, o3, k3, c3, rfl⟩ := hres.shape
   clear hres
   have HX2 := zh (zal w1 (.string a) (.string b) (.int .i64 z) (.int .i64 m) (.slice o1 k1 c1) (.slice o2 k2 c2) (.slice o3 k3 c3))
   have HB2 := zh ((Below.heap_alloc _ (Obj.cells #[.string a, .string b, .int .i64 z, .int .i64 m, .slice o1 k1 c1, .slice o2 k2 c2, .slice o3 k3 c3] 27) _ hsz1).trans HB1.out)
   have HG2 := zh (grown_alloc HG1.out (Obj.cells #[.string a, .string b, .int .i64 z, .int .i64 m, .slice o1 k1 c1, .slice o2 k2 c2, .slice o3 k3 c3] 27))
   have HO := zh (order_any bd mm _ (HRES.out.part.2.1.alloc (Obj.cells #[.string a, .string b, .int .i64 z, .int .i64 m, .slice o1 k1 c1, .slice o2 k2 c2, .slice o3 k3 c3] 27)))
   have HN2 := zh (show Nod (w1.alloc (Obj.cells #[.string a, .string b, .int .i64 z, .int .i64 m, .slice o1 k1 c1, .slice o2 k2 c2, .slice o3 k3 c3] 27)) (fun b => w.heap.size < b) [.string a, .string b, .int .i64 z, .int .i64 m, .slice o1 k1 c1, .slice o2 k2 c2, .slice o3 k3 c3] x from HRES.out.part.1.keep fun b hb hl => ⟨Below.heap_alloc _ _ _ hl, by simp at hb; omega⟩)
   go_wp2_with fail
   refine HO.out.mono ?_
   intro e w2 hres
   obtain ⟨⟨n1, ok1, rfl, hn1⟩, ⟨l1, hr2, hl1⟩, hg2⟩ := hres.shape2
   have HX3 := zh (zaa HX2.out hg2 (by omega))
   have HB3 := zh (zaa HB2.out hg2 (by omega))
   have HG3 := zh (grown_trans HG2.out hg2)
   have HN3 := zh (HN2.out.grown hg2 (fun b hb => by omega))
   have HL1 := zh (And.intro hn1 hl1)
   have HR1 := zh (zhk bd l1 ⟨#[108, 105, 109, 105, 116]⟩ w2 hr2)
   clear hres hr2 hg2 hn1 hl1
   go_wp2_with fail
   refine HR1.out.mono ?_
   intro e w3 hres
   obtain ⟨⟨n2, ok2, rfl, hn2⟩, ⟨l2, hr3, hl2⟩, hg3⟩ := hres.shape2
   have HX4 := zh (zaa HX3.out hg3 (by omega))
   have HB4 := zh (zaa HB3.out hg3 (by omega))
   have HG4 := zh (grown_trans HG3.out hg3)
   have HN4 := zh (HN3.out.grown hg3 (fun b hb => by omega))
   have HL2 := zh (And.intro hn2 hl2)
   have HR2 := zh (zhk bd l2 ⟨#[111, 102, 102, 115, 101, 116]⟩ w3 hr3)
   clear hres hr3 hg3 hn2 hl2
   go_wp2_with fail
   refine HR2.out.mono ?_
   intro e w4 hres
   obtain ⟨⟨n3, ok3, rfl, hn3⟩, ⟨l3, hr4, hl3⟩, hg4⟩ := hres.shape2
   have HX5 := zh (show Box7 w4 w1.heap.size (.string a) (.string b) (.int .i64 z) (.int .i64 m) (.slice o1 k1 c1) (.slice o2 k2 c2) (.slice o3 k3 c3) from zaa HX4.out hg4 (by omega))
   have HB5 := zh (show zbb w4 w.heap.size (.string ⟨#[]⟩) (.string ⟨#[]⟩) (.int .i64 0) (.int .i64 0) (.slice none 0 0) (.slice none 0 0) (.slice none 0 0) (.int .i64 0) (.int .i64 0) (.int .i64 0) from zaa HB4.out hg4 (by omega))
   have HG5 := zh (grown_trans HG4.out hg4)
   have HN5 := zh (HN4.out.grown hg4 (fun b hb => by omega))
   have HL3 := zh (And.intro hn3 hl3)
   have HR5 := zh hr4
   have hsz4 : w.heap.size < w4.heap.size := (Array.getElem?_eq_some_iff.1 HB5.out).1
   clear hres hr4 hg4 hn3 hl3
   obtain ⟨⟨q0, q1, q2, q3, q4, q5, q6, q7, q8, q9⟩, f0, f1, f2, f3, f4, f5, f6, f7, f8, f9⟩ := HB5.out.reads
   obtain ⟨⟨p0, p1, p2, p3, p4, p5, p6⟩, g0, g1, g2, g3, g4, g5, g6⟩ := HX5.out.reads
   have HEND := zh (show QEnd w bd T (.returned (.tuple #[.agg #[.string a, .string b, .int .i64 z, .int .i64 m, .slice o1 k1 c1, .slice o2 k2 c2, .slice o3 k3 c3, .int .i64 n1, .int .i64 n2, .int .i64 n3], .bool ((ok1 && ok2) && ok3)])) ((zhw w4 w.heap.size (.string a) (.string b) (.int .i64 z) (.int .i64 m) (.slice o1 k1 c1) (.slice o2 k2 c2) (.slice o3 k3 c3) (.int .i64 n1) (.int .i64 n2) (.int .i64 n3)).alloc (Obj.cells #[.string a, .string b, .int .i64 z, .int .i64 m, .slice o1 k1 c1, .slice o2 k2 c2, .slice o3 k3 c3, .int .i64 n1, .int .i64 n2, .int .i64 n3] 29)) by
    have hg := grown_alloc (zeB HG5.out (Nat.le_refl _) (.string a) (.string b) (.int .i64 z) (.int .i64 m) (.slice o1 k1 c1) (.slice o2 k2 c2) (.slice o3 k3 c3) (.int .i64 n1) (.int .i64 n2) (.int .i64 n3)) (Obj.cells #[.string a, .string b, .int .i64 z, .int .i64 m, .slice o1 k1 c1, .slice o2 k2 c2, .slice o3 k3 c3, .int .i64 n1, .int .i64 n2, .int .i64 n3] 29)
    have hT := HT.out
    cases ho : zbE mm with
    | none =>
      rw [ho] at hT
      obtain rfl : ok1 = false := HL1.out.1.1.symm.trans (by rw [ho]; rfl)
      rw [<- (show none = T from hT)]
      exact ⟨⟨[.string a, .string b, .int .i64 z, .int .i64 m, .slice o1 k1 c1, .slice o2 k2 c2, .slice o3 k3 c3], n1, n2, n3, rfl, raw7 _ _ _ _ _ _ _ _ _ _ _ _ _⟩, hg⟩
    | some po =>
      obtain ⟨o, l1'⟩ := po
      obtain rfl : ok1 = true := HL1.out.1.1.symm.trans (by rw [ho]; rfl)
      have e1 := HL1.out.1.2 ((o : Int), l1') (by rw [ho]; rfl)
      have e2 := HL1.out.2 ((o : Int), l1') (by rw [ho]; rfl)
      dsimp only at e1 e2
      subst e1; subst e2
      rw [ho] at hT
      dsimp only at hT
      cases hl : zcC zbD l1 with
      | none =>
        rw [hl] at hT
        obtain rfl : ok2 = false := HL2.out.1.1.symm.trans (by show (zcC zbD l1).isSome = false; rw [hl]; rfl)
        rw [<- (show none = T from hT)]
        exact ⟨⟨[.string a, .string b, .int .i64 z, .int .i64 m, .slice o1 k1 c1, .slice o2 k2 c2, .slice o3 k3 c3], (o : Int), n2, n3, rfl, raw7 _ _ _ _ _ _ _ _ _ _ _ _ _⟩, hg⟩
      | some pl =>
        obtain ⟨la, l2'⟩ := pl
        obtain rfl : ok2 = true := HL2.out.1.1.symm.trans (by show (zcC zbD l1).isSome = true; rw [hl]; rfl)
        have e1 := HL2.out.1.2 (la, l2') hl
        have e2 := HL2.out.2 (la, l2') hl
        dsimp only at e1 e2
        subst e1; subst e2
        rw [hl] at hT
        dsimp only at hT
        cases hf : zcC zbd l2 with
        | none =>
          rw [hf] at hT
          obtain rfl : ok3 = false := HL3.out.1.1.symm.trans (by show (zcC zbd l2).isSome = false; rw [hf]; rfl)
          rw [<- (show none = T from hT)]
          exact ⟨⟨[.string a, .string b, .int .i64 z, .int .i64 m, .slice o1 k1 c1, .slice o2 k2 c2, .slice o3 k3 c3], (o : Int), n2, n3, rfl, raw7 _ _ _ _ _ _ _ _ _ _ _ _ _⟩, hg⟩
        | some pf =>
          obtain ⟨lb, l3'⟩ := pf
          obtain rfl : ok3 = true := HL3.out.1.1.symm.trans (by show (zcC zbd l2).isSome = true; rw [hf]; rfl)
          have e1 := HL3.out.1.2 (lb, l3') hf
          have e2 := HL3.out.2 (lb, l3') hf
          dsimp only at e1 e2
          subst e1; subst e2
          rw [hf] at hT
          rw [<- (show some (⟨x, o, n2, n3⟩, l3) = T from hT)]
          have hn := zeC (k := w.heap.size) (Q := fun b => w.heap.size <= b) HN5.out (fun b hb => ⟨by omega, by omega⟩) (.string a) (.string b) (.int .i64 z) (.int .i64 m) (.slice o1 k1 c1) (.slice o2 k2 c2) (.slice o3 k3 c3) (.int .i64 (o : Int)) (.int .i64 n2) (.int .i64 n3)
          have hrd := put10_rd HR5.out hfar (.string a) (.string b) (.int .i64 z) (.int .i64 m) (.slice o1 k1 c1) (.slice o2 k2 c2) (.slice o3 k3 c3) (.int .i64 (o : Int)) (.int .i64 n2) (.int .i64 n3)
          exact ⟨⟨[.string a, .string b, .int .i64 z, .int .i64 m, .slice o1 k1 c1, .slice o2 k2 c2, .slice o3 k3 c3], rfl, hn.under ((Below.refl _ _).alloc (Nat.le_refl _) _)⟩, hrd.alloc _, hg⟩)
   cases ok1 <;> cases ok2 <;> cases ok3
   all_goals
    go_wp2
    refine bodyPost_ret (v := .tuple #[.agg #[.string a, .string b, .int .i64 z, .int .i64 m, .slice o1 k1 c1, .slice o2 k2 c2, .slice o3 k3 c3, .int .i64 n1, .int .i64 n2, .int .i64 n3], .bool _]) (by simp [results, Tryz.results19, go_sem, q0, q1, q2, q3, q4, q5, q6, q7, q8, q9, hsz4]; rfl) rfl ?_
    exact HEND.out
end Go.Proofs.YtbcemjhaecelnaaGreatDoor.Par
end
section
namespace Go.Proofs.YtbcemjhaecelnaaGreatDoor.Par
open Go.RowKit Go.Lib
open Go.Proofs.YtbcemjhaecelnaaGreatDoor.Sto
theorem zhl : ∀ (n : Nat),
 (∀ t l x m, chainGo n t l = some (x, m) -> countE x + m.length <= l.length) /\
 (∀ t y l x m, zbi n t y l = some (x, m) -> countE x + m.length <= countE y + l.length) /\
 (∀ t y l x m, zbP n t y l = some (x, m) -> countE x + m.length <= countE y + l.length) /\
 (∀ l x m, zat n l = some (x, m) -> countE x + m.length <= l.length) /\
 (∀ l x m, zaz n l = some (x, m) -> countE x + m.length <= l.length) /\
 (∀ l x m, zan n l = some (x, m) -> countE x + m.length <= l.length) /\
 (∀ s l x m, zbj n s l = some (x, m) -> countE x + m.length <= l.length) /\
 (∀ s l x m, fnGo n s l = some (x, m) -> countE x + m.length <= l.length)
 | 0 => ⟨fun _ _ _ _ h => by simp [chainGo] at h, fun _ _ _ _ _ h => by simp [zbi] at h, fun _ _ _ _ _ h => by simp [zbP] at h, fun _ _ _ h => by simp [zat] at h, fun _ _ _ h => by simp [zaz] at h, fun _ _ _ h => by simp [zan] at h, fun _ _ _ _ h => by simp [zbj] at h, fun _ _ _ _ h => by simp [fnGo] at h⟩
 | n + 1 => by
   obtain ⟨i1, i2, i3, i4, i5, i6, i7, i8⟩ := zhl n
   refine ⟨?_, ?_, ?_, ?_, ?_, ?_, ?_, ?_⟩
   ·intro t l x m h
    rw [chainGo] at h
    split at h
    ·exact i4 _ _ _ h
    ·split at h
     ·cases h
     ·rename_i y k hk
      have := i1 _ _ _ _ hk
      have := i2 _ _ _ _ _ h
      omega
   ·intro t y l x m h
    rw [zbi] at h
    split at h
    ·split at h
     ·cases h
     ·rename_i z k hk
      have := i3 _ _ _ _ _ hk
      have := i2 _ _ _ _ _ h
      omega
    ·injection h with h; injection h with h1 h; subst h; subst h1; exact Nat.le_refl _
   ·intro t y l x m h
    cases l with
    | nil => simp [zbP] at h
    | cons s l =>
      rw [zbP] at h
      split at h
      ·cases h
      ·rename_i mode names k hk
       have := zbW hk
       split at h
       ·cases h
       ·rename_i z j hj
        have := i1 _ _ _ _ hj
        injection h with h; injection h with h1 h; subst h; subst h1
        simp [countE]; omega
   ·intro l x m h
    rw [zat] at h
    split at h
    ·rename_i hc
     have := zaw hc
     split at h
     ·cases h
     ·rename_i y k hk
      have := i4 _ _ _ hk
      injection h with h; injection h with h1 h; subst h; subst h1
      simp [countE]; omega
    ·exact i5 _ _ _ h
   ·intro l x m h
    cases l with
    | nil => simp [zaz] at h
    | cons s l =>
      have hsel : ∀ t b l x m, selP t b l = some (x, m) -> countE x = 1 := by
       intro t b l x m h
       unfold selP at h
       split at h
       ·cases h
       ·split at h
        ·rename_i ms k _ _
         cases hx : za4 k with
         | none => rw [hx] at h; cases h
         | some q =>
           rw [hx] at h
           injection h with h; injection h with h1 h; subst h1; rfl
        ·cases h
      rw [zaz] at h
      split at h
      ·have := i6 _ _ _ h
       simp; omega
      ·split at h
       ·injection h with h; injection h with h1 h; subst h; subst h1; simp [countE]; omega
       ·split at h
        ·split at h
         ·have := i7 _ _ _ _ h; simp; omega
         ·split at h
          ·have := i8 _ _ _ _ h; simp; omega
          ·split at h
           ·cases h
           ·have := (zdE h).1; have := hsel _ _ _ _ _ h; simp; omega
        ·have := (zdE h).2 rfl; have := hsel _ _ _ _ _ h; omega
   ·intro l x m h
    rw [zan] at h
    split at h
    ·cases h
    ·rename_i y k hk
     have := i1 _ _ _ _ hk
     split at h
     ·injection h with h; injection h with h1 h; subst h; subst h1
      simp; omega
     ·cases h
   ·intro s l x m h
    rw [zbj] at h
    split at h
    ·cases h
    ·rename_i mode names k hk
     have := zbW hk
     split at h
     ·rename_i hc
      have := zaw hc
      split at h
      ·cases h
      ·rename_i j k2 hk2
       have := zfB hk2
       split at h
       ·cases h
       ·rename_i z k3 hk3
        have := i6 _ _ _ hk3
        injection h with h; injection h with h1 h; subst h; subst h1
        simp [countE]; omega
     ·cases h
   ·intro s l x m h
    rw [fnGo] at h
    split at h
    ·rename_i hc
     have := zaw hc
     split at h
     ·cases h
     ·rename_i z k3 hk3
      have := i6 _ _ _ hk3
      injection h with h; injection h with h1 h; subst h; subst h1
      simp [countE]; omega
    ·cases h
theorem zfk {x : Ex} {m : List Tq} {q : Qr} {k : List Tq} (h : zcX x m = some (q, k)) : q.root = x := by
 unfold zcX at h
 split at h
 ·cases h
 ·split at h
  ·cases h
  ·split at h
   ·cases h
   ·injection h with h; injection h with h1 _; subst h1; rfl
theorem zhZ {w : World} {B g n c : Nat} {ws : List Wd} (h : w.ownsRow B 78 3 (.slice (some ⟨g, 0, none⟩) n c) ws.length (zcU ws)) : ws.length <= c /\ n = ws.length /\ TokAt w g 0 (ws.map tq) := by
 rcases h.2 with ⟨e, _⟩ | ⟨g', cap, cur, e, hB, hg, hle, _⟩
 ·cases e
 ·injection e with e1 e2 e3
  injection e1 with e1
  injection e1 with e1 _ _
  subst e1; subst e3
  refine ⟨hle, e2, (Array.getElem?_eq_some_iff.1 hg).1, fun j x hx => ?_, fun j x hx => ?_⟩
  ·rw [List.getElem?_map] at hx
   cases hy : ws[j]? with
   | none => rw [hy] at hx; cases hx
   | some y =>
     rw [hy] at hx
     obtain rfl := Option.some.inj hx
     have := h.cells (g := g) rfl (j * 3 + 0) _ (ze7 encT 3 (fun _ => rfl) ws j y hy 0 _ rfl)
     simpa [tq, Addr.add_lit] using this
  ·rw [List.getElem?_map] at hx
   cases hy : ws[j]? with
   | none => rw [hy] at hx; cases hx
   | some y =>
     rw [hy] at hx
     obtain rfl := Option.some.inj hx
     have := h.cells (g := g) rfl (j * 3 + 2) _ (ze7 encT 3 (fun _ => rfl) ws j y hy 2 _ rfl)
     simpa [tq, Addr.add_lit] using this
theorem rd_start {w : World} {B : Nat} {v : Value} {ws : List Wd} (h : w.ownsRow B 78 3 v ws.length (zcU ws)) (hl : ws.length <= 1000000) (hok : ∀ x ∈ ws, TokOk (tq x)) : ∃ o c, v = .slice o ws.length c /\ Rd (w.alloc (Obj.cells #[.slice o ws.length c] 46)) w.heap.size (ws.map tq) := by
 rcases h.2 with ⟨rfl, h0⟩ | ⟨g, cap, cur, rfl, hB, hg, hle, _⟩
 ·obtain rfl := List.eq_nil_of_length_eq_zero h0
  exact ⟨none, 0, rfl, none, 0, Array.getElem?_push_size, Nat.le_refl _, ⟨Nat.zero_le _, fun s hs => by simp at hs⟩, .inl rfl⟩
 ·obtain ⟨h1, _, h3⟩ := zhZ h
  have hgl := (Array.getElem?_eq_some_iff.1 hg).1
  refine ⟨_, cap, rfl, some ⟨g, 0, none⟩, cap, by rw [List.length_map]; exact Array.getElem?_push_size, by rw [List.length_map]; exact hle, ⟨by rw [List.length_map]; exact hl, toks_ok hok⟩, .inr ⟨g, 0, rfl, hgl, h3.keep (Below.heap_alloc _ _ _ hgl)⟩⟩
def ReadEnd (w : World) (s : ByteArray) (e : Ending) (w' : World) : Prop :=
 if 600 < s.size then e = .returned (.tuple #[.agg #[.string ⟨#[]⟩, .string ⟨#[]⟩, .int .i64 0, .int .i64 0, .slice none 0 0, .slice none 0 0, .slice none 0 0, .int .i64 0, .int .i64 0, .int .i64 0], .int .i64 1])
 else match zbk s.data.toList with
  | none => e = .returned (.tuple #[.agg #[.string ⟨#[]⟩, .string ⟨#[]⟩, .int .i64 0, .int .i64 0, .slice none 0 0, .slice none 0 0, .slice none 0 0, .int .i64 0, .int .i64 0, .int .i64 0], .int .i64 2])
  | some q => ∃ cs, e = .returned (.tuple #[.agg (cs ++ [.int .i64 (q.order : Nat), .int .i64 q.limit, .int .i64 q.offset]).toArray, .int .i64 0]) /\ Nod w' (fun b => w.heap.size <= b) cs q.root
theorem below_of_grown {w w' : World} {bd : Nat} (h : w.grownBy w' (some bd)) (hb : w.heap.size <= bd) : Below w.heap.size w w' :=
 ⟨h.os, h.tape, h.output, h.size, fun k hk => h.block k hk (by simp; omega)⟩
theorem read_long {w : World} {s : ByteArray} {e : Ending} {w' : World} (h : 600 < s.size) (he : e = .returned (.tuple #[.agg #[.string ⟨#[]⟩, .string ⟨#[]⟩, .int .i64 0, .int .i64 0, .slice none 0 0, .slice none 0 0, .slice none 0 0, .int .i64 0, .int .i64 0, .int .i64 0], .int .i64 1])) : ReadEnd w s e w' := by
 unfold ReadEnd; rw [if_pos h]; exact he
theorem read_none {w : World} {s : ByteArray} {e : Ending} {w' : World} (h : ¬ 600 < s.size) (hr : zbk s.data.toList = none) (he : e = .returned (.tuple #[.agg #[.string ⟨#[]⟩, .string ⟨#[]⟩, .int .i64 0, .int .i64 0, .slice none 0 0, .slice none 0 0, .slice none 0 0, .int .i64 0, .int .i64 0, .int .i64 0], .int .i64 2])) : ReadEnd w s e w' := by
 unfold ReadEnd; rw [if_neg h, hr]; exact he
theorem zgq {w : World} {s : ByteArray} {e : Ending} {w' : World} {q : Qr} (h : ¬ 600 < s.size) (hr : zbk s.data.toList = some q) (he : ∃ cs, e = .returned (.tuple #[.agg (cs ++ [.int .i64 (q.order : Nat), .int .i64 q.limit, .int .i64 q.offset]).toArray, .int .i64 0]) /\ Nod w' (fun b => w.heap.size <= b) cs q.root) : ReadEnd w s e w' := by
 unfold ReadEnd; rw [if_neg h, hr]; exact he
theorem zhm (s : ByteArray) (k : Int) (hk : k ≠ 0) (w : World) (hW : Calls Tryz.prog 18 #[.string s] (w.alloc (Obj.cells #[.string ⟨#[]⟩, .string ⟨#[]⟩, .int .i64 0, .int .i64 0, .slice none 0 0, .slice none 0 0, .slice none 0 0, .int .i64 0, .int .i64 0, .int .i64 0] 29)) fun e w' => e = .returned (.tuple #[.slice none 0 0, .int .i64 k]) /\ Below (w.alloc (Obj.cells #[.string ⟨#[]⟩, .string ⟨#[]⟩, .int .i64 0, .int .i64 0, .slice none 0 0, .slice none 0 0, .slice none 0 0, .int .i64 0, .int .i64 0, .int .i64 0] 29)).heap.size (w.alloc (Obj.cells #[.string ⟨#[]⟩, .string ⟨#[]⟩, .int .i64 0, .int .i64 0, .slice none 0 0, .slice none 0 0, .slice none 0 0, .int .i64 0, .int .i64 0, .int .i64 0] 29)) w') :
 Calls Tryz.prog 7 #[.string s] w fun e w' => e = .returned (.tuple #[.agg #[.string ⟨#[]⟩, .string ⟨#[]⟩, .int .i64 0, .int .i64 0, .slice none 0 0, .slice none 0 0, .slice none 0 0, .int .i64 0, .int .i64 0, .int .i64 0], .int .i64 k]) /\ Below w.heap.size w w' := by
 have HB := zh (zaS w (.string ⟨#[]⟩) (.string ⟨#[]⟩) (.int .i64 0) (.int .i64 0) (.slice none 0 0) (.slice none 0 0) (.slice none 0 0) (.int .i64 0) (.int .i64 0) (.int .i64 0))
 have HG := zh ((Below.refl w.heap.size w).alloc (Nat.le_refl _) (Obj.cells #[.string ⟨#[]⟩, .string ⟨#[]⟩, .int .i64 0, .int .i64 0, .slice none 0 0, .slice none 0 0, .slice none 0 0, .int .i64 0, .int .i64 0, .int .i64 0] 29))
 have HW := zh hW
 have hkk : (k != 0) = true := by simp [hk]
 clear hW
 go_enter Tryz.func7, Tryz.ntmps7
 go_wp2_with fail
 refine HW.out.mono ?_
 rintro e w1 ⟨rfl, b1⟩
 have HB1 := zh (show zbb w1 w.heap.size (.string ⟨#[]⟩) (.string ⟨#[]⟩) (.int .i64 0) (.int .i64 0) (.slice none 0 0) (.slice none 0 0) (.slice none 0 0) (.int .i64 0) (.int .i64 0) (.int .i64 0) from (b1.block _ (by simp)).trans HB.out)
 have HG1 := zh (HG.out.trans (b1.mono (by simp)))
 clear b1
 obtain ⟨⟨q0, q1, q2, q3, q4, q5, q6, q7, q8, q9⟩, f0, f1, f2, f3, f4, f5, f6, f7, f8, f9⟩ := HB1.out.reads
 go_wp2
 refine bodyPost_ret (v := .tuple #[.agg #[.string ⟨#[]⟩, .string ⟨#[]⟩, .int .i64 0, .int .i64 0, .slice none 0 0, .slice none 0 0, .slice none 0 0, .int .i64 0, .int .i64 0, .int .i64 0], .int .i64 k]) (by simp [results, Tryz.results7, go_sem, q0, q1, q2, q3, q4, q5, q6, q7, q8, q9]) rfl ?_
 exact ⟨rfl, ((((((((((HG1.out.setCell (Nat.le_refl _) _).setCell (Nat.le_refl _) _).setCell (Nat.le_refl _) _).setCell (Nat.le_refl _) _).setCell (Nat.le_refl _) _).setCell (Nat.le_refl _) _).setCell (Nat.le_refl _) _).setCell (Nat.le_refl _) _).setCell (Nat.le_refl _) _).setCell (Nat.le_refl _) _)⟩
def zhx (l : List Tq) : Option (Qr × List Tq) := match chainGo (9 * l.length + 9) 1 l with
 | none => none
 | some (x, m) => zcX x m
def finT : Option (Qr × List Tq) -> Option Qr
 | none => none
 | some (q, k) => if k.isEmpty && decide (countE q.root <= 200) then some q else none
theorem readW_eq (l : List Tq) : zf8 l = finT (zhx l) := by
 unfold zf8 zhx finT
 cases hc : chainGo (9 * l.length + 9) 1 l with
 | none => rfl
 | some p =>
   obtain ⟨x, m⟩ := p
   dsimp only
   cases ht : zcX x m with
   | none => rfl
   | some q =>
     obtain ⟨q, k⟩ := q
     dsimp only
     rw [zfk ht]
theorem root_count {l : List Tq} {q : Qr} {k : List Tq} (h : zhx l = some (q, k)) : countE q.root <= l.length := by
 unfold zhx at h
 cases hc : chainGo (9 * l.length + 9) 1 l with
 | none => rw [hc] at h; cases h
 | some p =>
   obtain ⟨x, m⟩ := p
   rw [hc] at h
   rw [zfk h]
   have := (zhl _).1 _ _ _ _ hc
   omega
theorem read_toks (s : ByteArray) (hz : ¬ 600 < s.size) (ws : List Wd) (hws : lexL s.data.toList = some ws) (w : World) (hEnv : Env w) :
 Calls Tryz.prog 7 #[.string s] w fun e w' => ReadEnd w s e w' /\ Below w.heap.size w w' := by
 have HB := zh (zaS w (.string ⟨#[]⟩) (.string ⟨#[]⟩) (.int .i64 0) (.int .i64 0) (.slice none 0 0) (.slice none 0 0) (.slice none 0 0) (.int .i64 0) (.int .i64 0) (.int .i64 0))
 have HG := zh (grown_alloc (grown_refl w none) (Obj.cells #[.string ⟨#[]⟩, .string ⟨#[]⟩, .int .i64 0, .int .i64 0, .slice none 0 0, .slice none 0 0, .slice none 0 0, .int .i64 0, .int .i64 0, .int .i64 0] 29))
 have htk := zdf (by rw [<- Lib.size_eq]; omega) hws
 rw [<- Lib.size_eq] at htk
 have HW := zh ((zdr s (w.alloc (Obj.cells #[.string ⟨#[]⟩, .string ⟨#[]⟩, .int .i64 0, .int .i64 0, .slice none 0 0, .slice none 0 0, .slice none 0 0, .int .i64 0, .int .i64 0, .int .i64 0] 29)) (hEnv.below ((Below.refl _ _).alloc (Nat.le_refl _) _)) (by unfold maxLen; omega)).mono (R' := fun e w' => (∃ v, e = .returned (.tuple #[v, .int .i64 0]) /\ w'.ownsRow ((w.alloc (Obj.cells #[.string ⟨#[]⟩, .string ⟨#[]⟩, .int .i64 0, .int .i64 0, .slice none 0 0, .slice none 0 0, .slice none 0 0, .int .i64 0, .int .i64 0, .int .i64 0] 29)).heap.size + 1) 78 3 v ws.length (zcU ws)) /\ Below (w.alloc (Obj.cells #[.string ⟨#[]⟩, .string ⟨#[]⟩, .int .i64 0, .int .i64 0, .slice none 0 0, .slice none 0 0, .slice none 0 0, .int .i64 0, .int .i64 0, .int .i64 0] 29)).heap.size (w.alloc (Obj.cells #[.string ⟨#[]⟩, .string ⟨#[]⟩, .int .i64 0, .int .i64 0, .slice none 0 0, .slice none 0 0, .slice none 0 0, .int .i64 0, .int .i64 0, .int .i64 0] 29)) w') (fun e w' ⟨h1, h2⟩ => ⟨by unfold zaU at h1; rw [if_neg (by rw [<- Lib.size_eq]; omega), hws] at h1; exact h1, h2⟩))
 obtain ⟨T, hT⟩ : ∃ T, zhx (ws.map tq) = T := ⟨_, rfl⟩
 have HRW := zh (show zbk s.data.toList = finT T by
  unfold zbk; rw [hws, <- hT]; exact readW_eq _)
 have HCN := zh (show ∀ q k, T = some (q, k) -> countE q.root <= 600 by
  intro q k hk; rw [hk] at hT; have := root_count hT; rw [List.length_map] at this; omega)
 have HQ := zh (fun W bd (hr : Rd W bd (ws.map tq)) => (show Calls Tryz.prog 19 #[.pointer (some ⟨bd, 0, none⟩)] W (QEnd W bd (zhx (ws.map tq))) from query_any (9 * (ws.map tq).length + 9) (ws.map tq) (by omega) W bd hr))
 rw [hT] at HQ
 have HZ := zh hz
 have HTK := zh (show ws.length <= 1000000 /\ ∀ x ∈ ws, TokOk (tq x) from ⟨by omega, htk.2⟩)
 clear hws hEnv htk hT hz
 go_enter Tryz.func7, Tryz.ntmps7
 go_wp2_with fail
 refine HW.out.mono ?_
 rintro e w1 ⟨⟨v, rfl, hown⟩, b1⟩
 have HB1 := zh ((b1.block w.heap.size (by simp)).trans HB.out)
 have HG1 := zh (grown_trans HG.out (grown_of_below b1 none))
 have hsz1 : w.heap.size < w1.heap.size := Nat.lt_of_lt_of_le (by simp) b1.size
 obtain ⟨ow, cw, rfl, hrd⟩ := rd_start hown HTK.out.1 HTK.out.2
 obtain ⟨nw, hnw⟩ : ∃ n, ws.length = n := ⟨_, rfl⟩
 rw [hnw] at hrd ⊢
 have HRD := zh hrd
 have HQQ := zh (HQ.out _ _ hrd)
 have HBX := zh ((Below.heap_alloc w1 (Obj.cells #[.slice ow nw cw] 46) _ hsz1).trans HB1.out)
 have HGX := zh (grown_alloc HG1.out (Obj.cells #[.slice ow nw cw] 46))
 clear hrd hown b1 hnw
 go_wp2_with fail
 refine HQQ.out.mono ?_
 intro e w2 hq
 cases T with
 | none =>
   obtain ⟨⟨cs, xx, yy, zz, rfl, ⟨a, b, z, m, o1, k1, c1, o2, k2, c2, o3, k3, c3, rfl⟩⟩, hg2⟩ := hq
   have HB2 := zh (show zbb w2 w.heap.size (.string ⟨#[]⟩) (.string ⟨#[]⟩) (.int .i64 0) (.int .i64 0) (.slice none 0 0) (.slice none 0 0) (.slice none 0 0) (.int .i64 0) (.int .i64 0) (.int .i64 0) from zaa HBX.out hg2 (by omega))
   have hsz2 : w.heap.size < w2.heap.size := (Array.getElem?_eq_some_iff.1 HB2.out).1
   have HE := zh (show Below w.heap.size w w2 from ⟨hg2.os.trans HGX.out.os, hg2.tape.trans HGX.out.tape, hg2.output.trans HGX.out.output, Nat.le_trans HGX.out.size hg2.size, fun j hj => (hg2.block j (Nat.lt_of_lt_of_le hj HGX.out.size) (by simp; omega)).trans (HGX.out.block j hj (by simp))⟩)
   clear hg2
   obtain ⟨⟨q0, q1, q2, q3, q4, q5, q6, q7, q8, q9⟩, f0, f1, f2, f3, f4, f5, f6, f7, f8, f9⟩ := HB2.out.reads
   simp only [List.cons_append, List.nil_append]
   go_wp2
   refine bodyPost_ret (v := .tuple #[.agg #[.string ⟨#[]⟩, .string ⟨#[]⟩, .int .i64 0, .int .i64 0, .slice none 0 0, .slice none 0 0, .slice none 0 0, .int .i64 0, .int .i64 0, .int .i64 0], .int .i64 2]) (by simp [results, Tryz.results7, go_sem, q0, q1, q2, q3, q4, q5, q6, q7, q8, q9, hsz2]) rfl ?_
   exact ⟨read_none HZ.out HRW.out rfl, (((((((((((HE.out.setCell (Nat.le_refl _) _).setCell (Nat.le_refl _) _).setCell (Nat.le_refl _) _).setCell (Nat.le_refl _) _).setCell (Nat.le_refl _) _).setCell (Nat.le_refl _) _).setCell (Nat.le_refl _) _).setCell (Nat.le_refl _) _).setCell (Nat.le_refl _) _).setCell (Nat.le_refl _) _).alloc (by simp [World.setCell]; omega) _)⟩
 | some p =>
   obtain ⟨q, kk⟩ := p
   obtain ⟨⟨cs, rfl, hnd⟩, hr2, hg2⟩ := hq
   obtain ⟨a, b, z, m, o1, k1, c1, o2, k2, c2, o3, k3, c3, rfl⟩ := hnd.raw
   have HB2 := zh (show zbb w2 w.heap.size (.string ⟨#[]⟩) (.string ⟨#[]⟩) (.int .i64 0) (.int .i64 0) (.slice none 0 0) (.slice none 0 0) (.slice none 0 0) (.int .i64 0) (.int .i64 0) (.int .i64 0) from zaa HBX.out hg2 (by omega))
   have hsz2 : w.heap.size < w2.heap.size := (Array.getElem?_eq_some_iff.1 HB2.out).1
   have HE := zh (show Below w.heap.size w w2 from ⟨hg2.os.trans HGX.out.os, hg2.tape.trans HGX.out.tape, hg2.output.trans HGX.out.output, Nat.le_trans HGX.out.size hg2.size, fun j hj => (hg2.block j (Nat.lt_of_lt_of_le hj HGX.out.size) (by simp; omega)).trans (HGX.out.block j hj (by simp))⟩)
   have HND := zh (show Nod w2 (fun b => w.heap.size < b) [.string a, .string b, .int .i64 z, .int .i64 m, .slice o1 k1 c1, .slice o2 k2 c2, .slice o3 k3 c3] q.root from hnd.keep fun b hb _ => ⟨rfl, by simp at hb; omega⟩)
   have hbd2 : w1.heap.size < w2.heap.size := hr2.lt
   obtain ⟨ol, cl, hcl, _, _, _⟩ := hr2
   have d0 : w2.cell? ⟨w1.heap.size, 0, none⟩ = some (.slice ol kk.length cl) := by simp [World.cell?, hcl]
   obtain ⟨kn, hkn⟩ : ∃ n, kk.length = n := ⟨_, rfl⟩
   rw [hkn] at d0
   have HKN := zh hkn
   have hcnt := HCN.out q kk rfl
   obtain ⟨cn, hcn⟩ : ∃ n, countE q.root = n := ⟨_, rfl⟩
   have HCT := zh (fun W (hW : Below w2.heap.size w2 W) => count_any 1000000 q.root (by omega) (Nat.le_refl _) _ W a b z m o1 k1 c1 o2 k2 c2 o3 k3 c3 (HND.out.under hW))
   have HCN2 := zh hcn
   rw [hcn] at HCT hcnt
   clear hg2 hnd hcl hkn hcn
   obtain ⟨⟨q0, q1, q2, q3, q4, q5, q6, q7, q8, q9⟩, f0, f1, f2, f3, f4, f5, f6, f7, f8, f9⟩ := HB2.out.reads
   simp only [List.cons_append, List.nil_append]
   by_cases hk0 : 0 < kn
   ·have i0 : (0 : Int) < kn := by omega
    have hne : zbk s.data.toList = none := by
     rw [HRW.out]; unfold finT; dsimp only; rw [if_neg]
     have : kk ≠ [] := by rintro rfl; have := HKN.out; simp at this; omega
     simp [this]
    have HNE := zh hne
    clear hne
    go_wp2
    refine bodyPost_ret (v := .tuple #[.agg #[.string ⟨#[]⟩, .string ⟨#[]⟩, .int .i64 0, .int .i64 0, .slice none 0 0, .slice none 0 0, .slice none 0 0, .int .i64 0, .int .i64 0, .int .i64 0], .int .i64 2]) (by simp [results, Tryz.results7, go_sem, q0, q1, q2, q3, q4, q5, q6, q7, q8, q9, hsz2]) rfl ?_
    exact ⟨read_none HZ.out HNE.out rfl, (((((((((((HE.out.setCell (Nat.le_refl _) _).setCell (Nat.le_refl _) _).setCell (Nat.le_refl _) _).setCell (Nat.le_refl _) _).setCell (Nat.le_refl _) _).setCell (Nat.le_refl _) _).setCell (Nat.le_refl _) _).setCell (Nat.le_refl _) _).setCell (Nat.le_refl _) _).setCell (Nat.le_refl _) _).alloc (by simp [World.setCell]; omega) _)⟩
   ·have i0 : ¬ (0 : Int) < kn := by omega
    have hkn0 : kn = 0 := by omega
    subst hkn0
    have hke : kk = [] := List.eq_nil_of_length_eq_zero HKN.out
    have HBQ := zh ((Below.refl w2.heap.size w2).alloc (Nat.le_refl _) (Obj.cells #[.string a, .string b, .int .i64 z, .int .i64 m, .slice o1 k1 c1, .slice o2 k2 c2, .slice o3 k3 c3, .int .i64 (q.order : Nat), .int .i64 q.limit, .int .i64 q.offset] 29))
    have HCC := zh (HCT.out _ HBQ.out)
    go_wp2_with fail
    refine HCC.out.mono ?_
    rintro e w3 ⟨rfl, b3⟩
    have HB3 := zh (show zbb w3 w.heap.size (.string ⟨#[]⟩) (.string ⟨#[]⟩) (.int .i64 0) (.int .i64 0) (.slice none 0 0) (.slice none 0 0) (.slice none 0 0) (.int .i64 0) (.int .i64 0) (.int .i64 0) from (b3.block _ (by simp; omega)).trans ((HBQ.out.block _ hsz2).trans HB2.out))
    have HX3 := zh (show zbb w3 w2.heap.size (.string a) (.string b) (.int .i64 z) (.int .i64 m) (.slice o1 k1 c1) (.slice o2 k2 c2) (.slice o3 k3 c3) (.int .i64 (q.order : Nat)) (.int .i64 q.limit) (.int .i64 q.offset) from (b3.block _ (by simp)).trans (zaS w2 _ _ _ _ _ _ _ _ _ _))
    have HE3 := zh (HE.out.trans ((HBQ.out.trans (b3.mono (by simp))).mono HE.out.size))
    have HN3 := zh (HND.out.under (HBQ.out.trans (b3.mono (by simp))))
    clear b3 q0 q1 q2 q3 q4 q5 q6 q7 q8 q9 f0 f1 f2 f3 f4 f5 f6 f7 f8 f9
    obtain ⟨⟨q0, q1, q2, q3, q4, q5, q6, q7, q8, q9⟩, f0, f1, f2, f3, f4, f5, f6, f7, f8, f9⟩ := HB3.out.reads
    obtain ⟨⟨p0, p1, p2, p3, p4, p5, p6, p7, p8, p9⟩, g0, g1, g2, g3, g4, g5, g6, g7, g8, g9⟩ := HX3.out.reads
    by_cases hc2 : 200 < cn
    ·have i2 : (200 : Int) < cn := by omega
     have HNE := zh (show zbk s.data.toList = none by
      rw [HRW.out]; unfold finT; dsimp only; rw [if_neg]; rw [HCN2.out]; simp; omega)
     go_wp2
     refine bodyPost_ret (v := .tuple #[.agg #[.string ⟨#[]⟩, .string ⟨#[]⟩, .int .i64 0, .int .i64 0, .slice none 0 0, .slice none 0 0, .slice none 0 0, .int .i64 0, .int .i64 0, .int .i64 0], .int .i64 2]) (by simp [results, Tryz.results7, go_sem, q0, q1, q2, q3, q4, q5, q6, q7, q8, q9]) rfl ?_
     exact ⟨read_none HZ.out HNE.out rfl, ((((((((((HE3.out.setCell (Nat.le_refl _) _).setCell (Nat.le_refl _) _).setCell (Nat.le_refl _) _).setCell (Nat.le_refl _) _).setCell (Nat.le_refl _) _).setCell (Nat.le_refl _) _).setCell (Nat.le_refl _) _).setCell (Nat.le_refl _) _).setCell (Nat.le_refl _) _).setCell (Nat.le_refl _) _)⟩
    ·have i2 : ¬ (200 : Int) < cn := by omega
     have HNE := zh (show zbk s.data.toList = some q by
      rw [HRW.out]; unfold finT; dsimp only; rw [if_pos]; rw [HCN2.out, hke]; simp; omega)
     go_wp2
     refine bodyPost_ret (v := .tuple #[.agg #[.string a, .string b, .int .i64 z, .int .i64 m, .slice o1 k1 c1, .slice o2 k2 c2, .slice o3 k3 c3, .int .i64 (q.order : Nat), .int .i64 q.limit, .int .i64 q.offset], .int .i64 0]) (by simp [results, Tryz.results7, go_sem, q0, q1, q2, q3, q4, q5, q6, q7, q8, q9]) rfl ?_
     exact ⟨zgq HZ.out HNE.out ⟨_, rfl, zeC HN3.out (fun b hb => ⟨by omega, by omega⟩) _ _ _ _ _ _ _ _ _ _⟩, ((((((((((HE3.out.setCell (Nat.le_refl _) _).setCell (Nat.le_refl _) _).setCell (Nat.le_refl _) _).setCell (Nat.le_refl _) _).setCell (Nat.le_refl _) _).setCell (Nat.le_refl _) _).setCell (Nat.le_refl _) _).setCell (Nat.le_refl _) _).setCell (Nat.le_refl _) _).setCell (Nat.le_refl _) _)⟩
theorem zgr (s : ByteArray) (hs : s.size <= maxLen) (w : World) (h : Env w) :
 Calls Tryz.prog 7 #[.string s] w fun e w' => ReadEnd w s e w' /\ Below w.heap.size w w' := by
 have hE := h.below ((Below.refl w.heap.size w).alloc (Nat.le_refl _) (Obj.cells #[.string ⟨#[]⟩, .string ⟨#[]⟩, .int .i64 0, .int .i64 0, .slice none 0 0, .slice none 0 0, .slice none 0 0, .int .i64 0, .int .i64 0, .int .i64 0] 29))
 by_cases hz : 600 < s.size
 ·exact (zhm s 1 (by decide) w ((zdr s _ hE hs).mono fun e w' ⟨h1, h2⟩ => ⟨by unfold zaU at h1; rw [if_pos (by rw [<- Lib.size_eq]; exact hz)] at h1; exact h1, h2⟩)).mono fun e w' q => ⟨read_long hz q.1, q.2⟩
 ·cases hl : lexL s.data.toList with
  | none => exact (zhm s 2 (by decide) w ((zdr s _ hE hs).mono fun e w' ⟨h1, h2⟩ => ⟨by unfold zaU at h1; rw [if_neg (by rw [<- Lib.size_eq]; exact hz), hl] at h1; exact h1, h2⟩)).mono fun e w' q => ⟨read_none hz (by unfold zbk; rw [hl]) q.1, q.2⟩
  | some ws => exact read_toks s hz ws hl w h
end Go.Proofs.YtbcemjhaecelnaaGreatDoor.Par
end
end
