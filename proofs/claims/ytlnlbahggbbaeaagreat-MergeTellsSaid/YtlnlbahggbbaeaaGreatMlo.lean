/- A first call; and the law: one list is itself. -/
import Derived.Test.YtlnlbahggbbaeaaGreatMln
import Derived.Test.YtlnlbahggbbaeaaGreatMll
namespace Go.Proofs.YtlnlbahggbbaeaaGreat.Mrg
open Go.RowKit Go.Lib Go.Proofs.YtlnlbahggbbaeaaGreat Go.Proofs.YtlnlbahggbbaeaaGreat.Vec Go.Proofs.YtlnlbahggbbaeaaGreat.Stb

def r1 : List Rw := [([], 1), ([], 4)]
def r2 : List Rw := [([], 1), ([], 2)]
theorem alive_heads : (mergeH 1 [r1, r2]).map (·.1) = [0, 1, 1, 0] := by decide
theorem alive_len : (mergeH 1 [r1, r2]).length = 4 := by
  rw [← List.length_map (f := (·.1)), alive_heads]; rfl
/-- Two rows without labels. -/
theorem rows_two {w : World} {b : Nat} {v1 v2 : Int} (h : w.heap[b]? = some (.cells #[.slice none 0 0, .int .i64 v1, .slice none 0 0, .int .i64 v2] 51 (0, 0))) : RowsS w 0 (some ⟨b, 0, none⟩) [([], v1), ([], v2)] := by
  refine .inr ⟨b, 0, rfl, (Array.getElem?_eq_some_iff.1 h).1, fun j x hx => ?_⟩
  match j, hx with
  | 0, hx =>
    cases hx
    refine ⟨_, ⟨none, 0, rfl, ⟨.inl rfl, fun h => absurd rfl h⟩, Nat.zero_le _⟩, fun i v hv => ?_⟩
    match i, hv with
    | 0, hv => cases hv; simp [World.cell?, h]
    | 1, hv => cases hv; simp [World.cell?, h]
    | i + 2, hv => simp at hv
  | 1, hx =>
    cases hx
    refine ⟨_, ⟨none, 0, rfl, ⟨.inl rfl, fun h => absurd rfl h⟩, Nat.zero_le _⟩, fun i v hv => ?_⟩
    match i, hv with
    | 0, hv => cases hv; simp [World.cell?, h]
    | 1, hv => cases hv; simp [World.cell?, h]
    | i + 2, hv => simp at hv
  | j + 2, hx => simp at hx
theorem row_cell {w : World} {N n c g i : Nat} {t : TypeId} {xs : List Value} {u : Value} (h : w.ownsRow N t 1 (.slice (some ⟨g, 0, none⟩) n c) n xs) (hx : xs[i]? = some u) : w.cell? ⟨g, i, none⟩ = some u := by
  have hi := (List.getElem?_eq_some_iff.1 hx).1
  rcases h.2 with ⟨e, _⟩ | ⟨g2, cap, cur, e, _, hh, _, _, hs, ht⟩
  · cases e
  · cases e
    rw [← ht, List.getElem?_take] at hx
    split at hx
    · simp [World.cell?, hh]
      rw [← Array.getElem?_toList, hx]
    · cases hx
theorem row_pos {w : World} {N n : Nat} {t : TypeId} {v : Value} {xs : List Value} (h : w.ownsRow N t 1 v n xs) (hn : 1 ≤ n) : ∃ g c, v = .slice (some ⟨g, 0, none⟩) n c := by
  rcases h.2 with ⟨_, e⟩ | ⟨g, cap, cur, e, _⟩
  · omega
  · exact ⟨g, cap, e⟩
theorem alive_lists (w : World) : ListS (((w.alloc (Obj.cells #[Value.slice none 0 0, Value.int IntKind.i64 1, Value.slice none 0 0, Value.int IntKind.i64 4] 51)).alloc (Obj.cells #[Value.slice none 0 0, Value.int IntKind.i64 1, Value.slice none 0 0, Value.int IntKind.i64 2] 51)).alloc (Obj.cells #[Value.slice (some { block := w.heap.size, off := 0 }) 2 2, Value.slice (some { block := w.heap.size + 1, off := 0 }) 2 2] 25)) 0 (some ⟨w.heap.size + 1 + 1, 0, none⟩) [⟨some ⟨w.heap.size, 0, none⟩, 2, r1⟩, ⟨some ⟨w.heap.size + 1, 0, none⟩, 2, r2⟩] := by
  have a1 := World.alloc_heap_new w (Obj.cells #[Value.slice none 0 0, Value.int IntKind.i64 1, Value.slice none 0 0, Value.int IntKind.i64 4] 51)
  have a2 := World.alloc_heap_new (w.alloc (Obj.cells #[Value.slice none 0 0, Value.int IntKind.i64 1, Value.slice none 0 0, Value.int IntKind.i64 4] 51)) (Obj.cells #[Value.slice none 0 0, Value.int IntKind.i64 1, Value.slice none 0 0, Value.int IntKind.i64 2] 51)
  have a3 := World.alloc_heap_new ((w.alloc (Obj.cells #[Value.slice none 0 0, Value.int IntKind.i64 1, Value.slice none 0 0, Value.int IntKind.i64 4] 51)).alloc (Obj.cells #[Value.slice none 0 0, Value.int IntKind.i64 1, Value.slice none 0 0, Value.int IntKind.i64 2] 51)) (Obj.cells #[Value.slice (some { block := w.heap.size, off := 0 }) 2 2, Value.slice (some { block := w.heap.size + 1, off := 0 }) 2 2] 25)
  rw [← Below.heap_alloc _ (Obj.cells #[Value.slice none 0 0, Value.int IntKind.i64 1, Value.slice none 0 0, Value.int IntKind.i64 2] 51) _ (by simp), ← Below.heap_alloc _ (Obj.cells #[Value.slice (some { block := w.heap.size, off := 0 }) 2 2, Value.slice (some { block := w.heap.size + 1, off := 0 }) 2 2] 25) _ (by simp; omega)] at a1
  rw [← Below.heap_alloc _ (Obj.cells #[Value.slice (some { block := w.heap.size, off := 0 }) 2 2, Value.slice (some { block := w.heap.size + 1, off := 0 }) 2 2] 25) _ (by simp)] at a2
  rw [World.size_alloc] at a2
  rw [World.size_alloc, World.size_alloc] at a3
  generalize ((w.alloc (Obj.cells #[Value.slice none 0 0, Value.int IntKind.i64 1, Value.slice none 0 0, Value.int IntKind.i64 4] 51)).alloc (Obj.cells #[Value.slice none 0 0, Value.int IntKind.i64 1, Value.slice none 0 0, Value.int IntKind.i64 2] 51)).alloc (Obj.cells #[Value.slice (some { block := w.heap.size, off := 0 }) 2 2, Value.slice (some { block := w.heap.size + 1, off := 0 }) 2 2] 25) = W at a1 a2 a3 ⊢
  refine .inr ⟨_, 0, rfl, (Array.getElem?_eq_some_iff.1 a3).1, fun j m hm => ?_⟩
  match j, hm with
  | 0, hm =>
    cases hm
    exact ⟨by simp [World.cell?, a3, r1], ⟨Nat.le_refl 2, (show 2 ≤ 100000 by omega), rows_two a1⟩⟩
  | 1, hm =>
    cases hm
    exact ⟨by simp [World.cell?, a3, r2], ⟨Nat.le_refl 2, (show 2 ≤ 100000 by omega), rows_two a2⟩⟩
  | j + 2, hm => simp at hm

set_option maxHeartbeats 4000000 in
set_option maxRecDepth 100000 in
theorem alive_any (w : World) : Calls Tryz.prog 5 #[] w fun e w' => e = .returned (.bool true) ∧ Below w.heap.size w w' := by
  have hl := alive_lists w
  have hb0 := (((Below.refl w.heap.size w).alloc (Nat.le_refl _) (Obj.cells #[Value.slice none 0 0, Value.int IntKind.i64 1, Value.slice none 0 0, Value.int IntKind.i64 4] 51)).alloc (by simp) (Obj.cells #[Value.slice none 0 0, Value.int IntKind.i64 1, Value.slice none 0 0, Value.int IntKind.i64 2] 51)).alloc (by simp; omega) (Obj.cells #[Value.slice (some { block := w.heap.size, off := 0 }) 2 2, Value.slice (some { block := w.heap.size + 1, off := 0 }) 2 2] 25)
  obtain ⟨W, hW⟩ : ∃ W, ((w.alloc (Obj.cells #[Value.slice none 0 0, Value.int IntKind.i64 1, Value.slice none 0 0, Value.int IntKind.i64 4] 51)).alloc (Obj.cells #[Value.slice none 0 0, Value.int IntKind.i64 1, Value.slice none 0 0, Value.int IntKind.i64 2] 51)).alloc (Obj.cells #[Value.slice (some { block := w.heap.size, off := 0 }) 2 2, Value.slice (some { block := w.heap.size + 1, off := 0 }) 2 2] 25) = W := ⟨_, rfl⟩
  rw [hW] at hl hb0
  have HH := Lib.hid (heads_list 1 (some ⟨w.heap.size + 1 + 1, 0, none⟩) 2 2 0 _ W rfl (by decide) hl (by show (mergeH 1 [r1, r2]).length ≤ 100000; rw [alive_len]; decide))
  have HW := Lib.hid hW
  have HB := Lib.hid hb0
  clear hl hW hb0
  go_enter Tryz.func5, Tryz.ntmps5
  go_wp2_with fail
  rw [HW.out]
  refine HH.out.mono ?_
  rintro e w1 ⟨⟨v, rfl, ho⟩, b1⟩
  have HB1 := Lib.hid (HB.out.trans (b1.mono HB.out.size))
  rw [show lsx [⟨some ⟨w.heap.size, 0, none⟩, 2, r1⟩, ⟨some ⟨w.heap.size + 1, 0, none⟩, 2, r2⟩] = [r1, r2] from rfl, alive_len] at ho
  obtain ⟨g, c, rfl⟩ := row_pos ho (by decide)
  have hx : (mergeH 1 [r1, r2]).map (fun p => Value.int .i64 (p.1 : Nat)) = [.int .i64 0, .int .i64 1, .int .i64 1, .int .i64 0] := by
    have := congrArg (List.map fun k : Nat => Value.int .i64 (k : Nat)) alive_heads
    rw [List.map_map] at this
    exact this
  rw [hx] at ho
  have k0 := row_cell ho (i := 0) rfl
  have k1 := row_cell ho (i := 1) rfl
  have k2 := row_cell ho (i := 2) rfl
  have k3 := row_cell ho (i := 3) rfl
  clear ho hx b1 HH
  go_wp2
  go_ret
  exact ⟨rfl, HB1.out⟩
end Go.Proofs.YtlnlbahggbbaeaaGreat.Mrg
