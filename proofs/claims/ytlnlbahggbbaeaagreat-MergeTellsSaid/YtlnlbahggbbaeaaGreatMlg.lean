/- A tree of however many lists, none too: what the iterator over it owes. -/
import Derived.Test.YtlnlbahggbbaeaaGreatMlf
namespace Go.Proofs.YtlnlbahggbbaeaaGreat.Mrg
open Go.RowKit Go.Lib Go.Shelf Go.Proofs.YtlnlbahggbbaeaaGreat Go.Proofs.YtlnlbahggbbaeaaGreat.Vec Go.Proofs.YtlnlbahggbbaeaaGreat.Stb

theorem heads_any (tb : Nat) (w : World) : Calls Tryz.prog 22 #[.pointer (some ⟨tb, 0, none⟩)] w fun e w' => e = .returned (.func (.func 72) #[] #[.pointer (some ⟨w.heap.size, 0, none⟩)]) ∧ w' = w.alloc (.cells #[.pointer (some ⟨tb, 0, none⟩)] 57) := by
  go_enter Tryz.func22, Tryz.ntmps22
  go_wp2
  go_ret
  exact ⟨rfl, rfl⟩
/-- What comes, of several lists. -/
def mergeH (by_ : Int) (ls : List (List Rw)) : List (Nat × Rw) := mergeN (lessR by_) ls.flatten.length ls

theorem start_heap (w : World) (by_ : Int) :
    (((w.alloc (.cells (madeCells #[.int .i64 0] 0) 3)).alloc (.cells #[.int .i64 by_, .slice none 0 0, .slice (some ⟨w.heap.size, 0, none⟩) 0 0] 87)).alloc (.cells (madeCells #[.int .i64 0] 0) 3)).cell? ⟨w.heap.size + 1, 1, none⟩ = some (.slice none 0 0) := by
  have h : (((w.alloc (.cells (madeCells #[.int .i64 0] 0) 3)).alloc (.cells #[.int .i64 by_, .slice none 0 0, .slice (some ⟨w.heap.size, 0, none⟩) 0 0] 87)).alloc (.cells (madeCells #[.int .i64 0] 0) 3)).heap[w.heap.size + 1]? = some (.cells #[.int .i64 by_, .slice none 0 0, .slice (some ⟨w.heap.size, 0, none⟩) 0 0] 87 (0, 0)) := by
    rw [Below.heap_alloc _ _ _ (by simp)]
    have e := World.alloc_heap_new (w.alloc (.cells (madeCells #[.int .i64 0] 0) 3)) (.cells #[.int .i64 by_, .slice none 0 0, .slice (some ⟨w.heap.size, 0, none⟩) 0 0] 87)
    rw [World.size_alloc] at e; exact e
  generalize ((w.alloc (.cells (madeCells #[.int .i64 0] 0) 3)).alloc (.cells #[.int .i64 by_, .slice none 0 0, .slice (some ⟨w.heap.size, 0, none⟩) 0 0] 87)).alloc (.cells (madeCells #[.int .i64 0] 0) 3) = W at h ⊢
  simp [World.cell?, h]

set_option maxHeartbeats 2000000 in
set_option maxRecDepth 100000 in
theorem newTree_none (by_ : Int) (o : Option Addr) (cp : Nat) (w : World) :
    Calls Tryz.prog 21 #[.int .i64 by_, .slice o 0 cp] w fun e w' => e = .returned (.pointer (some ⟨w.heap.size + 1, 0, none⟩)) ∧ w'.cell? ⟨w.heap.size + 1, 1, none⟩ = some (.slice none 0 0) ∧ w.heap.size + 1 < w'.heap.size ∧ Below w.heap.size w w' := by
  obtain ⟨i0, hi, hz0, hz1, hz2⟩ := info_parts infoInt
  have HB := Lib.hid ((((Below.refl w.heap.size w).alloc (Nat.le_refl _) (.cells (madeCells #[.int .i64 0] 0) 3)).alloc (by simp) (.cells #[.int .i64 by_, .slice none 0 0, .slice (some ⟨w.heap.size, 0, none⟩) 0 0] 87)).alloc (by simp; omega) (.cells (madeCells #[.int .i64 0] 0) 3))
  have HT := Lib.hid (start_heap w by_)
  go_enter Tryz.func21, Tryz.ntmps21
  go_wp2_with (first | (at_make; refine wpList_make_row _ rfl _ _ 40 rfl 3 i0 (.int .i64 0) Tryz.underlying40 hi hz0 hz1 rfl .i64 .i64 0 rfl rfl (by rw [hz2]; omega) (by omega) ?_) | fail)
  go_loopw [23] (fun v23 wr => v23 = .int .i64 0 ∧ Hid (wr = ((w.alloc (.cells (madeCells #[.int .i64 0] 0) 3)).alloc (.cells #[.int .i64 by_, .slice none 0 0, .slice (some ⟨w.heap.size, 0, none⟩) 0 0] 87)).alloc (.cells (madeCells #[.int .i64 0] 0) 3))) (fun _ _ => 0)
  case atStart => exact ⟨rfl, rfl⟩
  case round =>
    obtain ⟨rfl, hw⟩ := hrel
    go_wp2
    go_loopw [10] (fun v10 wr2 => v10 = .int .i64 (-1) ∧ Hid (wr2 = wr)) (fun _ _ => 0)
    case atStart => exact ⟨by rfl, rfl⟩
    case round =>
      obtain ⟨rfl, hw2⟩ := hrel
      go_wp2
      go_ret
      have e := hw2.out.trans hw.out
      rw [e]
      exact ⟨rfl, HT.out, by simp, HB.out⟩

/-- What the iterator over a tree owes, whatever lists it is made of. -/
structure SeqF (w0 : World) (B : Nat) (by_ : Int) (ms : List Ls) (w w1 : World) (tb : Nat) (T : Nat → Prop) : Prop where
  tb0 : w.heap.size ≤ tb
  tb1 : tb < w1.heap.size
  own : ∀ r, T r → w.heap.size ≤ r ∧ r < w1.heap.size
  seq : ∀ (ra Bt : Nat) (W3 : World), Below w1.heap.size w1 W3 → W3.cell? ⟨Bt, 0, none⟩ = some (.pointer (some ⟨tb, 0, none⟩)) → w1.heap.size ≤ Bt → Bt < W3.heap.size → w0.heap.size ≤ ra → ra < w.heap.size →
    SeqT Fence.wide 5 Tryz.prog 72 #[.pointer (some ⟨Bt, 0, none⟩)] (VH w0 B (mergeH by_ (lsx ms))) (Turns (fun r => r = ra ∨ W3.heap.size ≤ r)) T (mergeH by_ (lsx ms)).length W3

set_option maxHeartbeats 2000000 in
set_option maxRecDepth 100000 in
theorem heads_stops0 (Bt tb : Nat) (V : Nat → Array Value → World → Prop) (Kp : World → World → Prop) (w : World) (hBt : w.cell? ⟨Bt, 0, none⟩ = some (.pointer (some ⟨tb, 0, none⟩))) (hc : w.cell? ⟨tb, 1, none⟩ = some (.slice none 0 0)) (hl : Bt < w.heap.size ∧ tb < w.heap.size) :
    SeqT Fence.wide 5 Tryz.prog 72 #[.pointer (some ⟨Bt, 0, none⟩)] V Kp (fun _ => False) 0 w := by
  intro l J W hW _ _ h0
  have c0 : W.cell? ⟨Bt, 0, none⟩ = some (.pointer (some ⟨tb, 0, none⟩)) := (hW.cell (p := ⟨Bt, 0, none⟩) hl.1).trans hBt
  have c1 : W.cell? ⟨tb, 1, none⟩ = some (.slice none 0 0) := (hW.cell (p := ⟨tb, 1, none⟩) hl.2).trans hc
  refine callsIn_of_wp Tryz.func72 rfl trivial ?_ rfl
  simp only [Tryz.ntmps72, List.size_toArray, List.length_cons, List.length_nil, Nat.reduceAdd, Nat.reduceSub, Array.replicate_succ, Array.replicate_zero, List.push_toArray, List.append_toArray, List.nil_append, List.cons_append]
  gi_wp2
  gi_loopw [3] (fun _ wr => wr = W) (fun _ _ => 0)
  case atStart => rfl
  case round =>
    subst hrel
    gi_wp2
    go_end0
    exact ⟨⟨_, rfl⟩, h0⟩

theorem tree_seq (by_ : Int) (o : Option Addr) (n cp B : Nat) (ms : List Ls) (w0 w : World) (hn : ms.length = n) (h2 : n ≤ 1000) (hS : ListS w0 B o ms) (hb : Below w0.heap.size w0 w) :
    Calls Tryz.prog 21 #[.int .i64 by_, .slice o n cp] w fun e w1 => ∃ (tb : Nat) (T : Nat → Prop), e = .returned (.pointer (some ⟨tb, 0, none⟩)) ∧ SeqF w0 B by_ ms w w1 tb T ∧ Below w.heap.size w w1 := by
  by_cases h1 : 1 ≤ n
  · refine (newTree_any by_ o n cp B ms w hn h1 h2 (hS.below hb)).mono ?_
    rintro e w1 ⟨tb, rfl, ⟨bl, bo, cl, los, W, hm, ht, hbl, hbo⟩, htb, hb1⟩
    have z1 := hm.leafLt
    have z2 := hm.los.lt
    have z3 := hm.lt
    have z4 := hb.size
    refine ⟨tb, fun r => r = bl ∨ r = bo, rfl, ⟨htb, z3, fun r hr => by rcases hr with hr | hr <;> omega, fun ra Bt W3 hb3 hBt g1 g2 g3 g4 => ?_⟩, hb1⟩
    exact heads_stops 5 (by decide) (ra := ra) (Bt := Bt) (w0 := w0) (hm.below hb3) ht h1 h2 hS.all ((hb.trans (hb1.mono z4)).trans (hb3.mono (by omega))) (by omega) hBt (by omega) (by omega)
  · have hn0 : n = 0 := by omega
    subst hn0
    have hms : ms = [] := List.eq_nil_of_length_eq_zero hn
    subst hms
    refine (newTree_none by_ o cp w).mono ?_
    rintro e w1 ⟨rfl, hc, hz, hb1⟩
    refine ⟨w.heap.size + 1, fun _ => False, rfl, ⟨by omega, hz, fun r hr => hr.elim, fun ra Bt W3 hb3 hBt g1 g2 g3 g4 => ?_⟩, hb1⟩
    exact heads_stops0 Bt (w.heap.size + 1) _ _ W3 hBt ((hb3.cell (p := ⟨w.heap.size + 1, 1, none⟩) hz).trans hc) ⟨g2, Nat.lt_of_lt_of_le hz hb3.size⟩
end Go.Proofs.YtlnlbahggbbaeaaGreat.Mrg
