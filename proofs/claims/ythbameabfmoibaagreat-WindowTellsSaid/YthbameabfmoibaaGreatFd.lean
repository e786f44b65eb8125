/- Walks: a text is read as a sign. -/
import Derived.Test.YthbameabfmoibaaGreatFc
import Derived.Deep.RegionHeld3
import Derived.Deep.RegionWith
import Derived.Deep.DeepMust
import Derived.Outline
namespace Go.Proofs.YthbameabfmoibaaGreat
open Go.RowKit

/-- What has been read of runes, and what is left. -/
def ReadSt (l : List Int) (n : Nat) (f : Int) (q : Bool) (r : List Int) : Prop :=
  (n = 0 ∧ f = 0 ∧ q = false ∧ l = r) ∨ (n = 1 ∧ q = false ∧ l = f :: r) ∨ (n = 2 ∧ q = true ∧ l = f :: 61 :: r)
theorem ReadSt.done {l : List Int} {n : Nat} {f : Int} {q : Bool} (h : ReadSt l n f q []) : readF l = (f, q, reckB f q || cmpB f q) := by
  rcases h with ⟨_, rfl, rfl, rfl⟩ | ⟨_, rfl, rfl⟩ | ⟨_, rfl, rfl⟩
  · rfl
  · rfl
  · simp [readF]
theorem ReadSt.le {l : List Int} {n : Nat} {f : Int} {q : Bool} {r : List Int} (h : ReadSt l n f q r) : n ≤ 2 := by
  rcases h with ⟨h, _⟩ | ⟨h, _⟩ | ⟨h, _⟩ <;> omega
theorem ReadSt.zero {l : List Int} {f : Int} {q : Bool} {x : Int} {r : List Int} (h : ReadSt l 0 f q (x :: r)) : q = false ∧ ReadSt l 1 x false r := by
  rcases h with ⟨_, rfl, rfl, rfl⟩ | ⟨h, _⟩ | ⟨h, _⟩
  · exact ⟨rfl, .inr (.inl ⟨rfl, rfl, rfl⟩)⟩
  all_goals omega
theorem ReadSt.one {l : List Int} {f : Int} {q : Bool} {r : List Int} (h : ReadSt l 1 f q (61 :: r)) : ReadSt l 2 f true r := by
  rcases h with ⟨h, _⟩ | ⟨_, rfl, rfl⟩ | ⟨h, _⟩
  · omega
  · exact .inr (.inr ⟨rfl, rfl, rfl⟩)
  · omega
theorem ReadSt.bad {l : List Int} {n : Nat} {f : Int} {q : Bool} {x : Int} {r : List Int} (h : ReadSt l n f q (x :: r)) (h0 : n ≠ 0) (h1 : ¬ (n = 1 ∧ x = 61)) : readF l = (0, false, false) := by
  rcases h with ⟨h, _⟩ | ⟨h, _, rfl⟩ | ⟨_, _, rfl⟩
  · exact absurd h h0
  · have hx : x ≠ 61 := fun e => h1 ⟨h, e⟩
    cases r with
    | nil => simp [readF, hx]
    | cons y r => rfl
  · rfl

/-- A block of two cells: what is read of it. -/
theorem cells_two {w : World} {b : Nat} {u v : Value} {t : TypeId} (h : w.heap[b]? = some (.cells #[u, v] t (0, 0))) :
    w.cell? ⟨b, 0, none⟩ = some u ∧ w.cell? ⟨b, 1, none⟩ = some v ∧ w.frozen? ⟨b, 0, none⟩ = false ∧ w.frozen? ⟨b, 1, none⟩ = false ∧ b < w.heap.size := by
  refine ⟨by simp [World.cell?, h], by simp [World.cell?, h], by simp [World.frozen?, h], by simp [World.frozen?, h], (Array.getElem?_eq_some_iff.1 h).1⟩

/-- The two blocks of read: the answer's, and the sign's. -/
def Facts (B : Nat) (f : Int) (q : Bool) (w' : World) : Prop :=
  w'.cell? ⟨B + 1, 0, none⟩ = some (.int .i32 f) ∧ w'.cell? ⟨B + 1, 1, none⟩ = some (.bool q) ∧ w'.cell? ⟨B, 0, none⟩ = some (.int .i32 0) ∧ w'.cell? ⟨B, 1, none⟩ = some (.bool false) ∧ w'.frozen? ⟨B, 0, none⟩ = false ∧ w'.frozen? ⟨B, 1, none⟩ = false
theorem Facts.of {B : Nat} {f : Int} {q : Bool} {w' : World} (h0 : w'.heap[B]? = some (.cells #[.int .i32 0, .bool false] 146 (0, 0))) (h1 : w'.heap[B + 1]? = some (.cells #[.int .i32 f, .bool q] 146 (0, 0))) : Facts B f q w' := by
  obtain ⟨c0, c1, _, _, _⟩ := cells_two h1
  obtain ⟨d0, d1, y0, y1, _⟩ := cells_two h0
  exact ⟨c0, c1, d0, d1, y0, y1⟩
theorem keep_set {w : World} {B : Nat} {u v x y : Value} (h0 : w.cell? ⟨B + 1, 0, none⟩ = some x) (h1 : w.cell? ⟨B + 1, 1, none⟩ = some y) :
    ((w.setCell ⟨B, 0, none⟩ u).setCell ⟨B, 1, none⟩ v).cell? ⟨B + 1, 0, none⟩ = some x ∧ ((w.setCell ⟨B, 0, none⟩ u).setCell ⟨B, 1, none⟩ v).cell? ⟨B + 1, 1, none⟩ = some y := by
  have hb : ((w.setCell ⟨B, 0, none⟩ u).setCell ⟨B, 1, none⟩ v).heap[B + 1]? = w.heap[B + 1]? := (heap_setCell_other _ ⟨B, 1, none⟩ (B + 1) v (by show B + 1 ≠ B; omega)).trans (heap_setCell_other _ ⟨B, 0, none⟩ (B + 1) u (by show B + 1 ≠ B; omega))
  exact ⟨(World.cell?_of_block (a := ⟨B + 1, 0, none⟩) hb).trans h0, (World.cell?_of_block (a := ⟨B + 1, 1, none⟩) hb).trans h1⟩
theorem start0 (w : World) (o o' : Obj) (s : ByteArray) : (((w.alloc o).alloc o').iter s 0).heap[w.heap.size]? = some o := by
  show ((((w.alloc o).alloc o').alloc (.stringIter s 0)).heap[w.heap.size]?) = some o
  rw [Below.heap_alloc _ _ _ (by rw [World.size_alloc, World.size_alloc]; omega), Below.heap_alloc _ _ _ (by rw [World.size_alloc]; omega)]
  exact Array.getElem?_push_size
theorem start1 (w : World) (o o' : Obj) (s : ByteArray) : (((w.alloc o).alloc o').iter s 0).heap[w.heap.size + 1]? = some o' := by
  show ((((w.alloc o).alloc o').alloc (.stringIter s 0)).heap[w.heap.size + 1]?) = some o'
  rw [Below.heap_alloc _ _ _ (by rw [World.size_alloc, World.size_alloc]; omega), ← World.size_alloc w o]
  exact Array.getElem?_push_size
/-- What read leaves. -/
def ReadP (s : ByteArray) (B : World) (e : Ending) (w' : World) : Prop :=
  e = .returned (.tuple #[.agg #[.int .i32 (readF (spell s.data.toList)).1, .bool (readF (spell s.data.toList)).2.1], .bool (readF (spell s.data.toList)).2.2]) ∧ Below B.heap.size B w'

set_option maxHeartbeats 4000000 in
set_option maxRecDepth 100000 in
theorem read_any (s : ByteArray) (w : World) (_hs : s.size ≤ maxLen) : Calls Tryz.prog 103 #[.string s] w (ReadP s w) := by
  unfold maxLen at _hs
  go_enter Tryz.func103, Tryz.ntmps103
  go_wp2
  go_loopw [5] (fun v wr => ∃ (pos n : Nat) (f : Int) (q : Bool), wr.heap[w.heap.size]? = some (.cells #[.int .i32 0, .bool false] 146 (0, 0)) ∧ wr.heap[w.heap.size + 1]? = some (.cells #[.int .i32 f, .bool q] 146 (0, 0)) ∧ wr.heap[w.heap.size + 2]? = some (.stringIter s pos) ∧ Below w.heap.size w wr ∧ v = .int .i64 n ∧ Hid (ReadSt (spell s.data.toList) n f q (spell (s.data.toList.drop pos))) ∧ pos ≤ s.size) (fun _ wr => s.size - wr.iterPos (w.heap.size + 2))
  case atStart =>
    refine ⟨0, 0, 0, false, ?_, ?_, ?_, ?_, rfl, ?_, Nat.zero_le _⟩
    · exact start0 w _ _ s
    · exact start1 w _ _ s
    · simpa using World.iter_heap ((w.alloc (.cells #[.int .i32 0, .bool false] 146)).alloc (.cells #[.int .i32 0, .bool false] 146)) s 0
    · exact (((Below.refl _ _).alloc (Nat.le_refl _) _).alloc (by simp) _).alloc (by simp; omega) _
    · exact .inl ⟨rfl, rfl, rfl, by simp⟩
  case round =>
    obtain ⟨pos, n, f, q, hb0, hb1, hit, hbw, rfl, H, hps⟩ := hrel
    have hn := H.out.le
    have hpos0 := iterPos_of hit
    by_cases hp : pos < s.size
    · have hnx : ∀ ty, (Instr.next (.pointer (some ⟨w.heap.size + 2, 0, none⟩)) true ty).run Tryz.prog wr = _ := fun ty => Lib.run_next_any_at wr (w.heap.size + 2) s pos ty hit hp
      have hwd := width1 s pos
      have hwl := width_le hp
      have hit2 := Lib.iterAt_heap wr (w.heap.size + 2) s pos (pos + (Utf8.decode s pos).2) hit
      have hbw2 := Lib.below_iterAt hbw (k := w.heap.size + 2) (by omega) s (pos + (Utf8.decode s pos).2)
      have hb02 := (Lib.iterAt_other wr (w.heap.size + 2) w.heap.size s (pos + (Utf8.decode s pos).2) (by omega)).trans hb0
      have hb12 := (Lib.iterAt_other wr (w.heap.size + 2) (w.heap.size + 1) s (pos + (Utf8.decode s pos).2) (by omega)).trans hb1
      obtain ⟨W1, hW1⟩ : ∃ W1, W1 = wr.iterAt (w.heap.size + 2) s (pos + (Utf8.decode s pos).2) := ⟨_, rfl⟩
      rw [← hW1] at hnx hit2 hbw2 hb02 hb12
      have HS := Lib.hid (spell_at hp)
      obtain ⟨x, hx⟩ : ∃ x, ((Utf8.decode s pos).1 : Int) = x := ⟨_, rfl⟩
      rw [hx] at hnx HS
      have H2 := H.out
      rw [HS.out] at H2
      have HH := Lib.hid H2
      clear hW1 hit hbw hb0 hb1 H HS H2 hx
      obtain ⟨c0, c1, z0, z1, l1⟩ := cells_two hb12
      obtain ⟨d0, d1, y0, y1, l0⟩ := cells_two hb02
      by_cases h0 : n = 0
      · subst h0
        obtain ⟨rfl, h3⟩ := HH.out.zero
        have H3 := Lib.hid h3
        have k0 := Lib.hid ((heap_setCell_other W1 ⟨w.heap.size + 1, 0, none⟩ w.heap.size (.int .i32 x) (by show w.heap.size ≠ w.heap.size + 1; omega)).trans hb02)
        have k1 := Lib.hid (heap_setCell_same W1 (w.heap.size + 1) 0 _ 146 (.int .i32 x) hb12)
        have k2 := Lib.hid ((heap_setCell_other W1 ⟨w.heap.size + 1, 0, none⟩ (w.heap.size + 2) (.int .i32 x) (by show w.heap.size + 2 ≠ w.heap.size + 1; omega)).trans hit2)
        have k3 := Lib.hid (hbw2.setCell (p := ⟨w.heap.size + 1, 0, none⟩) (by show w.heap.size ≤ w.heap.size + 1; omega) (.int .i32 x))
        clear h3 hb02 hb12 hit2 hbw2 HH
        go_wp2
        go_roundw
        case rel => exact ⟨pos + (Utf8.decode s pos).2, 1, x, false, k0.out, k1.out, k2.out, k3.out, by go_num, H3, hwl⟩
        case measure => rw [iterPos_of k2.out, hpos0]; omega
      · by_cases h1 : n = 1 ∧ x = 61
        · obtain ⟨rfl, rfl⟩ := h1
          have H3 := Lib.hid HH.out.one
          have k0 := Lib.hid ((heap_setCell_other W1 ⟨w.heap.size + 1, 1, none⟩ w.heap.size (.bool true) (by show w.heap.size ≠ w.heap.size + 1; omega)).trans hb02)
          have k1 := Lib.hid (heap_setCell_same W1 (w.heap.size + 1) 1 _ 146 (.bool true) hb12)
          have k2 := Lib.hid ((heap_setCell_other W1 ⟨w.heap.size + 1, 1, none⟩ (w.heap.size + 2) (.bool true) (by show w.heap.size + 2 ≠ w.heap.size + 1; omega)).trans hit2)
          have k3 := Lib.hid (hbw2.setCell (p := ⟨w.heap.size + 1, 1, none⟩) (by show w.heap.size ≤ w.heap.size + 1; omega) (.bool true))
          clear hb02 hb12 hit2 hbw2 HH h0
          go_wp2
          go_roundw
          case rel => exact ⟨pos + (Utf8.decode s pos).2, 2, f, true, k0.out, k1.out, k2.out, k3.out, by go_num, H3, hwl⟩
          case measure => rw [iterPos_of k2.out, hpos0]; omega
        · have HD := Lib.hid (HH.out.bad h0 h1)
          have HB := Lib.hid hbw2
          have t0 : ((n : Int) == 0) = false := beq_eq_false_iff_ne.2 (by omega)
          cases n with
          | zero => exact absurd rfl h0
          | succ n =>
            cases n with
            | zero =>
              have t1 : (x == 61) = false := beq_eq_false_iff_ne.2 (fun e => h1 ⟨rfl, e⟩)
              clear hb02 hb12 hit2 hbw2 HH h0 h1
              go_wp2
              exact bodyPost_ret (v := .tuple #[.agg #[.int .i32 0, .bool false], .bool false]) (by simp [results, Tryz.results103, go_sem, d0, d1]) rfl ⟨by rw [HD.out], (HB.out.setCell (Nat.le_refl _) _).setCell (Nat.le_refl _) _⟩
            | succ n =>
              obtain rfl : n = 0 := by omega
              clear hb02 hb12 hit2 hbw2 HH h0 h1
              go_wp2
              exact bodyPost_ret (v := .tuple #[.agg #[.int .i32 0, .bool false], .bool false]) (by simp [results, Tryz.results103, go_sem, d0, d1]) rfl ⟨by rw [HD.out], (HB.out.setCell (Nat.le_refl _) _).setCell (Nat.le_refl _) _⟩
    · have hnx : ∀ ty, (Instr.next (.pointer (some ⟨w.heap.size + 2, 0, none⟩)) true ty).run Tryz.prog wr = _ := fun ty => Lib.run_next_end_at wr (w.heap.size + 2) s pos ty hit hp
      have H2 := H.out
      rw [spell_end hp] at H2
      have HD := Lib.hid H2.done
      clear H H2 hit
      have RD0 : ∀ W', Below wr.heap.size wr W' → Facts w.heap.size f q W' := fun W' h => Facts.of ((h.block _ (Array.getElem?_eq_some_iff.1 hb0).1).trans hb0) ((h.block _ (Array.getElem?_eq_some_iff.1 hb1).1).trans hb1)
      obtain ⟨c0, c1, d0, d1, y0, y1⟩ := RD0 wr (Below.refl _ _)
      have l0 : w.heap.size < wr.heap.size := (Array.getElem?_eq_some_iff.1 hb0).1
      have RD := Lib.hid RD0
      have HB := Lib.hid hbw
      clear hb0 hb1 hbw RD0
      cases hr : reckB f q with
      | false =>
        have HC1 := Lib.hid (fun (W' : World) (h : Hid (Below wr.heap.size wr W')) => (reckons_any f q W').mono (fun e w' k => show e = .returned (.bool false) ∧ Facts w.heap.size f q w' ∧ Hid (Below wr.heap.size wr w') from ⟨by rw [k.1, hr], RD.out _ (h.out.trans (k.2.mono h.out.size)), (h.out.trans (k.2.mono h.out.size))⟩))
        have HC2 := Lib.hid (fun (W' : World) (h : Hid (Below wr.heap.size wr W')) => (compares_any f q W').mono (fun e w' k => show e = .returned (.bool (cmpB f q)) ∧ Facts w.heap.size f q w' ∧ Hid (Below wr.heap.size wr w') from ⟨by rw [k.1], RD.out _ (h.out.trans (k.2.mono h.out.size)), (h.out.trans (k.2.mono h.out.size))⟩))
        have HR := Lib.hid hr
        have r9 := Lib.hid (show Below wr.heap.size wr wr.drew from (Below.refl _ _).drew)
        clear hr
        go_wp2_with fail
        go_region_held3 (fun w' => w'.cell? ⟨w.heap.size + 1, 0, none⟩ = some (.int .i32 f) ∧ w'.cell? ⟨w.heap.size + 1, 1, none⟩ = some (.bool q)) (first | exact ⟨t0, t1⟩ | exact ⟨s0, s1⟩ | exact ⟨c0, c1⟩ | exact keep_set t0 t1) (first | (go_at_call 107; refine (HC1.out _ r9).mono ?_; rintro e wq ⟨rfl, ⟨s0, s1, s2, s3, s4, s5⟩, s9⟩) | (go_at_call 104; refine (HC2.out _ s9).mono ?_; rintro e wt ⟨rfl, ⟨t0, t1, t2, t3, t4, t5⟩, t9⟩))
        go_wp2
        exact bodyPost_ret (v := .tuple #[.agg #[.int .i32 f, .bool q], .bool (cmpB f q)]) (by simp [results, Tryz.results103, go_sem, t2, t3]) rfl ⟨by rw [HD.out]; simp [HR.out], ((HB.out.trans (t9.out.mono HB.out.size)).setCell (Nat.le_refl _) _).setCell (Nat.le_refl _) _⟩
      | true =>
        have HC1 := Lib.hid (fun (W' : World) (h : Hid (Below wr.heap.size wr W')) => (reckons_any f q W').mono (fun e w' k => show e = .returned (.bool true) ∧ Facts w.heap.size f q w' ∧ Hid (Below wr.heap.size wr w') from ⟨by rw [k.1, hr], RD.out _ (h.out.trans (k.2.mono h.out.size)), (h.out.trans (k.2.mono h.out.size))⟩))
        have HR := Lib.hid hr
        have r9 := Lib.hid (show Below wr.heap.size wr wr.drew from (Below.refl _ _).drew)
        clear hr
        go_wp2_with fail
        refine wp_region_held_drew (S := fun w' => w'.cell? ⟨w.heap.size + 1, 0, none⟩ = some (.int .i32 f) ∧ w'.cell? ⟨w.heap.size + 1, 1, none⟩ = some (.bool q)) (by kernel_rfl) (⟨c0, c1⟩) (fun hHeld => ?_)
        refine wpAnyH_take (i := 0) (v := ?_) rfl (by kernel_rfl) (by kernel_rfl) (by kernel_rfl) (fun _ _ _ h => h) (Or.inl ⟨by kernel_rfl, by intro w hSw; (try dsimp only at hSw); obtain ⟨g0, g1⟩ := hSw; go_simp; try with_reducible rfl⟩) hHeld ?_
        go_simp
        refine wpAnyH_take (i := 1) (v := ?_) rfl (by kernel_rfl) (by kernel_rfl) (by kernel_rfl) (fun _ _ _ h => h) (Or.inl ⟨by kernel_rfl, by intro w hSw; (try dsimp only at hSw); obtain ⟨g0, g1⟩ := hSw; go_simp; try with_reducible rfl⟩) hHeld ?_
        go_simp
        refine wpAnyH_ready (rs := [2]) (by kernel_rfl) (by simp) ?_
        refine AllReadyH.cons rfl (fun K hK => ?_) AllReadyH.nil
        clear hHeld
        go_simp
        refine (HC1.out _ r9).mono ?_; rintro e wq ⟨rfl, ⟨s0, s1, s2, s3, s4, s5⟩, s9⟩
        go_simp
        refine hK.out _ _ (⟨s0, s1⟩) (fun hHeld => ?_)
        clear hK K
        refine wpAnyH_take (i := 3) (v := ?_) rfl (by kernel_rfl) (by kernel_rfl) (by kernel_rfl) (fun _ _ _ h => h) (Or.inl ⟨by kernel_rfl, by intro w _; go_simp; try with_reducible rfl⟩) hHeld ?_
        go_simp
        refine wpAnyH_take (i := 4) (v := undef) rfl (by kernel_rfl) (by kernel_rfl) (by kernel_rfl) (fun _ _ _ h => h) (Or.inr ⟨by kernel_rfl, rfl⟩) hHeld ?_
        go_simp
        refine wpAnyH_take (i := 5) (v := undef) rfl (by kernel_rfl) (by kernel_rfl) (by kernel_rfl) (fun _ _ _ h => h) (Or.inr ⟨by kernel_rfl, rfl⟩) hHeld ?_
        go_simp
        refine wpAnyH_take (i := 6) (v := ?_) rfl (by kernel_rfl) (by kernel_rfl) (by kernel_rfl) (fun _ _ _ h => h) (Or.inl ⟨by kernel_rfl, by intro w _; go_simp; try with_reducible rfl⟩) hHeld ?_
        go_simp
        refine wpAnyH_ready (rs := [7]) (by kernel_rfl) (by simp) ?_
        refine AllReadyH.cons rfl (fun K hK => ?_) AllReadyH.nil
        clear hHeld
        go_simp
        refine hK.out _ _ (keep_set s0 s1) (fun hHeld => ?_)
        clear hK K
        refine wpAnyH_take (i := 8) (v := ?_) rfl (by kernel_rfl) (by kernel_rfl) (by kernel_rfl) (fun _ _ _ h => h) (Or.inl ⟨by kernel_rfl, by intro w _; go_simp; try with_reducible rfl⟩) hHeld ?_
        go_simp
        refine wpAnyH_done (by kernel_rfl) ?_ _
        go_wp2
        exact bodyPost_ret (v := .tuple #[.agg #[.int .i32 f, .bool q], .bool true]) (by simp [results, Tryz.results103, go_sem, s2, s3]) rfl ⟨by rw [HD.out]; simp [HR.out], ((HB.out.trans (s9.out.mono HB.out.size)).setCell (Nat.le_refl _) _).setCell (Nat.le_refl _) _⟩
end Go.Proofs.YthbameabfmoibaaGreat
