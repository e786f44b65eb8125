/- Vectors: rows lent with a mark behind them; a book of rows as a law takes it. -/
import Derived.Test.YtlnlbahggbbaeaaGreatGk
import Derived.Test.YtlnlbahggbbaeaaGreatKr
namespace Go.Proofs.YtlnlbahggbbaeaaGreat.Vec
open Go.RowKit
open Go.Proofs.YtlnlbahggbbaeaaGreat.BkR (El Means Booked encE flatE)

/-- Rows lent: the rows, and a mark behind them. -/
structure LentR (w : World) (B g cap : Nat) (ms : List Rw) : Prop where
  low : g < w.heap.size
  room : ms.length + 1 ≤ cap
  big : cap ≤ maxLen
  rows : RowsS w B (some ⟨g, 0, none⟩) ms
  mark : w.cell? ⟨g, ms.length * 2 + 1, none⟩ = some (.int .i64 (-77))
theorem LentR.below {w w' : World} {B g cap : Nat} {ms : List Rw} (h : LentR w B g cap ms) (hb : Below w.heap.size w w') : LentR w' B g cap ms :=
  ⟨Nat.lt_of_lt_of_le h.low hb.size, h.room, h.big, h.rows.below frow hb, (hb.cell (p := ⟨g, ms.length * 2 + 1, none⟩) h.low).trans h.mark⟩
theorem lent_own {w3 : World} {B C n : Nat} {v' : Value} {ys : List El} {ms : List Rw} (hn : ys.length = n) (hM : Means B w3 ys ms) (h : w3.ownsRow C 51 2 v' (n + 1) (flatE ys ++ [.slice none 0 0, .int .i64 (-77)])) : ∃ g cap, v' = .slice (some ⟨g, 0, none⟩) (n + 1) cap ∧ (n : Int) ≤ cap ∧ LentR w3 B g cap ms := by
  have e1 : flatE ys ++ [Value.slice none 0 0, .int .i64 (-77)] = flatE (ys ++ [((none, 0, 0), -77)]) := by rw [BkR.flatE_append]; rfl
  have hml : ms.length = n := by rw [← hM.len, hn]
  rcases BkR.own_open h with ⟨_, h0, _⟩ | ⟨g, cap, rfl, _, hlt, hcap, hbig, hc⟩
  · omega
  · refine ⟨g, cap, rfl, by omega, hlt, by rw [hml]; exact hcap, hbig, ?_, ?_⟩
    · by_cases h0 : ms = []
      · exact .inl h0
      · refine .inr ⟨g, 0, rfl, hlt, fun j m hm => ?_⟩
        have hj : j < ys.length := by rw [hM.len]; exact (List.getElem?_eq_some_iff.1 hm).1
        have hy := List.getElem?_eq_getElem hj
        refine ⟨encE (ys[j]), hM.one j _ m hy hm, fun i u hu => ?_⟩
        rw [Nat.zero_add]
        refine hc _ _ ?_
        rw [e1]
        exact BkR.flatE_at _ j _ (by rw [List.getElem?_append_left hj]; exact hy) i u hu
    · have := hc (n * 2 + 1) (.int .i64 (-77)) (by rw [e1]; exact BkR.flatE_at _ n ((none, 0, 0), -77) (by rw [← hn]; simp) 1 _ rfl)
      rw [hml]; exact this

set_option maxHeartbeats 4000000 in
set_option maxRecDepth 100000 in
theorem lentR_any (o : Option Addr) (n c : Nat) (ms : List Rw) (B : Nat) (w : World) (hB : B ≤ w.heap.size) (hn : ms.length = n) (hm : n ≤ 1000000) (hl : SmR ms) (hS : RowsS w B o ms) :
    Calls Tryz.prog 6 #[.slice o n c] w fun e w' => (∃ g c', e = .returned (.slice (some ⟨g, 0, none⟩) n c') ∧ LentR w' B g c' ms) ∧ Below w.heap.size w w' := by
  have HC := Lib.hid (BkR.copyRows_any o n c ms B w hB hn hm (fun m hm => by have := (hl m hm).len; omega) hS)
  obtain ⟨i0, hi, hz0, hz1, hz2⟩ := info_parts infoRow
  have HWB := Lib.hid hB
  clear hS hn hl hB
  go_enter Tryz.func6, Tryz.ntmps6
  go_wp2_with fail
  refine HC.out.mono ?_
  rintro e w1 ⟨⟨v, ys, rfl, hyl, ho, hM⟩, b1⟩
  have hz := b1.size
  have HB1 := Lib.hid b1
  have HM1 := Lib.hid hM
  have HLT := Lib.hid (fun g hg => ho.lt g hg)
  have HYL := Lib.hid hyl
  have hoA := ho.alloc (Obj.cells #[.slice none 0 0, .int .i64 (-77)] 51)
  clear b1 hM ho HC hyl
  go_wp2_with (at_builtin; go_must (refine wpList_append_own _ rfl _ _ 25 rfl w.heap.size 51 i0 (.agg #[.slice none 0 0, .int .i64 0]) 2 32 Tryz.underlying25 hi hz0 hz1 hz2 rfl (by decide) v n (flatE ys) rfl hoA ⟨w1.heap.size, 0, none⟩ 1 1 [.slice none 0 0, .int .i64 (-77)] rfl rfl (cells_k _ _ _) (by intro v hv; simp at hv; rcases hv with rfl | rfl <;> rfl) (by unfold maxLen; omega) (by omega) (by simp; omega) ?_); intro v' w3 hown' hgrow3 hnil3; obtain ⟨g, cap', rfl, q1, F⟩ := lent_own (ms := ms) HYL.out ((HM1.out.alloc _).grown neRow (fun g hg => by have h9 := own_row hoA g hg; exact ⟨Nat.le_trans HWB.out h9.1, h9.2⟩) hgrow3) hown'; have HG := Lib.hid hgrow3; clear hown' hgrow3 hnil3)
  have HB3 := Lib.hid (Below.grown (HB1.out.alloc hz _) HG.out (by simp; omega) (fun j hj => (HLT.out j hj).1) : Below w.heap.size w w3)
  have HF := Lib.hid F
  clear F
  go_ret
  exact ⟨⟨g, cap', rfl, HF.out⟩, HB3.out⟩

set_option maxHeartbeats 2000000 in
set_option maxRecDepth 100000 in
theorem staysR_any (g c : Nat) (o : Option Addr) (n cap : Nat) (ms : List Rw) (B : Nat) (w : World) (hn : ms.length = n) (hx : n ≤ 1000000) (hL : LentR w B g c ms) (hS : RowsS w B o ms) :
    Calls Tryz.prog 17 #[.slice (some ⟨g, 0, none⟩) n c, .slice o n cap] w fun e w' => e = .returned (.bool true) ∧ Below w.heap.size w w' := by
  have HC := Lib.hid (show Calls Tryz.prog 11 #[.slice (some ⟨g, 0, none⟩) n c, .slice o n cap] w fun e w' => e = .returned (.bool true) ∧ Below w.heap.size w w' from by
    subst hn
    have := sameRows_any (some ⟨g, 0, none⟩) o c cap ms ms w (by unfold maxLen; omega) (by unfold maxLen; omega) B hL.rows hS
    rw [sameR_refl] at this; exact this)
  have HM := Lib.hid (fun W (hb : Below w.heap.size w W) => (hL.below hb).mark)
  have q1 := hL.room
  have q2 := hL.big
  rw [hn] at q1 HM
  unfold maxLen at q2
  clear hL hS hn
  go_enter Tryz.func17, Tryz.ntmps17
  go_wp2_with fail
  refine HC.out.mono ?_
  rintro e w1 ⟨rfl, b1⟩
  have hm := HM.out _ b1
  have HB := Lib.hid b1
  clear b1
  go_wp2
  go_ret
  exact ⟨by simp, HB.out⟩

/-- A list of the call's own that a book may keep. -/
structure ListR (B s : Nat) (w : World) (v : Value) (r : List Rw) : Prop where
  ex : ∃ xs : List El, w.ownsRow s 51 2 v xs.length (flatE xs) ∧ Means B w xs r
theorem raw_of : ∀ us : List (List Value), (∀ u ∈ us, ∃ x : El, u = encE x) → ∃ raw : List El, us = raw.map encE
  | [], _ => ⟨[], rfl⟩
  | u :: us, h => by
    obtain ⟨raw, e⟩ := raw_of us fun u hu => h u (List.mem_cons_of_mem _ hu)
    obtain ⟨x, ex⟩ := h u List.mem_cons_self
    exact ⟨x :: raw, by rw [List.map_cons, ← e, ← ex]⟩
theorem ListR.of {B BE s : Nat} {w : World} {v : Value} {us : List (List Value)} {r : List Rw} (hBE : BE ≤ B) (h : OwnG (ERow BE) 2 51 w s v us r) : ListR B s w v r := by
  have he : ∀ u ∈ us, ∃ x : El, u = encE x := fun u hu => by
    obtain ⟨j, hj, e⟩ := List.getElem_of_mem hu
    have hjr : j < r.length := by rw [← h.len]; exact hj
    obtain ⟨u', hu', o, c, rfl, _⟩ := h.one j (r[j]) (List.getElem?_eq_getElem hjr)
    rw [List.getElem?_eq_getElem hj, e] at hu'
    exact ⟨((o, (r[j]).1.length, c), (r[j]).2), Option.some.inj hu'⟩
  obtain ⟨raw, rfl⟩ := raw_of us he
  have hl : raw.length = (raw.map encE).length := by rw [List.length_map]
  refine ⟨raw, ?_, by rw [hl]; exact h.len, fun j x m hx hm => ?_⟩
  · have h9 := h.own
    rw [← hl] at h9
    exact h9
  · obtain ⟨u, hu, hE⟩ := h.one j m hm
    rw [List.getElem?_map, hx] at hu
    cases hu
    exact hE.mono hBE
theorem ListR.below {B s : Nat} {w w' : World} {v : Value} {r : List Rw} (h : ListR B s w v r) (hb : Below w.heap.size w w') : ListR B s w' v r := by
  obtain ⟨xs, h1, h2⟩ := h
  exact ⟨xs, BkR.own_grown h1 hb, h2.below hb⟩
theorem ListR.raise {B s s' : Nat} {w : World} {v : Value} {r : List Rw} (h : ListR B s w v r) (hs : ∀ b, v.ownBlock = some b → s' ≤ b) : ListR B s' w v r := by
  obtain ⟨xs, h1, h2⟩ := h
  exact ⟨xs, ⟨h1.1, h1.2.imp id fun ⟨g, cap, cur, e1, e2, e3⟩ => ⟨g, cap, cur, e1, hs g (by rw [e1]; rfl), e3⟩⟩, h2⟩
theorem ListR.low {B s s' : Nat} {w : World} {v : Value} {r : List Rw} (h : ListR B s w v r) (hs : s' ≤ s) : ListR B s' w v r := by
  obtain ⟨xs, h1, h2⟩ := h
  exact ⟨xs, BkR.own_mono h1 hs, h2⟩
theorem ListR.sees {B s : Nat} {w : World} {v : Value} {r : List Rw} (h : ListR B s w v r) : ∃ o c, v = .slice o r.length c ∧ RowsS w B o r := by
  obtain ⟨xs, h1, h2⟩ := h
  obtain ⟨o, c, e, hs, _⟩ := (h2.own h1).sees (frow (B := B))
  exact ⟨o, c, e, hs⟩
theorem ListR.lt {B s : Nat} {w : World} {v : Value} {r : List Rw} (h : ListR B s w v r) : ∀ b, v.ownBlock = some b → s ≤ b ∧ b < w.heap.size := by
  obtain ⟨xs, h1, _⟩ := h
  exact h1.lt

theorem heap_at_alloc (w : World) (o : Obj) : (w.alloc o).heap[w.heap.size]? = some o := by
  show (w.heap.push o)[w.heap.size]? = some o
  exact Array.getElem?_push_size
/-- The book: so many lists in it, all of them in cells below a bound. -/
def BkS (B s : Nat) (w : World) (q : Nat) : Prop := ∃ L L', Booked B B B w L L' ∧ L.length = q ∧ ∀ p ∈ L, ∀ b, p.1.ownBlock = some b → b < s
theorem bk_start (w : World) : BkS w.heap.size w.heap.size (w.alloc (.cells #[.slice none 0 0, .slice none 0 0, .slice none 0 0, .slice none 0 0, .slice none 0 0, .slice none 0 0, .slice none 0 0, .slice none 0 0, .slice none 0 0, .slice none 0 0, .slice none 0 0, .slice none 0 0, .slice none 0 0, .slice none 0 0, .slice none 0 0, .slice none 0 0, .slice none 0 0, .slice none 0 0, .slice none 0 0, .slice none 0 0] 38)) 0 := by
  have hK : ∀ W : World, BkR.Kept w.heap.size W (.slice none 0 0) [] := fun W => ⟨World.ownsRow_nil _ _ _ _, fun i v xs h => by simp at h, fun i j p q _ h => by simp at h, by simp⟩
  have hrep : (#[.slice none 0 0, .slice none 0 0, .slice none 0 0, .slice none 0 0, .slice none 0 0, .slice none 0 0, .slice none 0 0, .slice none 0 0, .slice none 0 0, .slice none 0 0, .slice none 0 0, .slice none 0 0, .slice none 0 0, .slice none 0 0, .slice none 0 0, .slice none 0 0, .slice none 0 0, .slice none 0 0, .slice none 0 0, .slice none 0 0] : Array Value) = Array.replicate 20 (.slice none 0 0) := rfl
  rw [hrep]
  have hat : ∀ i, i < 20 → (Array.replicate 20 (Value.slice none 0 0))[i]? = some (.slice none 0 0) := fun i hi => by rw [Array.getElem?_replicate, if_pos hi]
  exact ⟨[], [], ⟨⟨_, .slice none 0 0, .slice none 0 0, heap_at_alloc _ _, Array.size_replicate, hat 16 (by decide), hat 17 (by decide), fun i hi _ _ => hat i hi, hK _, hK _, .inl rfl⟩, rfl, fun i v xs v' xs' h => by simp at h⟩, rfl, fun p hp => by simp at hp⟩
theorem booked_below {BM B bk : Nat} {w w' : World} {L L' : List (Value × List El)} (h : Booked BM B bk w L L') (hb : Below w.heap.size w w') : Booked BM B bk w' L L' := by
  obtain ⟨⟨cs, R, R', hbk, hcs, h4, h5, hno, hK, hK', hne⟩, hs, hm⟩ := h
  exact ⟨⟨cs, R, R', (hb.block bk (Array.getElem?_eq_some_iff.1 hbk).1).trans hbk, hcs, h4, h5, hno, hK.below hb, hK'.below hb, hne⟩, hs, fun i v xs v' xs' h1 h2 => (hm i v xs v' xs' h1 h2).imp fun ms h => ⟨h.1.below hb, h.2.below hb⟩⟩
theorem BkS.below {B s q : Nat} {w w' : World} (h : BkS B s w q) (hb : Below w.heap.size w w') : BkS B s w' q := by
  obtain ⟨L, L', h1, h2, h3⟩ := h
  exact ⟨L, L', booked_below h1 hb, h2, h3⟩
theorem BkS.up {B s s2 q : Nat} {w : World} (h : BkS B s w q) (hs : s ≤ s2) : BkS B s2 w q := by
  obtain ⟨L, L', h1, h2, h3⟩ := h
  exact ⟨L, L', h1, h2, fun p hp b e => Nat.lt_of_lt_of_le (h3 p hp b e) hs⟩
/-- One more list in the book. -/
theorem book_keep {B s s2 q : Nat} {w : World} {v : Value} {r : List Rw} (h : BkS B s w q) (hB : B ≤ w.heap.size) (hBs : B ≤ s) (hv : ListR B s w v r) (hx : r.length ≤ 100000) (hl : SmR r) (hq : q < 250) (hs : s ≤ s2) (hv2 : ∀ b, v.ownBlock = some b → b < s2) :
    Calls Tryz.prog 9 #[.pointer (some ⟨B, 0, none⟩), v] w fun e w' => e = .returned (.tuple #[]) ∧ BkS B s2 w' (q + 1) ∧ Below B w w' ∧ ∀ (t : Nat) (y : Value) (z : List Rw), B ≤ t → ListR B t w y z → ListR B B w' y z := by
  obtain ⟨L, L', h1, h2, h3⟩ := h
  obtain ⟨xs, hown, hM⟩ := hv
  refine (BkR.keep_any B B L L' v xs w hB (Nat.le_refl _) B r (Nat.le_refl _) hM (fun m hm => by have := (hl m hm).len; omega) h1 (BkR.own_mono hown hBs) (by rw [hM.len]; exact hx) (by omega) (fun i p hp => ?_)).mono ?_
  · have hd : ∀ bp bv, p.1.ownBlock = some bp → v.ownBlock = some bv → bp ≠ bv := fun bp bv e1 e2 => by
      have a := h3 p (List.mem_of_getElem? hp) bp e1
      have b := (hown.lt bv e2).1
      omega
    constructor
    · cases e1 : p.1.ownBlock with
      | none => exact .inl rfl
      | some bp => exact .inr fun e => hd bp bp e1 e.symm rfl
    · cases e2 : v.ownBlock with
      | none => exact .inl rfl
      | some bv => exact .inr fun e => hd bv bv e.symm e2 rfl
  · rintro e w' ⟨rfl, ⟨u, ys, hk⟩, hb, hf⟩
    refine ⟨rfl, ⟨_, _, hk, by rw [List.length_append, h2]; rfl, fun p hp b e => ?_⟩, hb, fun t y z ht hy => ?_⟩
    · rcases List.mem_append.1 hp with hp | hp
      · exact Nat.lt_of_lt_of_le (h3 p hp b e) hs
      · rw [List.mem_singleton.1 hp] at e; exact hv2 b e
    · obtain ⟨zs, g1, g2⟩ := hy
      have := hf zs.length y (flatE zs)
      exact ⟨zs, this.1 (BkR.own_mono g1 ht), this.2 zs z g2⟩
theorem touch_below {B : Nat} {w0 w w' : World} {V : List Value} (h : Below B w0 w) (ht : BkR.Touch V w w') (hV : ∀ v ∈ V, v.ownBlock = none ∨ ∃ b, v.ownBlock = some b ∧ B ≤ b) (hB : B ≤ w0.heap.size) : Below B w0 w' :=
  ⟨ht.os.trans h.os, ht.tape.trans h.tape, ht.output.trans h.output, Nat.le_trans h.size ht.size, fun k hk => by
    rw [ht.block k (by have := h.size; omega) ?_]
    · exact h.block k hk
    · intro v hv
      rcases hV v hv with e | ⟨b, e, hb⟩
      · rw [e]; exact fun e => by cases e
      · rw [e]; intro e2; have := Option.some.inj e2; omega⟩
theorem book_apart {B s q : Nat} {w0 w : World} (h : BkS B s w q) (hb : Below B w0 w) (hB : B ≤ w0.heap.size) :
    Calls Tryz.prog 18 #[.pointer (some ⟨B, 0, none⟩)] w fun e w' => e = .returned (.bool true) ∧ Below B w0 w' := by
  obtain ⟨L, L', ⟨⟨cs, R, R', hbk, hcs, h4, h5, hno, hK, hK', hne⟩, hs, hm⟩, _, _⟩ := h
  refine (BkR.apart_any B B cs R R' L L' hs w (fun i v xs v' xs' h1 h2 => ⟨B, hm i v xs v' xs' h1 h2⟩) (by have := hb.size; omega) hK hK' hbk h4 h5 hno).mono ?_
  rintro e w' ⟨rfl, V, hV, ht⟩
  exact ⟨rfl, touch_below hb ht hV hB⟩
end Go.Proofs.YtlnlbahggbbaeaaGreat.Vec
