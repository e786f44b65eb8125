/- The book of texts, as a law takes it. -/
import Derived.Test.YtbcdgccmokgmhaaKxm
namespace Go.Proofs.Ytbcdgccmokgmhaa.Txb
open Go.RowKit Go.Lib

theorem own_raise {w : World} {B s e sz n : Nat} {v : Value} {xs : List Value} (h : w.ownsRow B e sz v n xs) (hs : ∀ b, v.ownBlock = some b → s ≤ b) : w.ownsRow s e sz v n xs :=
  ⟨h.1, h.2.imp id fun ⟨g, cap, cur, h1, h2, h3⟩ => ⟨g, cap, cur, h1, hs g (by rw [h1]; rfl), h3⟩⟩
theorem heap_at_alloc (w : World) (o : Obj) : (w.alloc o).heap[w.heap.size]? = some o := by
  show (w.heap.push o)[w.heap.size]? = some o
  exact Array.getElem?_push_size
/-- The book: so many lists in it, all of them in cells that stand. -/
def Bk (B : Nat) (w : World) (q : Nat) : Prop := ∃ L L', BkX.Booked B B w L L' ∧ L.length = q ∧ ∀ p ∈ L, ∀ b, p.1.ownBlock = some b → b < w.heap.size
theorem bk_start (w : World) : Bk w.heap.size (w.alloc (.cells #[.slice none 0 0, .slice none 0 0, .slice none 0 0, .slice none 0 0, .slice none 0 0, .slice none 0 0, .slice none 0 0, .slice none 0 0, .slice none 0 0, .slice none 0 0, .slice none 0 0, .slice none 0 0, .slice none 0 0, .slice none 0 0, .slice none 0 0, .slice none 0 0, .slice none 0 0, .slice none 0 0, .slice none 0 0, .slice none 0 0] 44)) 0 := by
  have hK : ∀ W : World, BkX.Kept w.heap.size W (.slice none 0 0) [] := fun W => ⟨World.ownsRow_nil _ _ _ _, fun i v xs h => by simp at h, fun i j p q _ h => by simp at h, by simp⟩
  have hrep : (#[.slice none 0 0, .slice none 0 0, .slice none 0 0, .slice none 0 0, .slice none 0 0, .slice none 0 0, .slice none 0 0, .slice none 0 0, .slice none 0 0, .slice none 0 0, .slice none 0 0, .slice none 0 0, .slice none 0 0, .slice none 0 0, .slice none 0 0, .slice none 0 0, .slice none 0 0, .slice none 0 0, .slice none 0 0, .slice none 0 0] : Array Value) = Array.replicate 20 (.slice none 0 0) := rfl
  rw [hrep]
  have hat : ∀ i, i < 20 → (Array.replicate 20 (Value.slice none 0 0))[i]? = some (.slice none 0 0) := fun i hi => by rw [Array.getElem?_replicate, if_pos hi]
  exact ⟨[], [], ⟨⟨_, .slice none 0 0, .slice none 0 0, heap_at_alloc _ _, Array.size_replicate, hat 0 (by decide), hat 1 (by decide), fun i hi _ _ => hat i hi, hK _, hK _, .inl rfl⟩, rfl⟩, rfl, fun p hp => by simp at hp⟩
theorem booked_below {B bk : Nat} {w w' : World} {L L' : List (Value × List BkX.El)} (h : BkX.Booked B bk w L L') (hb : Below w.heap.size w w') : BkX.Booked B bk w' L L' := by
  obtain ⟨⟨cs, R, R', hbk, hcs, h4, h5, hno, hK, hK', hne⟩, hs⟩ := h
  exact ⟨⟨cs, R, R', (hb.block bk (Array.getElem?_eq_some_iff.1 hbk).1).trans hbk, hcs, h4, h5, hno, hK.below hb, hK'.below hb, hne⟩, hs⟩
theorem Bk.below {B q : Nat} {w w' : World} (h : Bk B w q) (hb : Below w.heap.size w w') : Bk B w' q := by
  obtain ⟨L, L', h1, h2, h3⟩ := h
  exact ⟨L, L', booked_below h1 hb, h2, fun p hp b e => Nat.lt_of_lt_of_le (h3 p hp b e) hb.size⟩
/-- What lists a book holds, with a bound on their cells. -/
def BkS (B s : Nat) (w : World) (q : Nat) : Prop := ∃ L L', BkX.Booked B B w L L' ∧ L.length = q ∧ ∀ p ∈ L, ∀ b, p.1.ownBlock = some b → b < s
theorem Bk.before {B q s : Nat} {w w' : World} (h : Bk B w q) (hs : w.heap.size ≤ s) (hb : Below w.heap.size w w') : BkS B s w' q := by
  obtain ⟨L, L', h1, h2, h3⟩ := h
  exact ⟨L, L', booked_below h1 hb, h2, fun p hp b e => Nat.lt_of_lt_of_le (h3 p hp b e) hs⟩
theorem BkS.to {B s q : Nat} {w : World} (h : BkS B s w q) (hs : s ≤ w.heap.size) : Bk B w q := by
  obtain ⟨L, L', h1, h2, h3⟩ := h
  exact ⟨L, L', h1, h2, fun p hp b e => Nat.lt_of_lt_of_le (h3 p hp b e) hs⟩
/-- One more list in the book. -/
theorem book_keep {B s s2 q n : Nat} {w : World} {v : Value} {xs : List BkX.El} (hn : xs.length = n) (h : BkS B s w q) (hB : B ≤ w.heap.size) (hBs : B ≤ s) (hv : w.ownsRow s 9 1 v n (BkX.flatE xs)) (hx : n ≤ 100000) (hq : q < 250) (hs : s ≤ s2) (hv2 : ∀ b, v.ownBlock = some b → b < s2) :
    Calls Try.prog 16 #[.pointer (some ⟨B, 0, none⟩), v] w fun e w' => e = .returned (.tuple #[]) ∧ BkS B s2 w' (q + 1) ∧ Below B w w' ∧ ∀ (n : Nat) (y : Value) (ys : List Value), w.ownsRow B 9 1 y n ys → w'.ownsRow B 9 1 y n ys := by
  subst hn
  obtain ⟨L, L', h1, h2, h3⟩ := h
  refine (BkX.keep_any B B L L' v xs w hB (Nat.le_refl _) h1 (BkX.own_mono hv hBs) hx (by omega) (fun i p hp => ?_)).mono ?_
  · have hd : ∀ bp bv, p.1.ownBlock = some bp → v.ownBlock = some bv → bp ≠ bv := fun bp bv e1 e2 => by
      have a := h3 p (List.mem_of_getElem? hp) bp e1
      have b := (hv.lt bv e2).1
      omega
    constructor
    · cases e1 : p.1.ownBlock with
      | none => exact .inl rfl
      | some bp => exact .inr fun e => hd bp bp e1 e.symm rfl
    · cases e2 : v.ownBlock with
      | none => exact .inl rfl
      | some bv => exact .inr fun e => hd bv bv e.symm e2 rfl
  · rintro e w' ⟨rfl, ⟨u, hk⟩, hb, hf⟩
    refine ⟨rfl, ⟨_, _, hk, by rw [List.length_append, h2]; rfl, fun p hp b e => ?_⟩, hb, hf⟩
    rcases List.mem_append.1 hp with hp | hp
    · exact Nat.lt_of_lt_of_le (h3 p hp b e) hs
    · rw [List.mem_singleton.1 hp] at e; exact hv2 b e
theorem touch_below {B : Nat} {w0 w w' : World} {V : List Value} (h : Below B w0 w) (ht : BkX.Touch V w w') (hV : ∀ v ∈ V, v.ownBlock = none ∨ ∃ b, v.ownBlock = some b ∧ B ≤ b) (hB : B ≤ w0.heap.size) : Below B w0 w' :=
  ⟨ht.os.trans h.os, ht.tape.trans h.tape, ht.output.trans h.output, Nat.le_trans h.size ht.size, fun k hk => by
    rw [ht.block k (by have := h.size; omega) ?_]
    · exact h.block k hk
    · intro v hv
      rcases hV v hv with e | ⟨b, e, hb⟩
      · rw [e]; exact fun e => by cases e
      · rw [e]; intro e2; have := Option.some.inj e2; omega⟩
theorem book_apart {B q : Nat} {w0 w : World} (h : Bk B w q) (hb : Below B w0 w) (hB : B ≤ w0.heap.size) :
    Calls Try.prog 18 #[.pointer (some ⟨B, 0, none⟩)] w fun e w' => e = .returned (.bool true) ∧ Below B w0 w' := by
  obtain ⟨L, L', ⟨⟨cs, R, R', hbk, hcs, h4, h5, hno, hK, hK', hne⟩, hs⟩, _, _⟩ := h
  refine (BkX.apart_any B B cs R R' L L' hs w (by have := hb.size; omega) hK hK' hbk h4 h5 hno).mono ?_
  rintro e w' ⟨rfl, V, hV, ht⟩
  exact ⟨rfl, touch_below hb ht hV hB⟩
end Go.Proofs.Ytbcdgccmokgmhaa.Txb
