/- The book of rows and of numbers as a law takes it. -/
import Derived.Test.YtlnlbahggbbaeaaGreatMml
import Derived.Test.YtlnlbahggbbaeaaGreatVde
namespace Go.Proofs.YtlnlbahggbbaeaaGreat.BkM
open Go.RowKit
open Go.Proofs.YtlnlbahggbbaeaaGreat.Vec (Rw RowsS ERow SmR ListR touch_below heap_at_alloc)

theorem ListR.ownT {B t : Nat} {w : World} {y : Value} {z : List Rw} (h : ListR B t w y z) (ht : B ≤ t) {w' : World} (hf : ∀ (e2 s2 n : Nat) (y : Value) (ys : List Value), e2 = 51 → w.ownsRow B e2 s2 y n ys → w'.ownsRow B e2 s2 y n ys) (hg : ∀ (zs : List BkR.El) (ns : List Rw), BkR.Means B w zs ns → BkR.Means B w' zs ns) : ListR B B w' y z := by
  obtain ⟨zs, g1, g2⟩ := h
  exact ⟨zs, hf _ _ _ _ _ rfl (BkR.own_mono g1 ht), hg zs z g2⟩
/-- So many lists of rows in it, so many of numbers, all of them in cells below a bound. -/
def BkT (B s : Nat) (w : World) (q q2 : Nat) : Prop := ∃ L L' LI LI', Booked B B B w L L' LI LI' ∧ L.length = q ∧ LI.length = q2 ∧ (∀ p ∈ L, ∀ b, p.1.ownBlock = some b → b < s) ∧ ∀ p ∈ LI, ∀ b, p.1.ownBlock = some b → b < s
theorem bkt_start (w : World) : BkT w.heap.size w.heap.size (w.alloc (.cells #[.slice none 0 0, .slice none 0 0, .slice none 0 0, .slice none 0 0, .slice none 0 0, .slice none 0 0, .slice none 0 0, .slice none 0 0, .slice none 0 0, .slice none 0 0, .slice none 0 0, .slice none 0 0, .slice none 0 0, .slice none 0 0, .slice none 0 0, .slice none 0 0, .slice none 0 0, .slice none 0 0, .slice none 0 0, .slice none 0 0] 38)) 0 0 := by
  have hK : ∀ W : World, BkR.Kept w.heap.size W (.slice none 0 0) [] := fun W => ⟨World.ownsRow_nil _ _ _ _, fun i v xs h => by simp at h, fun i j p q _ h => by simp at h, by simp⟩
  have hI : ∀ W : World, BkI.Kept w.heap.size W (.slice none 0 0) [] := fun W => ⟨World.ownsRow_nil _ _ _ _, fun i v xs h => by simp at h, fun i j p q _ h => by simp at h, by simp⟩
  have hrep : (#[.slice none 0 0, .slice none 0 0, .slice none 0 0, .slice none 0 0, .slice none 0 0, .slice none 0 0, .slice none 0 0, .slice none 0 0, .slice none 0 0, .slice none 0 0, .slice none 0 0, .slice none 0 0, .slice none 0 0, .slice none 0 0, .slice none 0 0, .slice none 0 0, .slice none 0 0, .slice none 0 0, .slice none 0 0, .slice none 0 0] : Array Value) = Array.replicate 20 (.slice none 0 0) := rfl
  rw [hrep]
  have hat : ∀ i, i < 20 → (Array.replicate 20 (Value.slice none 0 0))[i]? = some (.slice none 0 0) := fun i hi => by rw [Array.getElem?_replicate, if_pos hi]
  exact ⟨[], [], [], [], ⟨⟨_, .slice none 0 0, .slice none 0 0, .slice none 0 0, .slice none 0 0, heap_at_alloc _ _, Array.size_replicate, hat 16 (by decide), hat 17 (by decide), hat 2 (by decide), hat 3 (by decide), fun i hi _ _ _ _ => hat i hi, hK _, hK _, hI _, hI _, .inl rfl, .inl rfl⟩, rfl, (fun i v xs v' xs' h => by simp at h), rfl⟩, rfl, rfl, (fun p hp => by simp at hp), fun p hp => by simp at hp⟩
theorem booked_below {BM B bk : Nat} {w w' : World} {L L' : List (Value × List BkR.El)} {LI LI' : List (Value × List BkI.El)} (h : Booked BM B bk w L L' LI LI') (hb : Below w.heap.size w w') : Booked BM B bk w' L L' LI LI' := by
  obtain ⟨⟨cs, R, R', RI, RI', hbk, hcs, h4, h5, g4, g5, hno, hK, hK', GI, GI', hne, hneI⟩, hs, hm, hi⟩ := h
  exact ⟨⟨cs, R, R', RI, RI', (hb.block bk (Array.getElem?_eq_some_iff.1 hbk).1).trans hbk, hcs, h4, h5, g4, g5, hno, hK.below hb, hK'.below hb, GI.below hb, GI'.below hb, hne, hneI⟩, hs, (fun i v xs v' xs' h1 h2 => (hm i v xs v' xs' h1 h2).imp fun ms h => ⟨h.1.below hb, h.2.below hb⟩), hi⟩
theorem BkT.below {B s q q2 : Nat} {w w' : World} (h : BkT B s w q q2) (hb : Below w.heap.size w w') : BkT B s w' q q2 := by
  obtain ⟨L, L', LI, LI', h1, h2⟩ := h
  exact ⟨L, L', LI, LI', booked_below h1 hb, h2⟩
theorem BkT.up {B s s2 q q2 : Nat} {w : World} (h : BkT B s w q q2) (hs : s ≤ s2) : BkT B s2 w q q2 := by
  obtain ⟨L, L', LI, LI', h1, h2, h3, h4, h5⟩ := h
  exact ⟨L, L', LI, LI', h1, h2, h3, (fun p hp b e => Nat.lt_of_lt_of_le (h4 p hp b e) hs), fun p hp b e => Nat.lt_of_lt_of_le (h5 p hp b e) hs⟩
/-- One more list of rows in the book. -/
theorem keep_r {B s s2 q q2 : Nat} {w : World} {v : Value} {r : List Rw} (h : BkT B s w q q2) (hB : B ≤ w.heap.size) (hBs : B ≤ s) (hv : ListR B s w v r) (hx : r.length ≤ 100000) (hl : SmR r) (hq : q < 250) (hs : s ≤ s2) (hv2 : ∀ b, v.ownBlock = some b → b < s2) :
    Calls Tryz.prog 9 #[.pointer (some ⟨B, 0, none⟩), v] w fun e w' => e = .returned (.tuple #[]) ∧ BkT B s2 w' (q + 1) q2 ∧ Below B w w' ∧ (∀ (t : Nat) (y : Value) (z : List Rw), B ≤ t → ListR B t w y z → ListR B B w' y z) ∧ ∀ (t n : Nat) (y : Value) (ys : List Value), B ≤ t → w.ownsRow t 3 1 y n ys → w'.ownsRow B 3 1 y n ys := by
  obtain ⟨L, L', LI, LI', h1, h2, h6, h3, h5⟩ := h
  obtain ⟨xs, hown, hM⟩ := hv
  refine (keep_rows B B L L' LI LI' v xs w hB (Nat.le_refl _) B r (Nat.le_refl _) hM (fun m hm => by have := (hl m hm).len; omega) h1 (BkR.own_mono hown hBs) (by rw [hM.len]; exact hx) (by omega) (fun i p hp => ?_)).mono ?_
  · have hd : ∀ bp bv, p.1.ownBlock = some bp → v.ownBlock = some bv → bp ≠ bv := fun bp bv e1 e2 => by
      have a := h3 p (List.mem_of_getElem? hp) bp e1
      have b := (hown.lt bv e2).1
      omega
    constructor
    · cases e1 : p.1.ownBlock with
      | none => exact .inl rfl
      | some bp => exact .inr fun e => hd bp bp e1 e.symm rfl
    · cases e2 : v.ownBlock with
      | none => exact .inl rfl
      | some bv => exact .inr fun e => hd bv bv e.symm e2 rfl
  · rintro e w' ⟨rfl, ⟨u, ys, hk⟩, hb, hf, hg⟩
    refine ⟨rfl, ⟨_, _, _, _, hk, by rw [List.length_append, h2]; rfl, h6, fun p hp b e => ?_, fun p hp b e => Nat.lt_of_lt_of_le (h5 p hp b e) hs⟩, hb, fun t y z ht hy => ListR.ownT hy ht (fun e2 s2 n y ys e h => hf e2 s2 n y ys (by rw [e]; decide) (by rw [e]; decide) h) hg, fun t n y ys ht hy => hf _ _ n y ys (by decide) (by decide) (BkI.own_mono hy ht)⟩
    rcases List.mem_append.1 hp with hp | hp
    · exact Nat.lt_of_lt_of_le (h3 p hp b e) hs
    · rw [List.mem_singleton.1 hp] at e; exact hv2 b e
/-- One more list of numbers in the book. -/
theorem keep_i {B s s2 q q2 : Nat} {w : World} {v : Value} {xs : List Int} (h : BkT B s w q q2) (hB : B ≤ w.heap.size) (hBs : B ≤ s) (hown : w.ownsRow s 3 1 v xs.length (BkI.flatE xs)) (hx : xs.length ≤ 100000) (hq : q2 < 250) (hs : s ≤ s2) (hv2 : ∀ b, v.ownBlock = some b → b < s2) :
    Calls Tryz.prog 10 #[.pointer (some ⟨B, 0, none⟩), v] w fun e w' => e = .returned (.tuple #[]) ∧ BkT B s2 w' q (q2 + 1) ∧ Below B w w' ∧ (∀ (t : Nat) (y : Value) (z : List Rw), B ≤ t → ListR B t w y z → ListR B B w' y z) ∧ ∀ (t n : Nat) (y : Value) (ys : List Value), B ≤ t → w.ownsRow t 3 1 y n ys → w'.ownsRow B 3 1 y n ys := by
  obtain ⟨L, L', LI, LI', h1, h2, h6, h3, h5⟩ := h
  refine (keep_ints B B B (Nat.le_refl _) L L' LI LI' v xs w hB (Nat.le_refl _) h1 (BkI.own_mono hown hBs) hx (by omega) (fun i p hp => ?_)).mono ?_
  · have hd : ∀ bp bv, p.1.ownBlock = some bp → v.ownBlock = some bv → bp ≠ bv := fun bp bv e1 e2 => by
      have a := h5 p (List.mem_of_getElem? hp) bp e1
      have b := (hown.lt bv e2).1
      omega
    constructor
    · cases e1 : p.1.ownBlock with
      | none => exact .inl rfl
      | some bp => exact .inr fun e => hd bp bp e1 e.symm rfl
    · cases e2 : v.ownBlock with
      | none => exact .inl rfl
      | some bv => exact .inr fun e => hd bv bv e.symm e2 rfl
  · rintro e w' ⟨rfl, ⟨u, hk⟩, hb, hf, hg⟩
    refine ⟨rfl, ⟨_, _, _, _, hk, h2, by rw [List.length_append, h6]; rfl, fun p hp b e => Nat.lt_of_lt_of_le (h3 p hp b e) hs, fun p hp b e => ?_⟩, hb, fun t y z ht hy => ListR.ownT hy ht (fun e2 s2 n y ys e h => hf e2 s2 n y ys (by rw [e]; decide) (by rw [e]; decide) h) hg, fun t n y ys ht hy => hf _ _ n y ys (by decide) (by decide) (BkI.own_mono hy ht)⟩
    rcases List.mem_append.1 hp with hp | hp
    · exact Nat.lt_of_lt_of_le (h5 p hp b e) hs
    · rw [List.mem_singleton.1 hp] at e; exact hv2 b e
theorem bkt_apart {B s q q2 : Nat} {w0 w : World} (h : BkT B s w q q2) (hb : Below B w0 w) (hB : B ≤ w0.heap.size) :
    Calls Tryz.prog 18 #[.pointer (some ⟨B, 0, none⟩)] w fun e w' => e = .returned (.bool true) ∧ Below B w0 w' := by
  obtain ⟨L, L', LI, LI', ⟨⟨cs, R, R', RI, RI', hbk, hcs, h4, h5, g4, g5, hno, hK, hK', GI, GI', hne, hneI⟩, hs, hm, hi⟩, _⟩ := h
  refine (apart_any B B cs R R' RI RI' L L' LI LI' hs w (fun i v xs v' xs' h1 h2 => ⟨B, hm i v xs v' xs' h1 h2⟩) hi (by have := hb.size; omega) hK hK' GI GI' hbk h4 h5 g4 g5 hno).mono ?_
  rintro e w' ⟨rfl, V, hV, ht⟩
  exact ⟨rfl, touch_below hb ht hV hB⟩
end Go.Proofs.YtlnlbahggbbaeaaGreat.BkM
