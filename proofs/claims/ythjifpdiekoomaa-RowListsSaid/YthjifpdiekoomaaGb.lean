import Derived.Test.YthjifpdiekoomaaGa
import Derived.OneCell
import Derived.Deep.RegionHeld3
import Derived.Deep.RegionWith
import Derived.Deep.DeepMust
import Derived.Outline
section
/- Walks: whether a number may be; signs. -/

namespace Go.Proofs.Ythjifpdiekoomaa.Fix
open Go.RowKit

set_option maxHeartbeats 400000 in
theorem right_any (v : Int) (w : World) : Calls Try.prog 15 #[.int .i64 v] w fun e w' => e = .returned (.bool (rgtB v)) ∧ w = w' := by
  by_cases h1 : -1000000000000 ≤ v
  · by_cases h2 : v ≤ 1000000000000
    · have H := Lib.hid (show true = rgtB v by unfold rgtB rgt; simp [h1, h2])
      have t1 : decide (-1000000000000 ≤ v) = true := by simpa using h1
      have t2 : decide (v ≤ 1000000000000) = true := by simpa using h2
      go_enter Try.func15, Try.ntmps15
      go_wp2
      go_ret
      exact ⟨ret_bool H.out, rfl⟩
    · have H := Lib.hid (show false = rgtB v by unfold rgtB rgt; simp [h2])
      have t1 : decide (-1000000000000 ≤ v) = true := by simpa using h1
      have t2 : decide (v ≤ 1000000000000) = false := by simpa using h2
      clear h2
      go_enter Try.func15, Try.ntmps15
      go_wp2
      go_ret
      exact ⟨ret_bool H.out, rfl⟩
  · have H := Lib.hid (show false = rgtB v by unfold rgtB rgt; simp [h1])
    have t1 : decide (-1000000000000 ≤ v) = false := by simpa using h1
    clear h1
    go_enter Try.func15, Try.ntmps15
    go_wp2
    go_ret
    exact ⟨ret_bool H.out, rfl⟩

set_option maxHeartbeats 400000 in
theorem value_any (v : Int) (w : World) : Calls Try.prog 22 #[.int .i64 v] w fun e w' => e = .returned (.bool (rgtB v)) ∧ w = w' := by
  by_cases h1 : -1000000000000 ≤ v
  · by_cases h2 : v ≤ 1000000000000
    · have H := Lib.hid (show true = rgtB v by unfold rgtB rgt; simp [h1, h2])
      have t1 : decide (-1000000000000 ≤ v) = true := by simpa using h1
      have t2 : decide (v ≤ 1000000000000) = true := by simpa using h2
      go_enter Try.func22, Try.ntmps22
      go_wp2
      go_ret
      exact ⟨ret_bool H.out, rfl⟩
    · have H := Lib.hid (show false = rgtB v by unfold rgtB rgt; simp [h2])
      have t1 : decide (-1000000000000 ≤ v) = true := by simpa using h1
      have t2 : decide (v ≤ 1000000000000) = false := by simpa using h2
      clear h2
      go_enter Try.func22, Try.ntmps22
      go_wp2
      go_ret
      exact ⟨ret_bool H.out, rfl⟩
  · have H := Lib.hid (show false = rgtB v by unfold rgtB rgt; simp [h1])
    have t1 : decide (-1000000000000 ≤ v) = false := by simpa using h1
    clear h1
    go_enter Try.func22, Try.ntmps22
    go_wp2
    go_ret
    exact ⟨ret_bool H.out, rfl⟩

theorem right_yes (v : Int) (w : World) (h : rgt v) : Calls Try.prog 15 #[.int .i64 v] w fun e w' => e = .returned (.bool true) ∧ w = w' := by
  have e : rgtB v = true := by simpa [rgtB] using h
  rw [← e]; exact right_any v w
theorem right_no (v : Int) (w : World) (h : ¬ rgt v) : Calls Try.prog 15 #[.int .i64 v] w fun e w' => e = .returned (.bool false) ∧ w = w' := by
  have e : rgtB v = false := by simpa [rgtB] using h
  rw [← e]; exact right_any v w
theorem value_yes (v : Int) (w : World) (h : rgt v) : Calls Try.prog 22 #[.int .i64 v] w fun e w' => e = .returned (.bool true) ∧ w = w' := by
  have e : rgtB v = true := by simpa [rgtB] using h
  rw [← e]; exact value_any v w
theorem value_no (v : Int) (w : World) (h : ¬ rgt v) : Calls Try.prog 22 #[.int .i64 v] w fun e w' => e = .returned (.bool false) ∧ w = w' := by
  have e : rgtB v = false := by simpa [rgtB] using h
  rw [← e]; exact value_any v w

end Go.Proofs.Ythjifpdiekoomaa.Fix
end

section
/- Walks: products, signs. -/

namespace Go.Proofs.Ythjifpdiekoomaa.Fix
open Go.RowKit

theorem sizeF_abs (v : Int) : sizeF v = v.natAbs := by unfold sizeF; split <;> omega
theorem times_rgt {a b : Int} (h : ¬ (b ≠ 0 ∧ 1000000000000 / sizeF b < sizeF a)) : rgt (a * b) := by
  by_cases hb : b = 0
  · subst hb; rw [Int.mul_zero]; unfold rgt; omega
  · have h2 : ¬ 1000000000000 / sizeF b < sizeF a := fun e => h ⟨hb, e⟩
    have hp : 0 < sizeF b := by rw [sizeF_abs]; omega
    rw [Int.ediv_lt_iff_lt_mul hp] at h2
    rw [sizeF_abs, sizeF_abs, ← Int.natCast_mul, ← Int.natAbs_mul] at h2
    unfold rgt; omega
theorem times_not {a b : Int} (h : b ≠ 0 ∧ 1000000000000 / sizeF b < sizeF a) : ¬ rgt (a * b) := by
  obtain ⟨hb, h2⟩ := h
  have hp : 0 < sizeF b := by rw [sizeF_abs]; omega
  rw [Int.ediv_lt_iff_lt_mul hp] at h2
  rw [sizeF_abs, sizeF_abs, ← Int.natCast_mul, ← Int.natAbs_mul] at h2
  unfold rgt; omega
/-- The product, or that it may not be. -/
theorem timesF_within (a b : Int) : timesF a b = withinF (a * b) := by
  unfold timesF withinF
  by_cases h : b ≠ 0 ∧ 1000000000000 / sizeF b < sizeF a
  · rw [if_pos h, if_neg (times_not h)]
  · rw [if_neg h, if_pos (times_rgt h)]

theorem tdiv_rgt {a : Int} (b : Int) (h : rgt a) : rgt (a.tdiv b) := by
  have h1 := Int.natAbs_tdiv_le_natAbs a b
  unfold rgt at h ⊢; omega
theorem tmod_rgt {a : Int} (b : Int) (h : rgt a) : rgt (a.tmod b) := by
  have h1 : (a.tmod b).natAbs ≤ a.natAbs := by rw [Int.natAbs_tmod]; exact Nat.mod_le _ _
  unfold rgt at h ⊢; omega
end Go.Proofs.Ythjifpdiekoomaa.Fix
end

section
/- Walks: a text is read as a sign. -/

namespace Go.Proofs.Ythjifpdiekoomaa.Fix
open Go.RowKit

/-- What has been read of runes, and what is left. -/
def ReadSt (l : List Int) (n : Nat) (f : Int) (q : Bool) (r : List Int) : Prop :=
  (n = 0 ∧ f = 0 ∧ q = false ∧ l = r) ∨ (n = 1 ∧ q = false ∧ l = f :: r) ∨ (n = 2 ∧ q = true ∧ l = f :: 61 :: r)
theorem ReadSt.done {l : List Int} {n : Nat} {f : Int} {q : Bool} (h : ReadSt l n f q []) : readF l = (f, q, reckB f q || cmpB f q) := by
  rcases h with ⟨_, rfl, rfl, rfl⟩ | ⟨_, rfl, rfl⟩ | ⟨_, rfl, rfl⟩
  · rfl
  · rfl
  · simp [readF]
theorem ReadSt.le {l : List Int} {n : Nat} {f : Int} {q : Bool} {r : List Int} (h : ReadSt l n f q r) : n ≤ 2 := by
  rcases h with ⟨h, _⟩ | ⟨h, _⟩ | ⟨h, _⟩ <;> omega
theorem ReadSt.zero {l : List Int} {f : Int} {q : Bool} {x : Int} {r : List Int} (h : ReadSt l 0 f q (x :: r)) : q = false ∧ ReadSt l 1 x false r := by
  rcases h with ⟨_, rfl, rfl, rfl⟩ | ⟨h, _⟩ | ⟨h, _⟩
  · exact ⟨rfl, .inr (.inl ⟨rfl, rfl, rfl⟩)⟩
  all_goals omega
theorem ReadSt.one {l : List Int} {f : Int} {q : Bool} {r : List Int} (h : ReadSt l 1 f q (61 :: r)) : ReadSt l 2 f true r := by
  rcases h with ⟨h, _⟩ | ⟨_, rfl, rfl⟩ | ⟨h, _⟩
  · omega
  · exact .inr (.inr ⟨rfl, rfl, rfl⟩)
  · omega
theorem ReadSt.bad {l : List Int} {n : Nat} {f : Int} {q : Bool} {x : Int} {r : List Int} (h : ReadSt l n f q (x :: r)) (h0 : n ≠ 0) (h1 : ¬ (n = 1 ∧ x = 61)) : readF l = (0, false, false) := by
  rcases h with ⟨h, _⟩ | ⟨h, _, rfl⟩ | ⟨_, _, rfl⟩
  · exact absurd h h0
  · have hx : x ≠ 61 := fun e => h1 ⟨h, e⟩
    cases r with
    | nil => simp [readF, hx]
    | cons y r => rfl
  · rfl

/-- A block of two cells: what is read of it. -/
theorem cells_two {w : World} {b : Nat} {u v : Value} {t : TypeId} (h : w.heap[b]? = some (.cells #[u, v] t (0, 0))) :
    w.cell? ⟨b, 0, none⟩ = some u ∧ w.cell? ⟨b, 1, none⟩ = some v ∧ w.frozen? ⟨b, 0, none⟩ = false ∧ w.frozen? ⟨b, 1, none⟩ = false ∧ b < w.heap.size := by
  refine ⟨by simp [World.cell?, h], by simp [World.cell?, h], by simp [World.frozen?, h], by simp [World.frozen?, h], (Array.getElem?_eq_some_iff.1 h).1⟩

/-- The two blocks of read: the answer's, and the sign's. -/
def Facts (B : Nat) (f : Int) (q : Bool) (w' : World) : Prop :=
  w'.cell? ⟨B + 1, 0, none⟩ = some (.int .i32 f) ∧ w'.cell? ⟨B + 1, 1, none⟩ = some (.bool q) ∧ w'.cell? ⟨B, 0, none⟩ = some (.int .i32 0) ∧ w'.cell? ⟨B, 1, none⟩ = some (.bool false) ∧ w'.frozen? ⟨B, 0, none⟩ = false ∧ w'.frozen? ⟨B, 1, none⟩ = false
theorem keep_set {w : World} {B : Nat} {u v x y : Value} (h0 : w.cell? ⟨B + 1, 0, none⟩ = some x) (h1 : w.cell? ⟨B + 1, 1, none⟩ = some y) :
    ((w.setCell ⟨B, 0, none⟩ u).setCell ⟨B, 1, none⟩ v).cell? ⟨B + 1, 0, none⟩ = some x ∧ ((w.setCell ⟨B, 0, none⟩ u).setCell ⟨B, 1, none⟩ v).cell? ⟨B + 1, 1, none⟩ = some y := by
  have hb : ((w.setCell ⟨B, 0, none⟩ u).setCell ⟨B, 1, none⟩ v).heap[B + 1]? = w.heap[B + 1]? := (heap_setCell_other _ ⟨B, 1, none⟩ (B + 1) v (by show B + 1 ≠ B; omega)).trans (heap_setCell_other _ ⟨B, 0, none⟩ (B + 1) u (by show B + 1 ≠ B; omega))
  exact ⟨(World.cell?_of_block (a := ⟨B + 1, 0, none⟩) hb).trans h0, (World.cell?_of_block (a := ⟨B + 1, 1, none⟩) hb).trans h1⟩
theorem start0 (w : World) (o o' : Obj) (s : ByteArray) : (((w.alloc o).alloc o').iter s 0).heap[w.heap.size]? = some o := by
  show ((((w.alloc o).alloc o').alloc (.stringIter s 0)).heap[w.heap.size]?) = some o
  rw [Below.heap_alloc _ _ _ (by rw [World.size_alloc, World.size_alloc]; omega), Below.heap_alloc _ _ _ (by rw [World.size_alloc]; omega)]
  exact Array.getElem?_push_size
theorem start1 (w : World) (o o' : Obj) (s : ByteArray) : (((w.alloc o).alloc o').iter s 0).heap[w.heap.size + 1]? = some o' := by
  show ((((w.alloc o).alloc o').alloc (.stringIter s 0)).heap[w.heap.size + 1]?) = some o'
  rw [Below.heap_alloc _ _ _ (by rw [World.size_alloc, World.size_alloc]; omega), ← World.size_alloc w o]
  exact Array.getElem?_push_size
/-- What read leaves. -/
def ReadP (s : ByteArray) (B : World) (e : Ending) (w' : World) : Prop :=
  e = .returned (.tuple #[.agg #[.int .i32 (readF (spell s.data.toList)).1, .bool (readF (spell s.data.toList)).2.1], .bool (readF (spell s.data.toList)).2.2]) ∧ Below B.heap.size B w'

end Go.Proofs.Ythjifpdiekoomaa.Fix
end

section
/- Walks: two numbers reckoned with; which texts compare. -/

namespace Go.Proofs.Ythjifpdiekoomaa.Fix
open Go.RowKit

end Go.Proofs.Ythjifpdiekoomaa.Fix
end

section
/- Walks: which texts compare. -/

namespace Go.Proofs.Ythjifpdiekoomaa.Fix
open Go.RowKit

end Go.Proofs.Ythjifpdiekoomaa.Fix
end
