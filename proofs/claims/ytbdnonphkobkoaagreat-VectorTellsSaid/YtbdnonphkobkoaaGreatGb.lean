import Derived.Test.YtbdnonphkobkoaaGreatGa
import Derived.OneCell
import Derived.Deep.RegionHeld3
import Derived.Deep.RegionWith
import Derived.Deep.DeepMust
import Derived.Outline
section
/- Walks: whether a number may be; signs. -/



namespace Go.Proofs.YtbdnonphkobkoaaGreat.Fix
open Go.RowKit

set_option maxHeartbeats 400000 in
theorem right_any (v : Int) (w : World) : Calls Tryz.prog 41 #[.int .i64 v] w fun e w' => e = .returned (.bool (rgtB v)) ∧ w = w' := by
  by_cases h1 : -1000000000000 ≤ v
  · by_cases h2 : v ≤ 1000000000000
    · have H := Lib.hid (show true = rgtB v by unfold rgtB rgt; simp [h1, h2])
      have t1 : decide (-1000000000000 ≤ v) = true := by simpa using h1
      have t2 : decide (v ≤ 1000000000000) = true := by simpa using h2
      go_enter Tryz.func41, Tryz.ntmps41
      go_wp2
      go_ret
      exact ⟨ret_bool H.out, rfl⟩
    · have H := Lib.hid (show false = rgtB v by unfold rgtB rgt; simp [h2])
      have t1 : decide (-1000000000000 ≤ v) = true := by simpa using h1
      have t2 : decide (v ≤ 1000000000000) = false := by simpa using h2
      clear h2
      go_enter Tryz.func41, Tryz.ntmps41
      go_wp2
      go_ret
      exact ⟨ret_bool H.out, rfl⟩
  · have H := Lib.hid (show false = rgtB v by unfold rgtB rgt; simp [h1])
    have t1 : decide (-1000000000000 ≤ v) = false := by simpa using h1
    clear h1
    go_enter Tryz.func41, Tryz.ntmps41
    go_wp2
    go_ret
    exact ⟨ret_bool H.out, rfl⟩

set_option maxHeartbeats 400000 in
theorem value_any (v : Int) (w : World) : Calls Tryz.prog 35 #[.int .i64 v] w fun e w' => e = .returned (.bool (rgtB v)) ∧ w = w' := by
  by_cases h1 : -1000000000000 ≤ v
  · by_cases h2 : v ≤ 1000000000000
    · have H := Lib.hid (show true = rgtB v by unfold rgtB rgt; simp [h1, h2])
      have t1 : decide (-1000000000000 ≤ v) = true := by simpa using h1
      have t2 : decide (v ≤ 1000000000000) = true := by simpa using h2
      go_enter Tryz.func35, Tryz.ntmps35
      go_wp2
      go_ret
      exact ⟨ret_bool H.out, rfl⟩
    · have H := Lib.hid (show false = rgtB v by unfold rgtB rgt; simp [h2])
      have t1 : decide (-1000000000000 ≤ v) = true := by simpa using h1
      have t2 : decide (v ≤ 1000000000000) = false := by simpa using h2
      clear h2
      go_enter Tryz.func35, Tryz.ntmps35
      go_wp2
      go_ret
      exact ⟨ret_bool H.out, rfl⟩
  · have H := Lib.hid (show false = rgtB v by unfold rgtB rgt; simp [h1])
    have t1 : decide (-1000000000000 ≤ v) = false := by simpa using h1
    clear h1
    go_enter Tryz.func35, Tryz.ntmps35
    go_wp2
    go_ret
    exact ⟨ret_bool H.out, rfl⟩

theorem right_yes (v : Int) (w : World) (h : rgt v) : Calls Tryz.prog 41 #[.int .i64 v] w fun e w' => e = .returned (.bool true) ∧ w = w' := by
  have e : rgtB v = true := by simpa [rgtB] using h
  rw [← e]; exact right_any v w
theorem right_no (v : Int) (w : World) (h : ¬ rgt v) : Calls Tryz.prog 41 #[.int .i64 v] w fun e w' => e = .returned (.bool false) ∧ w = w' := by
  have e : rgtB v = false := by simpa [rgtB] using h
  rw [← e]; exact right_any v w
theorem value_yes (v : Int) (w : World) (h : rgt v) : Calls Tryz.prog 35 #[.int .i64 v] w fun e w' => e = .returned (.bool true) ∧ w = w' := by
  have e : rgtB v = true := by simpa [rgtB] using h
  rw [← e]; exact value_any v w
theorem value_no (v : Int) (w : World) (h : ¬ rgt v) : Calls Tryz.prog 35 #[.int .i64 v] w fun e w' => e = .returned (.bool false) ∧ w = w' := by
  have e : rgtB v = false := by simpa [rgtB] using h
  rw [← e]; exact value_any v w

theorem size_any (v : Int) (w : World) (h : rgt v) : Calls Tryz.prog 203 #[.int .i64 v] w fun e w' => e = .returned (.int .i64 (sizeF v)) ∧ w = w' := by
  obtain ⟨h1, h2⟩ := h
  go_enter Tryz.func203, Tryz.ntmps203
  go_wp2
  all_goals (go_ret; exact ⟨ret_int (by unfold sizeF; split <;> omega), rfl⟩)

theorem within_any (v : Int) (w : World) : Calls Tryz.prog 181 #[.int .i64 v] w fun e w' => e = .returned (.tuple #[.int .i64 (withinF v).1, .int .i64 (withinF v).2]) ∧ w = w' := by
  by_cases h : rgt v
  · have e : withinF v = (v, 0) := by unfold withinF; rw [if_pos h]
    rw [e]
    have HR := Lib.hid (fun W => right_yes v W h)
    clear e h
    go_enter Tryz.func181, Tryz.ntmps181
    go_wp2_with fail
    refine (HR.out _).mono ?_
    rintro e w' ⟨rfl, rfl⟩
    go_wp2
    go_ret2
    exact ⟨rfl, rfl⟩
  · have e : withinF v = (0, 4) := by unfold withinF; rw [if_neg h]
    rw [e]
    have HR := Lib.hid (fun W => right_no v W h)
    clear e h
    go_enter Tryz.func181, Tryz.ntmps181
    go_wp2_with fail
    refine (HR.out _).mono ?_
    rintro e w' ⟨rfl, rfl⟩
    go_wp2
    go_ret2
    exact ⟨rfl, rfl⟩
end Go.Proofs.YtbdnonphkobkoaaGreat.Fix
end

section
/- Walks: products, signs. -/

namespace Go.Proofs.YtbdnonphkobkoaaGreat.Fix
open Go.RowKit

theorem sizeF_abs (v : Int) : sizeF v = v.natAbs := by unfold sizeF; split <;> omega
theorem times_rgt {a b : Int} (h : ¬ (b ≠ 0 ∧ 1000000000000 / sizeF b < sizeF a)) : rgt (a * b) := by
  by_cases hb : b = 0
  · subst hb; rw [Int.mul_zero]; unfold rgt; omega
  · have h2 : ¬ 1000000000000 / sizeF b < sizeF a := fun e => h ⟨hb, e⟩
    have hp : 0 < sizeF b := by rw [sizeF_abs]; omega
    rw [Int.ediv_lt_iff_lt_mul hp] at h2
    rw [sizeF_abs, sizeF_abs, ← Int.natCast_mul, ← Int.natAbs_mul] at h2
    unfold rgt; omega
theorem times_not {a b : Int} (h : b ≠ 0 ∧ 1000000000000 / sizeF b < sizeF a) : ¬ rgt (a * b) := by
  obtain ⟨hb, h2⟩ := h
  have hp : 0 < sizeF b := by rw [sizeF_abs]; omega
  rw [Int.ediv_lt_iff_lt_mul hp] at h2
  rw [sizeF_abs, sizeF_abs, ← Int.natCast_mul, ← Int.natAbs_mul] at h2
  unfold rgt; omega
/-- The product, or that it may not be. -/
theorem timesF_within (a b : Int) : timesF a b = withinF (a * b) := by
  unfold timesF withinF
  by_cases h : b ≠ 0 ∧ 1000000000000 / sizeF b < sizeF a
  · rw [if_pos h, if_neg (times_not h)]
  · rw [if_neg h, if_pos (times_rgt h)]

set_option maxHeartbeats 1000000 in
theorem times_any (a b : Int) (w : World) (ha : rgt a) (hb : rgt b) : Calls Tryz.prog 182 #[.int .i64 a, .int .i64 b] w fun e w' => e = .returned (.tuple #[.int .i64 (timesF a b).1, .int .i64 (timesF a b).2]) ∧ w = w' := by
  have HA := Lib.hid (fun W => size_any a W ha)
  have HB := Lib.hid (fun W => size_any b W hb)
  by_cases h0 : b = 0
  · subst h0
    have e : timesF a 0 = (a * 0, 0) := by unfold timesF; rw [if_neg (by simp)]
    rw [e, Int.mul_zero]
    clear e
    go_enter Tryz.func182, Tryz.ntmps182
    go_wp2
    go_ret2
    exact ⟨by simp, rfl⟩
  · have t0 : (b != 0) = true := by rw [bne_iff_ne]; exact h0
    have p1 : 1 ≤ sizeF b := by rw [sizeF_abs]; omega
    by_cases h1 : 1000000000000 / sizeF b < sizeF a
    · have e : timesF a b = (0, 4) := by unfold timesF; rw [if_pos ⟨h0, h1⟩]
      rw [e]
      have t1 : decide (1000000000000 / sizeF b < sizeF a) = true := by simpa using h1
      clear e h0 ha hb
      go_enter Tryz.func182, Tryz.ntmps182
      go_wp2_with fail
      refine (HA.out _).mono ?_
      rintro e w' ⟨rfl, rfl⟩
      go_wp2_with fail
      refine (HB.out _).mono ?_
      rintro e w' ⟨rfl, rfl⟩
      go_wp2
      go_ret2
      exact ⟨rfl, rfl⟩
    · have hr := times_rgt (a := a) (b := b) (fun h => h1 h.2)
      have e : timesF a b = (a * b, 0) := by unfold timesF; rw [if_neg (fun h => h1 h.2)]
      rw [e]
      obtain ⟨r1, r2⟩ := hr
      have t1 : decide (1000000000000 / sizeF b < sizeF a) = false := by simpa using h1
      clear e h0 h1 ha hb
      go_enter Tryz.func182, Tryz.ntmps182
      go_wp2_with fail
      refine (HA.out _).mono ?_
      rintro e w' ⟨rfl, rfl⟩
      go_wp2_with fail
      refine (HB.out _).mono ?_
      rintro e w' ⟨rfl, rfl⟩
      go_wp2
      go_ret2
      exact ⟨rfl, rfl⟩

set_option maxHeartbeats 1000000 in
theorem reckons_any (f : Int) (q : Bool) (w : World) : Calls Tryz.prog 180 #[.agg #[.int .i32 f, .bool q]] w fun e w' => e = .returned (.bool (reckB f q)) ∧ Below w.heap.size w w' := by
  go_enter Tryz.func180, Tryz.ntmps180
  go_wp2
  all_goals (go_ret; exact ⟨ret_bool (by simp_all [reckB] <;> omega), (Below.refl _ _).alloc (Nat.le_refl _) _⟩)
set_option maxHeartbeats 1000000 in
theorem compares_any (f : Int) (q : Bool) (w : World) : Calls Tryz.prog 147 #[.agg #[.int .i32 f, .bool q]] w fun e w' => e = .returned (.bool (cmpB f q)) ∧ Below w.heap.size w w' := by
  go_enter Tryz.func147, Tryz.ntmps147
  go_wp2
  all_goals (go_ret; exact ⟨ret_bool (by simp_all [cmpB] <;> omega), (Below.refl _ _).alloc (Nat.le_refl _) _⟩)
set_option maxHeartbeats 1000000 in
theorem holds_any (f : Int) (q : Bool) (a b : Int) (w : World) : Calls Tryz.prog 149 #[.agg #[.int .i32 f, .bool q], .int .i64 a, .int .i64 b] w fun e w' => e = .returned (.bool (holdsF f q a b)) ∧ Below w.heap.size w w' := by
  go_enter Tryz.func149, Tryz.ntmps149
  go_wp2
  all_goals (go_ret; exact ⟨ret_bool (by simp_all [holdsF] <;> first | omega | rfl), (Below.refl _ _).alloc (Nat.le_refl _) _⟩)
theorem tdiv_rgt {a : Int} (b : Int) (h : rgt a) : rgt (a.tdiv b) := by
  have h1 := Int.natAbs_tdiv_le_natAbs a b
  unfold rgt at h ⊢; omega
theorem tmod_rgt {a : Int} (b : Int) (h : rgt a) : rgt (a.tmod b) := by
  have h1 : (a.tmod b).natAbs ≤ a.natAbs := by rw [Int.natAbs_tmod]; exact Nat.mod_le _ _
  unfold rgt at h ⊢; omega
set_option maxHeartbeats 1000000 in
theorem reckon_any (f : Int) (q : Bool) (a b : Int) (w : World) (ha : rgt a) (hb : rgt b) : Calls Tryz.prog 148 #[.agg #[.int .i32 f, .bool q], .int .i64 a, .int .i64 b] w fun e w' => e = .returned (.tuple #[.int .i64 (reckF f a b).1, .int .i64 (reckF f a b).2]) ∧ Below w.heap.size w w' := by
  have HT := Lib.hid (fun W => times_any a b W ha hb)
  have HW1 := Lib.hid (fun W => within_any (a + b) W)
  have HW2 := Lib.hid (fun W => within_any (a - b) W)
  obtain ⟨a1, a2⟩ := ha
  obtain ⟨b1, b2⟩ := hb
  by_cases h1 : f = 43
  · subst h1
    go_enter Tryz.func148, Tryz.ntmps148
    go_wp2_with fail
    refine (HW1.out _).mono ?_
    rintro e w' ⟨rfl, rfl⟩
    go_wp2
    go_ret2
    exact ⟨rfl, (Below.refl _ _).alloc (Nat.le_refl _) _⟩
  by_cases h2 : f = 45
  · subst h2
    go_enter Tryz.func148, Tryz.ntmps148
    go_wp2_with fail
    refine (HW2.out _).mono ?_
    rintro e w' ⟨rfl, rfl⟩
    go_wp2
    go_ret2
    exact ⟨rfl, (Below.refl _ _).alloc (Nat.le_refl _) _⟩
  by_cases h3 : f = 42
  · subst h3
    go_enter Tryz.func148, Tryz.ntmps148
    go_wp2_with fail
    refine (HT.out _).mono ?_
    rintro e w' ⟨rfl, rfl⟩
    go_wp2
    go_ret2
    exact ⟨rfl, (Below.refl _ _).alloc (Nat.le_refl _) _⟩
  have t1 : (f == 43) = false := by simpa using h1
  have t2 : (f == 45) = false := by simpa using h2
  have t3 : (f == 42) = false := by simpa using h3
  have HE : Hid (reckF f a b = if b = 0 then (0, 5) else if f = 47 then (a.tdiv b, 0) else (a.tmod b, 0)) := by
    show _ = _
    unfold reckF; rw [if_neg h1, if_neg h2, if_neg h3]
  clear h1 h2 h3
  rw [HE.out]
  by_cases h4 : b = 0
  · subst h4
    rw [if_pos rfl]
    go_enter Tryz.func148, Tryz.ntmps148
    go_wp2
    go_ret2
    exact ⟨rfl, (Below.refl _ _).alloc (Nat.le_refl _) _⟩
  have t4 : (b == 0) = false := by simpa using h4
  rw [if_neg h4]
  by_cases h5 : f = 47
  · subst h5
    rw [if_pos rfl]
    clear HE
    obtain ⟨r1, r2⟩ := tdiv_rgt b ⟨a1, a2⟩
    go_enter Tryz.func148, Tryz.ntmps148
    go_wp2
    go_ret2
    exact ⟨rfl, (Below.refl _ _).alloc (Nat.le_refl _) _⟩
  · have t5 : (f == 47) = false := by simpa using h5
    rw [if_neg h5]
    clear HE h5
    obtain ⟨r1, r2⟩ := tmod_rgt b ⟨a1, a2⟩
    go_enter Tryz.func148, Tryz.ntmps148
    go_wp2
    go_ret2
    exact ⟨rfl, (Below.refl _ _).alloc (Nat.le_refl _) _⟩
end Go.Proofs.YtbdnonphkobkoaaGreat.Fix
end

section
/- Walks: a text is read as a sign. -/





namespace Go.Proofs.YtbdnonphkobkoaaGreat.Fix
open Go.RowKit

/-- What has been read of runes, and what is left. -/
def ReadSt (l : List Int) (n : Nat) (f : Int) (q : Bool) (r : List Int) : Prop :=
  (n = 0 ∧ f = 0 ∧ q = false ∧ l = r) ∨ (n = 1 ∧ q = false ∧ l = f :: r) ∨ (n = 2 ∧ q = true ∧ l = f :: 61 :: r)
theorem ReadSt.done {l : List Int} {n : Nat} {f : Int} {q : Bool} (h : ReadSt l n f q []) : readF l = (f, q, reckB f q || cmpB f q) := by
  rcases h with ⟨_, rfl, rfl, rfl⟩ | ⟨_, rfl, rfl⟩ | ⟨_, rfl, rfl⟩
  · rfl
  · rfl
  · simp [readF]
theorem ReadSt.le {l : List Int} {n : Nat} {f : Int} {q : Bool} {r : List Int} (h : ReadSt l n f q r) : n ≤ 2 := by
  rcases h with ⟨h, _⟩ | ⟨h, _⟩ | ⟨h, _⟩ <;> omega
theorem ReadSt.zero {l : List Int} {f : Int} {q : Bool} {x : Int} {r : List Int} (h : ReadSt l 0 f q (x :: r)) : q = false ∧ ReadSt l 1 x false r := by
  rcases h with ⟨_, rfl, rfl, rfl⟩ | ⟨h, _⟩ | ⟨h, _⟩
  · exact ⟨rfl, .inr (.inl ⟨rfl, rfl, rfl⟩)⟩
  all_goals omega
theorem ReadSt.one {l : List Int} {f : Int} {q : Bool} {r : List Int} (h : ReadSt l 1 f q (61 :: r)) : ReadSt l 2 f true r := by
  rcases h with ⟨h, _⟩ | ⟨_, rfl, rfl⟩ | ⟨h, _⟩
  · omega
  · exact .inr (.inr ⟨rfl, rfl, rfl⟩)
  · omega
theorem ReadSt.bad {l : List Int} {n : Nat} {f : Int} {q : Bool} {x : Int} {r : List Int} (h : ReadSt l n f q (x :: r)) (h0 : n ≠ 0) (h1 : ¬ (n = 1 ∧ x = 61)) : readF l = (0, false, false) := by
  rcases h with ⟨h, _⟩ | ⟨h, _, rfl⟩ | ⟨_, _, rfl⟩
  · exact absurd h h0
  · have hx : x ≠ 61 := fun e => h1 ⟨h, e⟩
    cases r with
    | nil => simp [readF, hx]
    | cons y r => rfl
  · rfl

/-- A block of two cells: what is read of it. -/
theorem cells_two {w : World} {b : Nat} {u v : Value} {t : TypeId} (h : w.heap[b]? = some (.cells #[u, v] t (0, 0))) :
    w.cell? ⟨b, 0, none⟩ = some u ∧ w.cell? ⟨b, 1, none⟩ = some v ∧ w.frozen? ⟨b, 0, none⟩ = false ∧ w.frozen? ⟨b, 1, none⟩ = false ∧ b < w.heap.size := by
  refine ⟨by simp [World.cell?, h], by simp [World.cell?, h], by simp [World.frozen?, h], by simp [World.frozen?, h], (Array.getElem?_eq_some_iff.1 h).1⟩

/-- The two blocks of read: the answer's, and the sign's. -/
def Facts (B : Nat) (f : Int) (q : Bool) (w' : World) : Prop :=
  w'.cell? ⟨B + 1, 0, none⟩ = some (.int .i32 f) ∧ w'.cell? ⟨B + 1, 1, none⟩ = some (.bool q) ∧ w'.cell? ⟨B, 0, none⟩ = some (.int .i32 0) ∧ w'.cell? ⟨B, 1, none⟩ = some (.bool false) ∧ w'.frozen? ⟨B, 0, none⟩ = false ∧ w'.frozen? ⟨B, 1, none⟩ = false
theorem Facts.of {B : Nat} {f : Int} {q : Bool} {w' : World} (h0 : w'.heap[B]? = some (.cells #[.int .i32 0, .bool false] 185 (0, 0))) (h1 : w'.heap[B + 1]? = some (.cells #[.int .i32 f, .bool q] 185 (0, 0))) : Facts B f q w' := by
  obtain ⟨c0, c1, _, _, _⟩ := cells_two h1
  obtain ⟨d0, d1, y0, y1, _⟩ := cells_two h0
  exact ⟨c0, c1, d0, d1, y0, y1⟩
theorem keep_set {w : World} {B : Nat} {u v x y : Value} (h0 : w.cell? ⟨B + 1, 0, none⟩ = some x) (h1 : w.cell? ⟨B + 1, 1, none⟩ = some y) :
    ((w.setCell ⟨B, 0, none⟩ u).setCell ⟨B, 1, none⟩ v).cell? ⟨B + 1, 0, none⟩ = some x ∧ ((w.setCell ⟨B, 0, none⟩ u).setCell ⟨B, 1, none⟩ v).cell? ⟨B + 1, 1, none⟩ = some y := by
  have hb : ((w.setCell ⟨B, 0, none⟩ u).setCell ⟨B, 1, none⟩ v).heap[B + 1]? = w.heap[B + 1]? := (heap_setCell_other _ ⟨B, 1, none⟩ (B + 1) v (by show B + 1 ≠ B; omega)).trans (heap_setCell_other _ ⟨B, 0, none⟩ (B + 1) u (by show B + 1 ≠ B; omega))
  exact ⟨(World.cell?_of_block (a := ⟨B + 1, 0, none⟩) hb).trans h0, (World.cell?_of_block (a := ⟨B + 1, 1, none⟩) hb).trans h1⟩
theorem start0 (w : World) (o o' : Obj) (s : ByteArray) : (((w.alloc o).alloc o').iter s 0).heap[w.heap.size]? = some o := by
  show ((((w.alloc o).alloc o').alloc (.stringIter s 0)).heap[w.heap.size]?) = some o
  rw [Below.heap_alloc _ _ _ (by rw [World.size_alloc, World.size_alloc]; omega), Below.heap_alloc _ _ _ (by rw [World.size_alloc]; omega)]
  exact Array.getElem?_push_size
theorem start1 (w : World) (o o' : Obj) (s : ByteArray) : (((w.alloc o).alloc o').iter s 0).heap[w.heap.size + 1]? = some o' := by
  show ((((w.alloc o).alloc o').alloc (.stringIter s 0)).heap[w.heap.size + 1]?) = some o'
  rw [Below.heap_alloc _ _ _ (by rw [World.size_alloc, World.size_alloc]; omega), ← World.size_alloc w o]
  exact Array.getElem?_push_size
/-- What read leaves. -/
def ReadP (s : ByteArray) (B : World) (e : Ending) (w' : World) : Prop :=
  e = .returned (.tuple #[.agg #[.int .i32 (readF (spell s.data.toList)).1, .bool (readF (spell s.data.toList)).2.1], .bool (readF (spell s.data.toList)).2.2]) ∧ Below B.heap.size B w'

set_option maxHeartbeats 4000000 in
set_option maxRecDepth 100000 in
theorem read_any (s : ByteArray) (w : World) (_hs : s.size ≤ maxLen) : Calls Tryz.prog 146 #[.string s] w (ReadP s w) := by
  unfold maxLen at _hs
  go_enter Tryz.func146, Tryz.ntmps146
  go_wp2
  go_loopw [5] (fun v wr => ∃ (pos n : Nat) (f : Int) (q : Bool), wr.heap[w.heap.size]? = some (.cells #[.int .i32 0, .bool false] 185 (0, 0)) ∧ wr.heap[w.heap.size + 1]? = some (.cells #[.int .i32 f, .bool q] 185 (0, 0)) ∧ wr.heap[w.heap.size + 2]? = some (.stringIter s pos) ∧ Below w.heap.size w wr ∧ v = .int .i64 n ∧ Hid (ReadSt (spell s.data.toList) n f q (spell (s.data.toList.drop pos))) ∧ pos ≤ s.size) (fun _ wr => s.size - wr.iterPos (w.heap.size + 2))
  case atStart =>
    refine ⟨0, 0, 0, false, ?_, ?_, ?_, ?_, rfl, ?_, Nat.zero_le _⟩
    · exact start0 w _ _ s
    · exact start1 w _ _ s
    · simpa using World.iter_heap ((w.alloc (.cells #[.int .i32 0, .bool false] 185)).alloc (.cells #[.int .i32 0, .bool false] 185)) s 0
    · exact (((Below.refl _ _).alloc (Nat.le_refl _) _).alloc (by simp) _).alloc (by simp; omega) _
    · exact .inl ⟨rfl, rfl, rfl, by simp⟩
  case round =>
    obtain ⟨pos, n, f, q, hb0, hb1, hit, hbw, rfl, H, hps⟩ := hrel
    have hn := H.out.le
    have hpos0 := iterPos_of hit
    by_cases hp : pos < s.size
    · have hnx : ∀ ty, (Instr.next (.pointer (some ⟨w.heap.size + 2, 0, none⟩)) true ty).run Tryz.prog wr = _ := fun ty => Lib.run_next_any_at wr (w.heap.size + 2) s pos ty hit hp
      have hwd := width1 s pos
      have hwl := width_le hp
      have hit2 := Lib.iterAt_heap wr (w.heap.size + 2) s pos (pos + (Utf8.decode s pos).2) hit
      have hbw2 := Lib.below_iterAt hbw (k := w.heap.size + 2) (by omega) s (pos + (Utf8.decode s pos).2)
      have hb02 := (Lib.iterAt_other wr (w.heap.size + 2) w.heap.size s (pos + (Utf8.decode s pos).2) (by omega)).trans hb0
      have hb12 := (Lib.iterAt_other wr (w.heap.size + 2) (w.heap.size + 1) s (pos + (Utf8.decode s pos).2) (by omega)).trans hb1
      obtain ⟨W1, hW1⟩ : ∃ W1, W1 = wr.iterAt (w.heap.size + 2) s (pos + (Utf8.decode s pos).2) := ⟨_, rfl⟩
      rw [← hW1] at hnx hit2 hbw2 hb02 hb12
      have HS := Lib.hid (spell_at hp)
      obtain ⟨x, hx⟩ : ∃ x, ((Utf8.decode s pos).1 : Int) = x := ⟨_, rfl⟩
      rw [hx] at hnx HS
      have H2 := H.out
      rw [HS.out] at H2
      have HH := Lib.hid H2
      clear hW1 hit hbw hb0 hb1 H HS H2 hx
      obtain ⟨c0, c1, z0, z1, l1⟩ := cells_two hb12
      obtain ⟨d0, d1, y0, y1, l0⟩ := cells_two hb02
      by_cases h0 : n = 0
      · subst h0
        obtain ⟨rfl, h3⟩ := HH.out.zero
        have H3 := Lib.hid h3
        have k0 := Lib.hid ((heap_setCell_other W1 ⟨w.heap.size + 1, 0, none⟩ w.heap.size (.int .i32 x) (by show w.heap.size ≠ w.heap.size + 1; omega)).trans hb02)
        have k1 := Lib.hid (heap_setCell_same W1 (w.heap.size + 1) 0 _ 185 (.int .i32 x) hb12)
        have k2 := Lib.hid ((heap_setCell_other W1 ⟨w.heap.size + 1, 0, none⟩ (w.heap.size + 2) (.int .i32 x) (by show w.heap.size + 2 ≠ w.heap.size + 1; omega)).trans hit2)
        have k3 := Lib.hid (hbw2.setCell (p := ⟨w.heap.size + 1, 0, none⟩) (by show w.heap.size ≤ w.heap.size + 1; omega) (.int .i32 x))
        clear h3 hb02 hb12 hit2 hbw2 HH
        go_wp2
        go_roundw
        case rel => exact ⟨pos + (Utf8.decode s pos).2, 1, x, false, k0.out, k1.out, k2.out, k3.out, by go_num, H3, hwl⟩
        case measure => rw [iterPos_of k2.out, hpos0]; omega
      · by_cases h1 : n = 1 ∧ x = 61
        · obtain ⟨rfl, rfl⟩ := h1
          have H3 := Lib.hid HH.out.one
          have k0 := Lib.hid ((heap_setCell_other W1 ⟨w.heap.size + 1, 1, none⟩ w.heap.size (.bool true) (by show w.heap.size ≠ w.heap.size + 1; omega)).trans hb02)
          have k1 := Lib.hid (heap_setCell_same W1 (w.heap.size + 1) 1 _ 185 (.bool true) hb12)
          have k2 := Lib.hid ((heap_setCell_other W1 ⟨w.heap.size + 1, 1, none⟩ (w.heap.size + 2) (.bool true) (by show w.heap.size + 2 ≠ w.heap.size + 1; omega)).trans hit2)
          have k3 := Lib.hid (hbw2.setCell (p := ⟨w.heap.size + 1, 1, none⟩) (by show w.heap.size ≤ w.heap.size + 1; omega) (.bool true))
          clear hb02 hb12 hit2 hbw2 HH h0
          go_wp2
          go_roundw
          case rel => exact ⟨pos + (Utf8.decode s pos).2, 2, f, true, k0.out, k1.out, k2.out, k3.out, by go_num, H3, hwl⟩
          case measure => rw [iterPos_of k2.out, hpos0]; omega
        · have HD := Lib.hid (HH.out.bad h0 h1)
          have HB := Lib.hid hbw2
          have t0 : ((n : Int) == 0) = false := beq_eq_false_iff_ne.2 (by omega)
          cases n with
          | zero => exact absurd rfl h0
          | succ n =>
            cases n with
            | zero =>
              have t1 : (x == 61) = false := beq_eq_false_iff_ne.2 (fun e => h1 ⟨rfl, e⟩)
              clear hb02 hb12 hit2 hbw2 HH h0 h1
              go_wp2
              exact bodyPost_ret (v := .tuple #[.agg #[.int .i32 0, .bool false], .bool false]) (by simp [results, Tryz.results146, go_sem, d0, d1]) rfl ⟨by rw [HD.out], (HB.out.setCell (Nat.le_refl _) _).setCell (Nat.le_refl _) _⟩
            | succ n =>
              obtain rfl : n = 0 := by omega
              clear hb02 hb12 hit2 hbw2 HH h0 h1
              go_wp2
              exact bodyPost_ret (v := .tuple #[.agg #[.int .i32 0, .bool false], .bool false]) (by simp [results, Tryz.results146, go_sem, d0, d1]) rfl ⟨by rw [HD.out], (HB.out.setCell (Nat.le_refl _) _).setCell (Nat.le_refl _) _⟩
    · have hnx : ∀ ty, (Instr.next (.pointer (some ⟨w.heap.size + 2, 0, none⟩)) true ty).run Tryz.prog wr = _ := fun ty => Lib.run_next_end_at wr (w.heap.size + 2) s pos ty hit hp
      have H2 := H.out
      rw [spell_end hp] at H2
      have HD := Lib.hid H2.done
      clear H H2 hit
      have RD0 : ∀ W', Below wr.heap.size wr W' → Facts w.heap.size f q W' := fun W' h => Facts.of ((h.block _ (Array.getElem?_eq_some_iff.1 hb0).1).trans hb0) ((h.block _ (Array.getElem?_eq_some_iff.1 hb1).1).trans hb1)
      obtain ⟨c0, c1, d0, d1, y0, y1⟩ := RD0 wr (Below.refl _ _)
      have l0 : w.heap.size < wr.heap.size := (Array.getElem?_eq_some_iff.1 hb0).1
      have RD := Lib.hid RD0
      have HB := Lib.hid hbw
      clear hb0 hb1 hbw RD0
      cases hr : reckB f q with
      | false =>
        have HC1 := Lib.hid (fun (W' : World) (h : Hid (Below wr.heap.size wr W')) => (reckons_any f q W').mono (fun e w' k => show e = .returned (.bool false) ∧ Facts w.heap.size f q w' ∧ Hid (Below wr.heap.size wr w') from ⟨by rw [k.1, hr], RD.out _ (h.out.trans (k.2.mono h.out.size)), (h.out.trans (k.2.mono h.out.size))⟩))
        have HC2 := Lib.hid (fun (W' : World) (h : Hid (Below wr.heap.size wr W')) => (compares_any f q W').mono (fun e w' k => show e = .returned (.bool (cmpB f q)) ∧ Facts w.heap.size f q w' ∧ Hid (Below wr.heap.size wr w') from ⟨by rw [k.1], RD.out _ (h.out.trans (k.2.mono h.out.size)), (h.out.trans (k.2.mono h.out.size))⟩))
        have HR := Lib.hid hr
        have r9 := Lib.hid (show Below wr.heap.size wr wr.drew from (Below.refl _ _).drew)
        clear hr
        go_wp2_with fail
        go_region_held3 (fun w' => w'.cell? ⟨w.heap.size + 1, 0, none⟩ = some (.int .i32 f) ∧ w'.cell? ⟨w.heap.size + 1, 1, none⟩ = some (.bool q)) (first | exact ⟨t0, t1⟩ | exact ⟨s0, s1⟩ | exact ⟨c0, c1⟩ | exact keep_set t0 t1) (first | (go_at_call 180; refine (HC1.out _ r9).mono ?_; rintro e wq ⟨rfl, ⟨s0, s1, s2, s3, s4, s5⟩, s9⟩) | (go_at_call 147; refine (HC2.out _ s9).mono ?_; rintro e wt ⟨rfl, ⟨t0, t1, t2, t3, t4, t5⟩, t9⟩))
        go_wp2
        exact bodyPost_ret (v := .tuple #[.agg #[.int .i32 f, .bool q], .bool (cmpB f q)]) (by simp [results, Tryz.results146, go_sem, t2, t3]) rfl ⟨by rw [HD.out]; simp [HR.out], ((HB.out.trans (t9.out.mono HB.out.size)).setCell (Nat.le_refl _) _).setCell (Nat.le_refl _) _⟩
      | true =>
        have HC1 := Lib.hid (fun (W' : World) (h : Hid (Below wr.heap.size wr W')) => (reckons_any f q W').mono (fun e w' k => show e = .returned (.bool true) ∧ Facts w.heap.size f q w' ∧ Hid (Below wr.heap.size wr w') from ⟨by rw [k.1, hr], RD.out _ (h.out.trans (k.2.mono h.out.size)), (h.out.trans (k.2.mono h.out.size))⟩))
        have HR := Lib.hid hr
        have r9 := Lib.hid (show Below wr.heap.size wr wr.drew from (Below.refl _ _).drew)
        clear hr
        go_wp2_with fail
        refine wp_region_held_drew (S := fun w' => w'.cell? ⟨w.heap.size + 1, 0, none⟩ = some (.int .i32 f) ∧ w'.cell? ⟨w.heap.size + 1, 1, none⟩ = some (.bool q)) (by kernel_rfl) (⟨c0, c1⟩) (fun hHeld => ?_)
        refine wpAnyH_take (i := 0) (v := ?_) rfl (by kernel_rfl) (by kernel_rfl) (by kernel_rfl) (fun _ _ _ h => h) (Or.inl ⟨by kernel_rfl, by intro w hSw; (try dsimp only at hSw); obtain ⟨g0, g1⟩ := hSw; go_simp; try with_reducible rfl⟩) hHeld ?_
        go_simp
        refine wpAnyH_take (i := 1) (v := ?_) rfl (by kernel_rfl) (by kernel_rfl) (by kernel_rfl) (fun _ _ _ h => h) (Or.inl ⟨by kernel_rfl, by intro w hSw; (try dsimp only at hSw); obtain ⟨g0, g1⟩ := hSw; go_simp; try with_reducible rfl⟩) hHeld ?_
        go_simp
        refine wpAnyH_ready (rs := [2]) (by kernel_rfl) (by simp) ?_
        refine AllReadyH.cons rfl (fun K hK => ?_) AllReadyH.nil
        clear hHeld
        go_simp
        refine (HC1.out _ r9).mono ?_; rintro e wq ⟨rfl, ⟨s0, s1, s2, s3, s4, s5⟩, s9⟩
        go_simp
        refine hK.out _ _ (⟨s0, s1⟩) (fun hHeld => ?_)
        clear hK K
        refine wpAnyH_take (i := 3) (v := ?_) rfl (by kernel_rfl) (by kernel_rfl) (by kernel_rfl) (fun _ _ _ h => h) (Or.inl ⟨by kernel_rfl, by intro w _; go_simp; try with_reducible rfl⟩) hHeld ?_
        go_simp
        refine wpAnyH_take (i := 4) (v := undef) rfl (by kernel_rfl) (by kernel_rfl) (by kernel_rfl) (fun _ _ _ h => h) (Or.inr ⟨by kernel_rfl, rfl⟩) hHeld ?_
        go_simp
        refine wpAnyH_take (i := 5) (v := undef) rfl (by kernel_rfl) (by kernel_rfl) (by kernel_rfl) (fun _ _ _ h => h) (Or.inr ⟨by kernel_rfl, rfl⟩) hHeld ?_
        go_simp
        refine wpAnyH_take (i := 6) (v := ?_) rfl (by kernel_rfl) (by kernel_rfl) (by kernel_rfl) (fun _ _ _ h => h) (Or.inl ⟨by kernel_rfl, by intro w _; go_simp; try with_reducible rfl⟩) hHeld ?_
        go_simp
        refine wpAnyH_ready (rs := [7]) (by kernel_rfl) (by simp) ?_
        refine AllReadyH.cons rfl (fun K hK => ?_) AllReadyH.nil
        clear hHeld
        go_simp
        refine hK.out _ _ (keep_set s0 s1) (fun hHeld => ?_)
        clear hK K
        refine wpAnyH_take (i := 8) (v := ?_) rfl (by kernel_rfl) (by kernel_rfl) (by kernel_rfl) (fun _ _ _ h => h) (Or.inl ⟨by kernel_rfl, by intro w _; go_simp; try with_reducible rfl⟩) hHeld ?_
        go_simp
        refine wpAnyH_done (by kernel_rfl) ?_ _
        go_wp2
        exact bodyPost_ret (v := .tuple #[.agg #[.int .i32 f, .bool q], .bool true]) (by simp [results, Tryz.results146, go_sem, s2, s3]) rfl ⟨by rw [HD.out]; simp [HR.out], ((HB.out.trans (s9.out.mono HB.out.size)).setCell (Nat.le_refl _) _).setCell (Nat.le_refl _) _⟩
end Go.Proofs.YtbdnonphkobkoaaGreat.Fix
end

section
/- Walks: two numbers reckoned with; which texts compare. -/

namespace Go.Proofs.YtbdnonphkobkoaaGreat.Fix
open Go.RowKit

theorem box_reads {w1 w2 : World} {f : Int} {q : Bool} (h : Below (w1.alloc (.cells #[.int .i32 f, .bool q] 185)).heap.size (w1.alloc (.cells #[.int .i32 f, .bool q] 185)) w2) :
    w2.cell? ⟨w1.heap.size, 0, none⟩ = some (.int .i32 f) ∧ w2.cell? ⟨w1.heap.size, 1, none⟩ = some (.bool q) := by
  have h1 := (h.block w1.heap.size (by simp)).trans (show _ = some (Obj.cells #[.int .i32 f, .bool q] 185 (0, 0)) from Array.getElem?_push_size)
  exact ⟨(cells_two h1).1, (cells_two h1).2.1⟩

set_option maxHeartbeats 2000000 in
set_option maxRecDepth 100000 in
theorem do_any (s : ByteArray) (a b : Int) (w : World) (hs : s.size ≤ maxLen) : Calls Tryz.prog 106 #[.string s, .int .i64 a, .int .i64 b] w fun e w' => e = .returned (.tuple #[.int .i64 (doF s a b).1, .int .i64 (doF s a b).2]) ∧ Below w.heap.size w w' := by
  have HR := Lib.hid (fun W => read_any s W hs)
  obtain ⟨x, hx⟩ : ∃ x, readF (spell s.data.toList) = x := ⟨_, rfl⟩
  obtain ⟨f, q, ok⟩ := x
  have HX := Lib.hid hx
  have HR2 := Lib.hid (fun W => (HR.out W).mono fun e w' (h : ReadP s W e w') => (show e = .returned (.tuple #[.agg #[.int .i32 f, .bool q], .bool ok]) ∧ Below W.heap.size W w' from by obtain ⟨h1, h2⟩ := h; rw [HX.out] at h1; exact ⟨h1, h2⟩))
  have HE := Lib.hid (show doF s a b = (if ok = true ∧ rgt a ∧ rgt b then (if cmpB f q then (if holdsF f q a b then (1, 0) else (0, 0)) else reckF f a b) else (0, 1)) by
    unfold doF signOf; rw [HX.out]
    cases ok
    · simp
    · simp)
  clear hx HR HX
  rw [HE.out]
  clear HE
  by_cases hn : ok = true ∧ rgt a ∧ rgt b
  · obtain ⟨rfl, ha, hb⟩ := hn
    rw [if_pos ⟨rfl, ha, hb⟩]
    have HA := Lib.hid (fun W => right_yes a W ha)
    have HB := Lib.hid (fun W => right_yes b W hb)
    have HK := Lib.hid (fun W => reckon_any f q a b W ha hb)
    have HC := Lib.hid (fun W => compares_any f q W)
    have HH := Lib.hid (fun W => holds_any f q a b W)
    clear ha hb
    cases hc : cmpB f q with
    | false =>
      rw [hc] at HC
      clear hc
      rw [if_neg (by simp)]
      obtain ⟨r, hr⟩ : ∃ r, reckF f a b = r := ⟨_, rfl⟩
      rw [hr] at HK ⊢
      clear hr HH
      go_enter Tryz.func106, Tryz.ntmps106
      go_wp2_with fail
      refine (HR2.out _).mono ?_
      rintro e w1 ⟨rfl, b1⟩
      have HB1 := Lib.hid b1
      clear b1
      go_wp2_with fail
      refine (HA.out _).mono ?_
      rintro e w2 ⟨rfl, rfl⟩
      go_wp2_with fail
      refine (HB.out _).mono ?_
      rintro e w2 ⟨rfl, rfl⟩
      go_wp2_with fail
      refine (HC.out _).mono ?_
      rintro e w2 ⟨rfl, b2⟩
      obtain ⟨c0, c1⟩ := box_reads b2
      have HB2 := Lib.hid ((HB1.out.alloc HB1.out.size _).trans (b2.mono (by have := HB1.out.size; simp; omega)))
      clear b2
      go_wp2_with fail
      refine (HK.out _).mono ?_
      rintro e w3 ⟨rfl, b3⟩
      have HB3 := Lib.hid (HB2.out.trans (b3.mono HB2.out.size))
      clear b3
      go_wp2
      go_ret2
      exact ⟨rfl, HB3.out⟩
    | true =>
      rw [hc] at HC
      clear hc
      rw [if_pos rfl]
      cases hh : holdsF f q a b
      all_goals
        rw [hh] at HH
        clear hh HK
        go_enter Tryz.func106, Tryz.ntmps106
        go_wp2_with fail
        refine (HR2.out _).mono ?_
        rintro e w1 ⟨rfl, b1⟩
        have HB1 := Lib.hid b1
        clear b1
        go_wp2_with fail
        refine (HA.out _).mono ?_
        rintro e w2 ⟨rfl, rfl⟩
        go_wp2_with fail
        refine (HB.out _).mono ?_
        rintro e w2 ⟨rfl, rfl⟩
        go_wp2_with fail
        refine (HC.out _).mono ?_
        rintro e w2 ⟨rfl, b2⟩
        obtain ⟨c0, c1⟩ := box_reads b2
        have HB2 := Lib.hid ((HB1.out.alloc HB1.out.size _).trans (b2.mono (by have := HB1.out.size; simp; omega)))
        clear b2
        go_wp2_with fail
        refine (HH.out _).mono ?_
        rintro e w3 ⟨rfl, b3⟩
        have HB3 := Lib.hid (HB2.out.trans (b3.mono HB2.out.size))
        clear b3
        go_wp2
        go_ret2
        exact ⟨by simp, HB3.out⟩
  · rw [if_neg hn]
    cases ok with
    | false =>
      clear hn
      go_enter Tryz.func106, Tryz.ntmps106
      go_wp2_with fail
      refine (HR2.out _).mono ?_
      rintro e w1 ⟨rfl, b1⟩
      have HB1 := Lib.hid b1
      clear b1
      go_wp2_with fail
      go_ret2
      exact ⟨rfl, HB1.out.alloc HB1.out.size _⟩
    | true =>
      by_cases ha : rgt a
      · have HA := Lib.hid (fun W => right_yes a W ha)
        have HB := Lib.hid (fun W => right_no b W (fun h => hn ⟨rfl, ha, h⟩))
        clear hn ha
        go_enter Tryz.func106, Tryz.ntmps106
        go_wp2_with fail
        refine (HR2.out _).mono ?_
        rintro e w1 ⟨rfl, b1⟩
        have HB1 := Lib.hid b1
        clear b1
        go_wp2_with fail
        refine (HA.out _).mono ?_
        rintro e w2 ⟨rfl, rfl⟩
        go_wp2_with fail
        refine (HB.out _).mono ?_
        rintro e w2 ⟨rfl, rfl⟩
        go_wp2
        go_ret2
        exact ⟨rfl, HB1.out.alloc HB1.out.size _⟩
      · have HA := Lib.hid (fun W => right_no a W ha)
        clear hn ha
        go_enter Tryz.func106, Tryz.ntmps106
        go_wp2_with fail
        refine (HR2.out _).mono ?_
        rintro e w1 ⟨rfl, b1⟩
        have HB1 := Lib.hid b1
        clear b1
        go_wp2_with fail
        refine (HA.out _).mono ?_
        rintro e w2 ⟨rfl, rfl⟩
        go_wp2
        go_ret2
        exact ⟨rfl, HB1.out.alloc HB1.out.size _⟩
end Go.Proofs.YtbdnonphkobkoaaGreat.Fix
end

section
/- Walks: which texts compare. -/

namespace Go.Proofs.YtbdnonphkobkoaaGreat.Fix
open Go.RowKit

set_option maxHeartbeats 1000000 in
set_option maxRecDepth 100000 in
theorem comp_any (s : ByteArray) (w : World) (hs : s.size ≤ maxLen) : Calls Tryz.prog 107 #[.string s] w fun e w' => e = .returned (.bool (comparesF s)) ∧ Below w.heap.size w w' := by
  have HR := Lib.hid (fun W => read_any s W hs)
  obtain ⟨x, hx⟩ : ∃ x, readF (spell s.data.toList) = x := ⟨_, rfl⟩
  obtain ⟨f, q, ok⟩ := x
  have HX := Lib.hid hx
  have HR2 := Lib.hid (fun W => (HR.out W).mono fun e w' (h : ReadP s W e w') => (show e = .returned (.tuple #[.agg #[.int .i32 f, .bool q], .bool ok]) ∧ Below W.heap.size W w' from by obtain ⟨h1, h2⟩ := h; rw [HX.out] at h1; exact ⟨h1, h2⟩))
  have HE := Lib.hid (show comparesF s = (ok && cmpB f q) by unfold comparesF signOf; rw [HX.out]; cases ok <;> rfl)
  have HC := Lib.hid (fun W => compares_any f q W)
  clear hx HR
  rw [HE.out]
  cases ok with
  | false =>
    go_enter Tryz.func107, Tryz.ntmps107
    go_wp2_with fail
    refine (HR2.out _).mono ?_
    rintro e w1 ⟨rfl, b1⟩
    have HB := Lib.hid b1
    clear b1
    go_wp2_with fail
    go_ret
    exact ⟨rfl, HB.out.alloc HB.out.size _⟩
  | true =>
    go_enter Tryz.func107, Tryz.ntmps107
    go_wp2_with fail
    refine (HR2.out _).mono ?_
    rintro e w1 ⟨rfl, b1⟩
    have HB := Lib.hid b1
    clear b1
    go_wp2_with fail
    refine (HC.out _).mono ?_
    rintro e w2 ⟨rfl, b2⟩
    have HB2 := Lib.hid b2
    clear b2
    go_wp2
    go_ret
    exact ⟨by simp, (HB.out.alloc HB.out.size _).trans (HB2.out.mono (by have := HB.out.size; simp; omega))⟩
end Go.Proofs.YtbdnonphkobkoaaGreat.Fix
end
