/- Walks: a purse: how it lies, what each call of it does. -/
import Derived.Test.YtlnlhimnbiabcaaPua
import Derived.Test.YtlnlhimnbiabcaaProg
import Derived.WalkKit
import Derived.BigCall
import Derived.BigQuiet
import Derived.Lib.OthersKept
import Derived.Lib.Hide
import Derived.Lib.MinMax
import Derived.OneCell
import Derived.Laws.OwnMore
import Derived.Laws.StructEq
import Derived.Deep.DeepMust
import Derived.Deep.QuietTactic
import Derived.Deep.RegionWith
import Derived.Deep.RegionHeld3
namespace Go.Proofs.Ytlnlhimnbiabcaa.Pur
open Go.RowKit Go.Lib

/-- A purse in block b. -/
structure Pt (w : World) (b : Nat) (p : Pu) : Prop where
  row : w.heap[b]? = some (.cells #[.bool true, .int .i64 p.room, .int .i64 p.now, .int .i64 p.high] 35 (0, 0))
  well : WellP p
theorem Pt.lt {w : World} {b : Nat} {p : Pu} (h : Pt w b p) : b < w.heap.size := (Array.getElem?_eq_some_iff.1 h.row).1
theorem Pt.c0 {w : World} {b : Nat} {p : Pu} (h : Pt w b p) : w.cell? ⟨b, 0, none⟩ = some (.bool true) := by simp [World.cell?, h.row]
theorem Pt.c1 {w : World} {b : Nat} {p : Pu} (h : Pt w b p) : w.cell? ⟨b, 1, none⟩ = some (.int .i64 p.room) := by simp [World.cell?, h.row]
theorem Pt.c2 {w : World} {b : Nat} {p : Pu} (h : Pt w b p) : w.cell? ⟨b, 2, none⟩ = some (.int .i64 p.now) := by simp [World.cell?, h.row]
theorem Pt.c3 {w : World} {b : Nat} {p : Pu} (h : Pt w b p) : w.cell? ⟨b, 3, none⟩ = some (.int .i64 p.high) := by simp [World.cell?, h.row]
theorem Pt.fr {w : World} {b : Nat} {p : Pu} (h : Pt w b p) (i : Nat) : w.frozen? ⟨b, i, none⟩ = false := by simp [World.frozen?, h.row]
theorem Pt.keep {w w' : World} {b : Nat} {p : Pu} (h : Pt w b p) (hb : w'.heap[b]? = w.heap[b]?) : Pt w' b p := ⟨hb.trans h.row, h.well⟩
theorem Pt.below {w w' : World} {b : Nat} {p : Pu} (h : Pt w b p) (hb : Below w.heap.size w w') : Pt w' b p := h.keep (hb.block b h.lt)
theorem grown_set (w : World) (bd i : Nat) (u : Value) : w.grownBy (w.setCell ⟨bd, i, none⟩ u) (some bd) :=
  ⟨rfl, rfl, rfl, by simp [World.setCell], fun k _ hk => heap_setCell_other w ⟨bd, i, none⟩ k u (fun e => hk (by simp [e]))⟩
theorem grown_trans {a b c : World} {r : Option Nat} (h : a.grownBy b r) (k : b.grownBy c r) : a.grownBy c r :=
  ⟨k.os.trans h.os, k.tape.trans h.tape, k.output.trans h.output, Nat.le_trans h.size k.size, fun i hi hr => (k.block i (Nat.lt_of_lt_of_le hi h.size) hr).trans (h.block i hi hr)⟩
theorem below_own {B b : Nat} {w w' : World} (h : w.grownBy w' (some b)) (hb : B ≤ b) (hl : b < w.heap.size) : Below B w w' :=
  ⟨h.os, h.tape, h.output, h.size, fun k hk => h.block k (by omega) (by simp; omega)⟩
/-- What Take writes. -/
theorem Pt.take {w : World} {b : Nat} {p : Pu} (h : Pt w b p) (x y : Int) (hw : WellP ⟨p.room, x, y⟩) : Pt ((w.setCell ⟨b, 2, none⟩ (.int .i64 x)).setCell ⟨b, 3, none⟩ (.int .i64 y)) b ⟨p.room, x, y⟩ :=
  ⟨by rw [heap_setCell_same _ _ _ _ _ _ (heap_setCell_same _ _ _ _ _ _ h.row)]; rfl, hw⟩
theorem Pt.give {w : World} {b : Nat} {p : Pu} (h : Pt w b p) (x : Int) (hw : WellP ⟨p.room, x, p.high⟩) : Pt (w.setCell ⟨b, 2, none⟩ (.int .i64 x)) b ⟨p.room, x, p.high⟩ :=
  ⟨by rw [heap_setCell_same _ _ _ _ _ _ h.row]; rfl, hw⟩

set_option maxHeartbeats 1000000 in
set_option maxRecDepth 100000 in
theorem new_any (a : Int) (w : World) : Calls Try.prog 7 #[.int .i64 a] w fun e w' => e = .returned (.pointer (some ⟨w.heap.size, 0, none⟩)) ∧ Pt w' w.heap.size (newP a) ∧ Below w.heap.size w w' := by
  have HN := Lib.hid (show newP a = ⟨min (max a 0) 1000000, 0, 0⟩ from rfl)
  have HW := Lib.hid (well_new a)
  obtain ⟨r, hr⟩ : ∃ r, min (max a 0) 1000000 = r := ⟨_, rfl⟩
  rw [hr] at HN
  go_enter Try.func7, Try.ntmps7
  go_wp2
  go_ret
  rw [HN.out] at HW ⊢
  exact ⟨rfl, ⟨Array.getElem?_push_size, HW.out⟩, (Below.refl _ _).alloc (Nat.le_refl _) _⟩

set_option maxHeartbeats 1000000 in
set_option maxRecDepth 100000 in
theorem ready_any (b : Nat) (p : Pu) (w : World) (h : Pt w b p) : Calls Try.prog 13 #[.pointer (some ⟨b, 0, none⟩)] w fun e w' => e = .returned (.bool true) ∧ w' = w := by
  have c0 := h.c0
  clear h
  go_enter Try.func13, Try.ntmps13
  go_wp2
  go_ret
  exact ⟨rfl, rfl⟩
set_option maxHeartbeats 1000000 in
set_option maxRecDepth 100000 in
theorem ready_nil (w : World) : Calls Try.prog 13 #[.pointer none] w fun e w' => e = .returned (.bool false) ∧ w' = w := by
  go_enter Try.func13, Try.ntmps13
  go_wp2
  go_ret
  exact ⟨rfl, rfl⟩

set_option maxHeartbeats 1000000 in
set_option maxRecDepth 100000 in
theorem now_any (b : Nat) (p : Pu) (w : World) (h : Pt w b p) : Calls Try.prog 10 #[.pointer (some ⟨b, 0, none⟩)] w fun e w' => e = .returned (.int .i64 p.now) ∧ w' = w := by
  have c2 := h.c2
  clear h
  go_enter Try.func10, Try.ntmps10
  go_wp2
  go_ret
  exact ⟨rfl, rfl⟩
set_option maxHeartbeats 1000000 in
set_option maxRecDepth 100000 in
theorem now_nil (w : World) : Calls Try.prog 10 #[.pointer none] w fun e w' => e = .returned (.int .i64 0) ∧ w' = w := by
  go_enter Try.func10, Try.ntmps10
  go_wp2
  go_ret
  exact ⟨rfl, rfl⟩

set_option maxHeartbeats 1000000 in
set_option maxRecDepth 100000 in
theorem high_any (b : Nat) (p : Pu) (w : World) (h : Pt w b p) : Calls Try.prog 11 #[.pointer (some ⟨b, 0, none⟩)] w fun e w' => e = .returned (.int .i64 p.high) ∧ w' = w := by
  have c3 := h.c3
  clear h
  go_enter Try.func11, Try.ntmps11
  go_wp2
  go_ret
  exact ⟨rfl, rfl⟩
set_option maxHeartbeats 1000000 in
set_option maxRecDepth 100000 in
theorem high_nil (w : World) : Calls Try.prog 11 #[.pointer none] w fun e w' => e = .returned (.int .i64 0) ∧ w' = w := by
  go_enter Try.func11, Try.ntmps11
  go_wp2
  go_ret
  exact ⟨rfl, rfl⟩

set_option maxHeartbeats 1000000 in
set_option maxRecDepth 100000 in
theorem left_any (b : Nat) (p : Pu) (w : World) (h : Pt w b p) : Calls Try.prog 12 #[.pointer (some ⟨b, 0, none⟩)] w fun e w' => e = .returned (.int .i64 (p.room - p.now)) ∧ ∃ n, w' = w.drewN n := by
  have c1 := h.c1
  have c2 := h.c2
  obtain ⟨h1, h2, h3, h4⟩ := h.well
  have hs : IntKind.i64.wrap (p.room - p.now) = p.room - p.now := by rw [IntKind.wrap_i64]; omega
  clear h h1 h2 h3 h4
  go_enter Try.func12, Try.ntmps12
  go_wp2_with fail
  go_quiet (fail)
  go_wp2
  go_ret
  exact ⟨rfl, _, rfl⟩
set_option maxHeartbeats 1000000 in
set_option maxRecDepth 100000 in
theorem left_nil (w : World) : Calls Try.prog 12 #[.pointer none] w fun e w' => e = .returned (.int .i64 0) ∧ w' = w := by
  go_enter Try.func12, Try.ntmps12
  go_wp2
  go_ret
  exact ⟨rfl, rfl⟩
end Go.Proofs.Ytlnlhimnbiabcaa.Pur
