/- The book of lists, ninth part: the kinds of which it holds nothing. -/
import Derived.Test.YtbdnonphkobkoaaGreatKrh
namespace Go.Proofs.YtbdnonphkobkoaaGreat.BkR
open Go.RowKit

set_option maxRecDepth 100000 in
theorem stillTexts_none (bk : Nat) (cs : Array Value) (w : World) (hbk : w.heap[bk]? = some (.cells cs 39 (0, 0))) (h : cs[0]? = some (.slice none 0 0)) :
    Calls Tryz.prog 56 #[.pointer (some ⟨bk, 0, none⟩)] w fun e w' => e = .returned (.bool true) ∧ w' = w := by
  have c0 : w.cell? ⟨bk, 0, none⟩ = some (.slice none 0 0) := by rw [cell_of_row w bk 0 cs 39 (0, 0) hbk]; exact h
  clear hbk h
  go_enter Tryz.func56, Tryz.ntmps56
  go_wp2
  go_loopw [3] (fun vi wr => vi = .int .i64 0 ∧ wr = w) (fun _ _ => 0)
  case atStart => exact ⟨rfl, rfl⟩
  case round =>
    obtain ⟨rfl, rfl⟩ := hrel
    go_wp2
    go_ret
    exact ⟨rfl, rfl⟩
set_option maxRecDepth 100000 in
theorem putTexts_none (bk : Nat) (cs : Array Value) (w : World) (hbk : w.heap[bk]? = some (.cells cs 39 (0, 0))) (h : cs[0]? = some (.slice none 0 0)) :
    Calls Tryz.prog 68 #[.pointer (some ⟨bk, 0, none⟩)] w fun e w' => e = .returned (.tuple #[]) ∧ w' = w := by
  have c0 : w.cell? ⟨bk, 0, none⟩ = some (.slice none 0 0) := by rw [cell_of_row w bk 0 cs 39 (0, 0) hbk]; exact h
  clear hbk h
  go_enter Tryz.func68, Tryz.ntmps68
  go_wp2
  go_loopw [2] (fun vi wr => vi = .int .i64 0 ∧ wr = w) (fun _ _ => 0)
  case atStart => exact ⟨rfl, rfl⟩
  case round =>
    obtain ⟨rfl, rfl⟩ := hrel
    go_wp2
    go_end0
    exact ⟨rfl, rfl⟩
set_option maxRecDepth 100000 in
theorem growTexts_none (bk : Nat) (cs : Array Value) (w : World) (hbk : w.heap[bk]? = some (.cells cs 39 (0, 0))) (h : cs[0]? = some (.slice none 0 0)) :
    Calls Tryz.prog 76 #[.pointer (some ⟨bk, 0, none⟩)] w fun e w' => e = .returned (.slice none 0 0) ∧ w' = w := by
  have c0 : w.cell? ⟨bk, 0, none⟩ = some (.slice none 0 0) := by rw [cell_of_row w bk 0 cs 39 (0, 0) hbk]; exact h
  clear hbk h
  go_enter Tryz.func76, Tryz.ntmps76
  go_wp2
  go_loopw [3, 4] (fun vo vi wr => vo = .slice none 0 0 ∧ vi = .int .i64 0 ∧ wr = w) (fun _ _ _ => 0)
  case atStart => exact ⟨rfl, rfl, rfl⟩
  case round =>
    obtain ⟨rfl, rfl, rfl⟩ := hrel
    go_wp2
    go_ret
    exact ⟨rfl, rfl⟩
set_option maxRecDepth 100000 in
theorem markedTexts_none (w : World) :
    Calls Tryz.prog 86 #[.slice none 0 0] w fun e w' => e = .returned (.bool true) ∧ w' = w := by
  go_enter Tryz.func86, Tryz.ntmps86
  go_wp2
  go_loopw [3] (fun vi wr => vi = .int .i64 0 ∧ wr = w) (fun _ _ => 0)
  case atStart => exact ⟨rfl, rfl⟩
  case round =>
    obtain ⟨rfl, rfl⟩ := hrel
    go_wp2
    go_ret
    exact ⟨rfl, rfl⟩

set_option maxRecDepth 100000 in
theorem stillInts_none (bk : Nat) (cs : Array Value) (w : World) (hbk : w.heap[bk]? = some (.cells cs 39 (0, 0))) (h : cs[2]? = some (.slice none 0 0)) :
    Calls Tryz.prog 57 #[.pointer (some ⟨bk, 0, none⟩)] w fun e w' => e = .returned (.bool true) ∧ w' = w := by
  have c0 : w.cell? ⟨bk, 2, none⟩ = some (.slice none 0 0) := by rw [cell_of_row w bk 2 cs 39 (0, 0) hbk]; exact h
  clear hbk h
  go_enter Tryz.func57, Tryz.ntmps57
  go_wp2
  go_loopw [3] (fun vi wr => vi = .int .i64 0 ∧ wr = w) (fun _ _ => 0)
  case atStart => exact ⟨rfl, rfl⟩
  case round =>
    obtain ⟨rfl, rfl⟩ := hrel
    go_wp2
    go_ret
    exact ⟨rfl, rfl⟩
set_option maxRecDepth 100000 in
theorem putInts_none (bk : Nat) (cs : Array Value) (w : World) (hbk : w.heap[bk]? = some (.cells cs 39 (0, 0))) (h : cs[2]? = some (.slice none 0 0)) :
    Calls Tryz.prog 69 #[.pointer (some ⟨bk, 0, none⟩)] w fun e w' => e = .returned (.tuple #[]) ∧ w' = w := by
  have c0 : w.cell? ⟨bk, 2, none⟩ = some (.slice none 0 0) := by rw [cell_of_row w bk 2 cs 39 (0, 0) hbk]; exact h
  clear hbk h
  go_enter Tryz.func69, Tryz.ntmps69
  go_wp2
  go_loopw [2] (fun vi wr => vi = .int .i64 0 ∧ wr = w) (fun _ _ => 0)
  case atStart => exact ⟨rfl, rfl⟩
  case round =>
    obtain ⟨rfl, rfl⟩ := hrel
    go_wp2
    go_end0
    exact ⟨rfl, rfl⟩
set_option maxRecDepth 100000 in
theorem growInts_none (bk : Nat) (cs : Array Value) (w : World) (hbk : w.heap[bk]? = some (.cells cs 39 (0, 0))) (h : cs[2]? = some (.slice none 0 0)) :
    Calls Tryz.prog 77 #[.pointer (some ⟨bk, 0, none⟩)] w fun e w' => e = .returned (.slice none 0 0) ∧ w' = w := by
  have c0 : w.cell? ⟨bk, 2, none⟩ = some (.slice none 0 0) := by rw [cell_of_row w bk 2 cs 39 (0, 0) hbk]; exact h
  clear hbk h
  go_enter Tryz.func77, Tryz.ntmps77
  go_wp2
  go_loopw [3, 4] (fun vo vi wr => vo = .slice none 0 0 ∧ vi = .int .i64 0 ∧ wr = w) (fun _ _ _ => 0)
  case atStart => exact ⟨rfl, rfl, rfl⟩
  case round =>
    obtain ⟨rfl, rfl, rfl⟩ := hrel
    go_wp2
    go_ret
    exact ⟨rfl, rfl⟩
set_option maxRecDepth 100000 in
theorem markedInts_none (w : World) :
    Calls Tryz.prog 87 #[.slice none 0 0] w fun e w' => e = .returned (.bool true) ∧ w' = w := by
  go_enter Tryz.func87, Tryz.ntmps87
  go_wp2
  go_loopw [3] (fun vi wr => vi = .int .i64 0 ∧ wr = w) (fun _ _ => 0)
  case atStart => exact ⟨rfl, rfl⟩
  case round =>
    obtain ⟨rfl, rfl⟩ := hrel
    go_wp2
    go_ret
    exact ⟨rfl, rfl⟩

set_option maxRecDepth 100000 in
theorem stillRunes_none (bk : Nat) (cs : Array Value) (w : World) (hbk : w.heap[bk]? = some (.cells cs 39 (0, 0))) (h : cs[4]? = some (.slice none 0 0)) :
    Calls Tryz.prog 58 #[.pointer (some ⟨bk, 0, none⟩)] w fun e w' => e = .returned (.bool true) ∧ w' = w := by
  have c0 : w.cell? ⟨bk, 4, none⟩ = some (.slice none 0 0) := by rw [cell_of_row w bk 4 cs 39 (0, 0) hbk]; exact h
  clear hbk h
  go_enter Tryz.func58, Tryz.ntmps58
  go_wp2
  go_loopw [3] (fun vi wr => vi = .int .i64 0 ∧ wr = w) (fun _ _ => 0)
  case atStart => exact ⟨rfl, rfl⟩
  case round =>
    obtain ⟨rfl, rfl⟩ := hrel
    go_wp2
    go_ret
    exact ⟨rfl, rfl⟩
set_option maxRecDepth 100000 in
theorem putRunes_none (bk : Nat) (cs : Array Value) (w : World) (hbk : w.heap[bk]? = some (.cells cs 39 (0, 0))) (h : cs[4]? = some (.slice none 0 0)) :
    Calls Tryz.prog 70 #[.pointer (some ⟨bk, 0, none⟩)] w fun e w' => e = .returned (.tuple #[]) ∧ w' = w := by
  have c0 : w.cell? ⟨bk, 4, none⟩ = some (.slice none 0 0) := by rw [cell_of_row w bk 4 cs 39 (0, 0) hbk]; exact h
  clear hbk h
  go_enter Tryz.func70, Tryz.ntmps70
  go_wp2
  go_loopw [2] (fun vi wr => vi = .int .i64 0 ∧ wr = w) (fun _ _ => 0)
  case atStart => exact ⟨rfl, rfl⟩
  case round =>
    obtain ⟨rfl, rfl⟩ := hrel
    go_wp2
    go_end0
    exact ⟨rfl, rfl⟩
set_option maxRecDepth 100000 in
theorem growRunes_none (bk : Nat) (cs : Array Value) (w : World) (hbk : w.heap[bk]? = some (.cells cs 39 (0, 0))) (h : cs[4]? = some (.slice none 0 0)) :
    Calls Tryz.prog 78 #[.pointer (some ⟨bk, 0, none⟩)] w fun e w' => e = .returned (.slice none 0 0) ∧ w' = w := by
  have c0 : w.cell? ⟨bk, 4, none⟩ = some (.slice none 0 0) := by rw [cell_of_row w bk 4 cs 39 (0, 0) hbk]; exact h
  clear hbk h
  go_enter Tryz.func78, Tryz.ntmps78
  go_wp2
  go_loopw [3, 4] (fun vo vi wr => vo = .slice none 0 0 ∧ vi = .int .i64 0 ∧ wr = w) (fun _ _ _ => 0)
  case atStart => exact ⟨rfl, rfl, rfl⟩
  case round =>
    obtain ⟨rfl, rfl, rfl⟩ := hrel
    go_wp2
    go_ret
    exact ⟨rfl, rfl⟩
set_option maxRecDepth 100000 in
theorem markedRunes_none (w : World) :
    Calls Tryz.prog 88 #[.slice none 0 0] w fun e w' => e = .returned (.bool true) ∧ w' = w := by
  go_enter Tryz.func88, Tryz.ntmps88
  go_wp2
  go_loopw [3] (fun vi wr => vi = .int .i64 0 ∧ wr = w) (fun _ _ => 0)
  case atStart => exact ⟨rfl, rfl⟩
  case round =>
    obtain ⟨rfl, rfl⟩ := hrel
    go_wp2
    go_ret
    exact ⟨rfl, rfl⟩

set_option maxRecDepth 100000 in
theorem stillLabels_none (bk : Nat) (cs : Array Value) (w : World) (hbk : w.heap[bk]? = some (.cells cs 39 (0, 0))) (h : cs[6]? = some (.slice none 0 0)) :
    Calls Tryz.prog 59 #[.pointer (some ⟨bk, 0, none⟩)] w fun e w' => e = .returned (.bool true) ∧ w' = w := by
  have c0 : w.cell? ⟨bk, 6, none⟩ = some (.slice none 0 0) := by rw [cell_of_row w bk 6 cs 39 (0, 0) hbk]; exact h
  clear hbk h
  go_enter Tryz.func59, Tryz.ntmps59
  go_wp2
  go_loopw [3] (fun vi wr => vi = .int .i64 0 ∧ wr = w) (fun _ _ => 0)
  case atStart => exact ⟨rfl, rfl⟩
  case round =>
    obtain ⟨rfl, rfl⟩ := hrel
    go_wp2
    go_ret
    exact ⟨rfl, rfl⟩
set_option maxRecDepth 100000 in
theorem putLabels_none (bk : Nat) (cs : Array Value) (w : World) (hbk : w.heap[bk]? = some (.cells cs 39 (0, 0))) (h : cs[6]? = some (.slice none 0 0)) :
    Calls Tryz.prog 71 #[.pointer (some ⟨bk, 0, none⟩)] w fun e w' => e = .returned (.tuple #[]) ∧ w' = w := by
  have c0 : w.cell? ⟨bk, 6, none⟩ = some (.slice none 0 0) := by rw [cell_of_row w bk 6 cs 39 (0, 0) hbk]; exact h
  clear hbk h
  go_enter Tryz.func71, Tryz.ntmps71
  go_wp2
  go_loopw [2] (fun vi wr => vi = .int .i64 0 ∧ wr = w) (fun _ _ => 0)
  case atStart => exact ⟨rfl, rfl⟩
  case round =>
    obtain ⟨rfl, rfl⟩ := hrel
    go_wp2
    go_end0
    exact ⟨rfl, rfl⟩
set_option maxRecDepth 100000 in
theorem growLabels_none (bk : Nat) (cs : Array Value) (w : World) (hbk : w.heap[bk]? = some (.cells cs 39 (0, 0))) (h : cs[6]? = some (.slice none 0 0)) :
    Calls Tryz.prog 79 #[.pointer (some ⟨bk, 0, none⟩)] w fun e w' => e = .returned (.slice none 0 0) ∧ w' = w := by
  have c0 : w.cell? ⟨bk, 6, none⟩ = some (.slice none 0 0) := by rw [cell_of_row w bk 6 cs 39 (0, 0) hbk]; exact h
  clear hbk h
  go_enter Tryz.func79, Tryz.ntmps79
  go_wp2
  go_loopw [3, 4] (fun vo vi wr => vo = .slice none 0 0 ∧ vi = .int .i64 0 ∧ wr = w) (fun _ _ _ => 0)
  case atStart => exact ⟨rfl, rfl, rfl⟩
  case round =>
    obtain ⟨rfl, rfl, rfl⟩ := hrel
    go_wp2
    go_ret
    exact ⟨rfl, rfl⟩
set_option maxRecDepth 100000 in
theorem markedLabels_none (w : World) :
    Calls Tryz.prog 89 #[.slice none 0 0] w fun e w' => e = .returned (.bool true) ∧ w' = w := by
  go_enter Tryz.func89, Tryz.ntmps89
  go_wp2
  go_loopw [3] (fun vi wr => vi = .int .i64 0 ∧ wr = w) (fun _ _ => 0)
  case atStart => exact ⟨rfl, rfl⟩
  case round =>
    obtain ⟨rfl, rfl⟩ := hrel
    go_wp2
    go_ret
    exact ⟨rfl, rfl⟩

set_option maxRecDepth 100000 in
theorem stillPoints_none (bk : Nat) (cs : Array Value) (w : World) (hbk : w.heap[bk]? = some (.cells cs 39 (0, 0))) (h : cs[8]? = some (.slice none 0 0)) :
    Calls Tryz.prog 60 #[.pointer (some ⟨bk, 0, none⟩)] w fun e w' => e = .returned (.bool true) ∧ w' = w := by
  have c0 : w.cell? ⟨bk, 8, none⟩ = some (.slice none 0 0) := by rw [cell_of_row w bk 8 cs 39 (0, 0) hbk]; exact h
  clear hbk h
  go_enter Tryz.func60, Tryz.ntmps60
  go_wp2
  go_loopw [3] (fun vi wr => vi = .int .i64 0 ∧ wr = w) (fun _ _ => 0)
  case atStart => exact ⟨rfl, rfl⟩
  case round =>
    obtain ⟨rfl, rfl⟩ := hrel
    go_wp2
    go_ret
    exact ⟨rfl, rfl⟩
set_option maxRecDepth 100000 in
theorem putPoints_none (bk : Nat) (cs : Array Value) (w : World) (hbk : w.heap[bk]? = some (.cells cs 39 (0, 0))) (h : cs[8]? = some (.slice none 0 0)) :
    Calls Tryz.prog 72 #[.pointer (some ⟨bk, 0, none⟩)] w fun e w' => e = .returned (.tuple #[]) ∧ w' = w := by
  have c0 : w.cell? ⟨bk, 8, none⟩ = some (.slice none 0 0) := by rw [cell_of_row w bk 8 cs 39 (0, 0) hbk]; exact h
  clear hbk h
  go_enter Tryz.func72, Tryz.ntmps72
  go_wp2
  go_loopw [2] (fun vi wr => vi = .int .i64 0 ∧ wr = w) (fun _ _ => 0)
  case atStart => exact ⟨rfl, rfl⟩
  case round =>
    obtain ⟨rfl, rfl⟩ := hrel
    go_wp2
    go_end0
    exact ⟨rfl, rfl⟩
set_option maxRecDepth 100000 in
theorem growPoints_none (bk : Nat) (cs : Array Value) (w : World) (hbk : w.heap[bk]? = some (.cells cs 39 (0, 0))) (h : cs[8]? = some (.slice none 0 0)) :
    Calls Tryz.prog 80 #[.pointer (some ⟨bk, 0, none⟩)] w fun e w' => e = .returned (.slice none 0 0) ∧ w' = w := by
  have c0 : w.cell? ⟨bk, 8, none⟩ = some (.slice none 0 0) := by rw [cell_of_row w bk 8 cs 39 (0, 0) hbk]; exact h
  clear hbk h
  go_enter Tryz.func80, Tryz.ntmps80
  go_wp2
  go_loopw [3, 4] (fun vo vi wr => vo = .slice none 0 0 ∧ vi = .int .i64 0 ∧ wr = w) (fun _ _ _ => 0)
  case atStart => exact ⟨rfl, rfl, rfl⟩
  case round =>
    obtain ⟨rfl, rfl, rfl⟩ := hrel
    go_wp2
    go_ret
    exact ⟨rfl, rfl⟩
set_option maxRecDepth 100000 in
theorem markedPoints_none (w : World) :
    Calls Tryz.prog 90 #[.slice none 0 0] w fun e w' => e = .returned (.bool true) ∧ w' = w := by
  go_enter Tryz.func90, Tryz.ntmps90
  go_wp2
  go_loopw [3] (fun vi wr => vi = .int .i64 0 ∧ wr = w) (fun _ _ => 0)
  case atStart => exact ⟨rfl, rfl⟩
  case round =>
    obtain ⟨rfl, rfl⟩ := hrel
    go_wp2
    go_ret
    exact ⟨rfl, rfl⟩

set_option maxRecDepth 100000 in
theorem stillTokens_none (bk : Nat) (cs : Array Value) (w : World) (hbk : w.heap[bk]? = some (.cells cs 39 (0, 0))) (h : cs[10]? = some (.slice none 0 0)) :
    Calls Tryz.prog 61 #[.pointer (some ⟨bk, 0, none⟩)] w fun e w' => e = .returned (.bool true) ∧ w' = w := by
  have c0 : w.cell? ⟨bk, 10, none⟩ = some (.slice none 0 0) := by rw [cell_of_row w bk 10 cs 39 (0, 0) hbk]; exact h
  clear hbk h
  go_enter Tryz.func61, Tryz.ntmps61
  go_wp2
  go_loopw [3] (fun vi wr => vi = .int .i64 0 ∧ wr = w) (fun _ _ => 0)
  case atStart => exact ⟨rfl, rfl⟩
  case round =>
    obtain ⟨rfl, rfl⟩ := hrel
    go_wp2
    go_ret
    exact ⟨rfl, rfl⟩
set_option maxRecDepth 100000 in
theorem putTokens_none (bk : Nat) (cs : Array Value) (w : World) (hbk : w.heap[bk]? = some (.cells cs 39 (0, 0))) (h : cs[10]? = some (.slice none 0 0)) :
    Calls Tryz.prog 73 #[.pointer (some ⟨bk, 0, none⟩)] w fun e w' => e = .returned (.tuple #[]) ∧ w' = w := by
  have c0 : w.cell? ⟨bk, 10, none⟩ = some (.slice none 0 0) := by rw [cell_of_row w bk 10 cs 39 (0, 0) hbk]; exact h
  clear hbk h
  go_enter Tryz.func73, Tryz.ntmps73
  go_wp2
  go_loopw [2] (fun vi wr => vi = .int .i64 0 ∧ wr = w) (fun _ _ => 0)
  case atStart => exact ⟨rfl, rfl⟩
  case round =>
    obtain ⟨rfl, rfl⟩ := hrel
    go_wp2
    go_end0
    exact ⟨rfl, rfl⟩
set_option maxRecDepth 100000 in
theorem growTokens_none (bk : Nat) (cs : Array Value) (w : World) (hbk : w.heap[bk]? = some (.cells cs 39 (0, 0))) (h : cs[10]? = some (.slice none 0 0)) :
    Calls Tryz.prog 81 #[.pointer (some ⟨bk, 0, none⟩)] w fun e w' => e = .returned (.slice none 0 0) ∧ w' = w := by
  have c0 : w.cell? ⟨bk, 10, none⟩ = some (.slice none 0 0) := by rw [cell_of_row w bk 10 cs 39 (0, 0) hbk]; exact h
  clear hbk h
  go_enter Tryz.func81, Tryz.ntmps81
  go_wp2
  go_loopw [3, 4] (fun vo vi wr => vo = .slice none 0 0 ∧ vi = .int .i64 0 ∧ wr = w) (fun _ _ _ => 0)
  case atStart => exact ⟨rfl, rfl, rfl⟩
  case round =>
    obtain ⟨rfl, rfl, rfl⟩ := hrel
    go_wp2
    go_ret
    exact ⟨rfl, rfl⟩
set_option maxRecDepth 100000 in
theorem markedTokens_none (w : World) :
    Calls Tryz.prog 91 #[.slice none 0 0] w fun e w' => e = .returned (.bool true) ∧ w' = w := by
  go_enter Tryz.func91, Tryz.ntmps91
  go_wp2
  go_loopw [3] (fun vi wr => vi = .int .i64 0 ∧ wr = w) (fun _ _ => 0)
  case atStart => exact ⟨rfl, rfl⟩
  case round =>
    obtain ⟨rfl, rfl⟩ := hrel
    go_wp2
    go_ret
    exact ⟨rfl, rfl⟩

set_option maxRecDepth 100000 in
theorem stillCursors_none (bk : Nat) (cs : Array Value) (w : World) (hbk : w.heap[bk]? = some (.cells cs 39 (0, 0))) (h : cs[12]? = some (.slice none 0 0)) :
    Calls Tryz.prog 62 #[.pointer (some ⟨bk, 0, none⟩)] w fun e w' => e = .returned (.bool true) ∧ w' = w := by
  have c0 : w.cell? ⟨bk, 12, none⟩ = some (.slice none 0 0) := by rw [cell_of_row w bk 12 cs 39 (0, 0) hbk]; exact h
  clear hbk h
  go_enter Tryz.func62, Tryz.ntmps62
  go_wp2
  go_loopw [3] (fun vi wr => vi = .int .i64 0 ∧ wr = w) (fun _ _ => 0)
  case atStart => exact ⟨rfl, rfl⟩
  case round =>
    obtain ⟨rfl, rfl⟩ := hrel
    go_wp2
    go_ret
    exact ⟨rfl, rfl⟩
set_option maxRecDepth 100000 in
theorem putCursors_none (bk : Nat) (cs : Array Value) (w : World) (hbk : w.heap[bk]? = some (.cells cs 39 (0, 0))) (h : cs[12]? = some (.slice none 0 0)) :
    Calls Tryz.prog 74 #[.pointer (some ⟨bk, 0, none⟩)] w fun e w' => e = .returned (.tuple #[]) ∧ w' = w := by
  have c0 : w.cell? ⟨bk, 12, none⟩ = some (.slice none 0 0) := by rw [cell_of_row w bk 12 cs 39 (0, 0) hbk]; exact h
  clear hbk h
  go_enter Tryz.func74, Tryz.ntmps74
  go_wp2
  go_loopw [2] (fun vi wr => vi = .int .i64 0 ∧ wr = w) (fun _ _ => 0)
  case atStart => exact ⟨rfl, rfl⟩
  case round =>
    obtain ⟨rfl, rfl⟩ := hrel
    go_wp2
    go_end0
    exact ⟨rfl, rfl⟩
set_option maxRecDepth 100000 in
theorem growCursors_none (bk : Nat) (cs : Array Value) (w : World) (hbk : w.heap[bk]? = some (.cells cs 39 (0, 0))) (h : cs[12]? = some (.slice none 0 0)) :
    Calls Tryz.prog 82 #[.pointer (some ⟨bk, 0, none⟩)] w fun e w' => e = .returned (.slice none 0 0) ∧ w' = w := by
  have c0 : w.cell? ⟨bk, 12, none⟩ = some (.slice none 0 0) := by rw [cell_of_row w bk 12 cs 39 (0, 0) hbk]; exact h
  clear hbk h
  go_enter Tryz.func82, Tryz.ntmps82
  go_wp2
  go_loopw [3, 4] (fun vo vi wr => vo = .slice none 0 0 ∧ vi = .int .i64 0 ∧ wr = w) (fun _ _ _ => 0)
  case atStart => exact ⟨rfl, rfl, rfl⟩
  case round =>
    obtain ⟨rfl, rfl, rfl⟩ := hrel
    go_wp2
    go_ret
    exact ⟨rfl, rfl⟩
set_option maxRecDepth 100000 in
theorem markedCursors_none (w : World) :
    Calls Tryz.prog 92 #[.slice none 0 0] w fun e w' => e = .returned (.bool true) ∧ w' = w := by
  go_enter Tryz.func92, Tryz.ntmps92
  go_wp2
  go_loopw [3] (fun vi wr => vi = .int .i64 0 ∧ wr = w) (fun _ _ => 0)
  case atStart => exact ⟨rfl, rfl⟩
  case round =>
    obtain ⟨rfl, rfl⟩ := hrel
    go_wp2
    go_ret
    exact ⟨rfl, rfl⟩

set_option maxRecDepth 100000 in
theorem stillNotes_none (bk : Nat) (cs : Array Value) (w : World) (hbk : w.heap[bk]? = some (.cells cs 39 (0, 0))) (h : cs[14]? = some (.slice none 0 0)) :
    Calls Tryz.prog 63 #[.pointer (some ⟨bk, 0, none⟩)] w fun e w' => e = .returned (.bool true) ∧ w' = w := by
  have c0 : w.cell? ⟨bk, 14, none⟩ = some (.slice none 0 0) := by rw [cell_of_row w bk 14 cs 39 (0, 0) hbk]; exact h
  clear hbk h
  go_enter Tryz.func63, Tryz.ntmps63
  go_wp2
  go_loopw [3] (fun vi wr => vi = .int .i64 0 ∧ wr = w) (fun _ _ => 0)
  case atStart => exact ⟨rfl, rfl⟩
  case round =>
    obtain ⟨rfl, rfl⟩ := hrel
    go_wp2
    go_ret
    exact ⟨rfl, rfl⟩
set_option maxRecDepth 100000 in
theorem putNotes_none (bk : Nat) (cs : Array Value) (w : World) (hbk : w.heap[bk]? = some (.cells cs 39 (0, 0))) (h : cs[14]? = some (.slice none 0 0)) :
    Calls Tryz.prog 75 #[.pointer (some ⟨bk, 0, none⟩)] w fun e w' => e = .returned (.tuple #[]) ∧ w' = w := by
  have c0 : w.cell? ⟨bk, 14, none⟩ = some (.slice none 0 0) := by rw [cell_of_row w bk 14 cs 39 (0, 0) hbk]; exact h
  clear hbk h
  go_enter Tryz.func75, Tryz.ntmps75
  go_wp2
  go_loopw [2] (fun vi wr => vi = .int .i64 0 ∧ wr = w) (fun _ _ => 0)
  case atStart => exact ⟨rfl, rfl⟩
  case round =>
    obtain ⟨rfl, rfl⟩ := hrel
    go_wp2
    go_end0
    exact ⟨rfl, rfl⟩
set_option maxRecDepth 100000 in
theorem growNotes_none (bk : Nat) (cs : Array Value) (w : World) (hbk : w.heap[bk]? = some (.cells cs 39 (0, 0))) (h : cs[14]? = some (.slice none 0 0)) :
    Calls Tryz.prog 83 #[.pointer (some ⟨bk, 0, none⟩)] w fun e w' => e = .returned (.slice none 0 0) ∧ w' = w := by
  have c0 : w.cell? ⟨bk, 14, none⟩ = some (.slice none 0 0) := by rw [cell_of_row w bk 14 cs 39 (0, 0) hbk]; exact h
  clear hbk h
  go_enter Tryz.func83, Tryz.ntmps83
  go_wp2
  go_loopw [3, 4] (fun vo vi wr => vo = .slice none 0 0 ∧ vi = .int .i64 0 ∧ wr = w) (fun _ _ _ => 0)
  case atStart => exact ⟨rfl, rfl, rfl⟩
  case round =>
    obtain ⟨rfl, rfl, rfl⟩ := hrel
    go_wp2
    go_ret
    exact ⟨rfl, rfl⟩
set_option maxRecDepth 100000 in
theorem markedNotes_none (w : World) :
    Calls Tryz.prog 93 #[.slice none 0 0] w fun e w' => e = .returned (.bool true) ∧ w' = w := by
  go_enter Tryz.func93, Tryz.ntmps93
  go_wp2
  go_loopw [3] (fun vi wr => vi = .int .i64 0 ∧ wr = w) (fun _ _ => 0)
  case atStart => exact ⟨rfl, rfl⟩
  case round =>
    obtain ⟨rfl, rfl⟩ := hrel
    go_wp2
    go_ret
    exact ⟨rfl, rfl⟩

set_option maxRecDepth 100000 in
theorem stillSeries_none (bk : Nat) (cs : Array Value) (w : World) (hbk : w.heap[bk]? = some (.cells cs 39 (0, 0))) (h : cs[18]? = some (.slice none 0 0)) :
    Calls Tryz.prog 65 #[.pointer (some ⟨bk, 0, none⟩)] w fun e w' => e = .returned (.bool true) ∧ w' = w := by
  have c0 : w.cell? ⟨bk, 18, none⟩ = some (.slice none 0 0) := by rw [cell_of_row w bk 18 cs 39 (0, 0) hbk]; exact h
  clear hbk h
  go_enter Tryz.func65, Tryz.ntmps65
  go_wp2
  go_loopw [3] (fun vi wr => vi = .int .i64 0 ∧ wr = w) (fun _ _ => 0)
  case atStart => exact ⟨rfl, rfl⟩
  case round =>
    obtain ⟨rfl, rfl⟩ := hrel
    go_wp2
    go_ret
    exact ⟨rfl, rfl⟩
set_option maxRecDepth 100000 in
theorem putSeries_none (bk : Nat) (cs : Array Value) (w : World) (hbk : w.heap[bk]? = some (.cells cs 39 (0, 0))) (h : cs[18]? = some (.slice none 0 0)) :
    Calls Tryz.prog 67 #[.pointer (some ⟨bk, 0, none⟩)] w fun e w' => e = .returned (.tuple #[]) ∧ w' = w := by
  have c0 : w.cell? ⟨bk, 18, none⟩ = some (.slice none 0 0) := by rw [cell_of_row w bk 18 cs 39 (0, 0) hbk]; exact h
  clear hbk h
  go_enter Tryz.func67, Tryz.ntmps67
  go_wp2
  go_loopw [2] (fun vi wr => vi = .int .i64 0 ∧ wr = w) (fun _ _ => 0)
  case atStart => exact ⟨rfl, rfl⟩
  case round =>
    obtain ⟨rfl, rfl⟩ := hrel
    go_wp2
    go_end0
    exact ⟨rfl, rfl⟩
set_option maxRecDepth 100000 in
theorem growSeries_none (bk : Nat) (cs : Array Value) (w : World) (hbk : w.heap[bk]? = some (.cells cs 39 (0, 0))) (h : cs[18]? = some (.slice none 0 0)) :
    Calls Tryz.prog 85 #[.pointer (some ⟨bk, 0, none⟩)] w fun e w' => e = .returned (.slice none 0 0) ∧ w' = w := by
  have c0 : w.cell? ⟨bk, 18, none⟩ = some (.slice none 0 0) := by rw [cell_of_row w bk 18 cs 39 (0, 0) hbk]; exact h
  clear hbk h
  go_enter Tryz.func85, Tryz.ntmps85
  go_wp2
  go_loopw [3, 4] (fun vo vi wr => vo = .slice none 0 0 ∧ vi = .int .i64 0 ∧ wr = w) (fun _ _ _ => 0)
  case atStart => exact ⟨rfl, rfl, rfl⟩
  case round =>
    obtain ⟨rfl, rfl, rfl⟩ := hrel
    go_wp2
    go_ret
    exact ⟨rfl, rfl⟩
set_option maxRecDepth 100000 in
theorem markedSeries_none (w : World) :
    Calls Tryz.prog 95 #[.slice none 0 0] w fun e w' => e = .returned (.bool true) ∧ w' = w := by
  go_enter Tryz.func95, Tryz.ntmps95
  go_wp2
  go_loopw [3] (fun vi wr => vi = .int .i64 0 ∧ wr = w) (fun _ _ => 0)
  case atStart => exact ⟨rfl, rfl⟩
  case round =>
    obtain ⟨rfl, rfl⟩ := hrel
    go_wp2
    go_ret
    exact ⟨rfl, rfl⟩
end Go.Proofs.YtbdnonphkobkoaaGreat.BkR
