/- The book of lists, ninth part: the kinds of which it holds nothing. -/
import Derived.Test.YtbcdgccmokgmhaaKxh
namespace Go.Proofs.Ytbcdgccmokgmhaa.BkX
open Go.RowKit

set_option maxRecDepth 100000 in
theorem stillInts_none (bk : Nat) (cs : Array Value) (w : World) (hbk : w.heap[bk]? = some (.cells cs 44 (0, 0))) (h : cs[2]? = some (.slice none 0 0)) :
    Calls Try.prog 27 #[.pointer (some ⟨bk, 0, none⟩)] w fun e w' => e = .returned (.bool true) ∧ w' = w := by
  have c0 : w.cell? ⟨bk, 2, none⟩ = some (.slice none 0 0) := by rw [cell_of_row w bk 2 cs 44 (0, 0) hbk]; exact h
  clear hbk h
  go_enter Try.func27, Try.ntmps27
  go_wp2
  go_loopw [3] (fun vi wr => vi = .int .i64 0 ∧ wr = w) (fun _ _ => 0)
  case atStart => exact ⟨rfl, rfl⟩
  case round =>
    obtain ⟨rfl, rfl⟩ := hrel
    go_wp2
    go_ret
    exact ⟨rfl, rfl⟩
set_option maxRecDepth 100000 in
theorem putInts_none (bk : Nat) (cs : Array Value) (w : World) (hbk : w.heap[bk]? = some (.cells cs 44 (0, 0))) (h : cs[2]? = some (.slice none 0 0)) :
    Calls Try.prog 39 #[.pointer (some ⟨bk, 0, none⟩)] w fun e w' => e = .returned (.tuple #[]) ∧ w' = w := by
  have c0 : w.cell? ⟨bk, 2, none⟩ = some (.slice none 0 0) := by rw [cell_of_row w bk 2 cs 44 (0, 0) hbk]; exact h
  clear hbk h
  go_enter Try.func39, Try.ntmps39
  go_wp2
  go_loopw [2] (fun vi wr => vi = .int .i64 0 ∧ wr = w) (fun _ _ => 0)
  case atStart => exact ⟨rfl, rfl⟩
  case round =>
    obtain ⟨rfl, rfl⟩ := hrel
    go_wp2
    go_end0
    exact ⟨rfl, rfl⟩
set_option maxRecDepth 100000 in
theorem growInts_none (bk : Nat) (cs : Array Value) (w : World) (hbk : w.heap[bk]? = some (.cells cs 44 (0, 0))) (h : cs[2]? = some (.slice none 0 0)) :
    Calls Try.prog 47 #[.pointer (some ⟨bk, 0, none⟩)] w fun e w' => e = .returned (.slice none 0 0) ∧ w' = w := by
  have c0 : w.cell? ⟨bk, 2, none⟩ = some (.slice none 0 0) := by rw [cell_of_row w bk 2 cs 44 (0, 0) hbk]; exact h
  clear hbk h
  go_enter Try.func47, Try.ntmps47
  go_wp2
  go_loopw [3, 4] (fun vo vi wr => vo = .slice none 0 0 ∧ vi = .int .i64 0 ∧ wr = w) (fun _ _ _ => 0)
  case atStart => exact ⟨rfl, rfl, rfl⟩
  case round =>
    obtain ⟨rfl, rfl, rfl⟩ := hrel
    go_wp2
    go_ret
    exact ⟨rfl, rfl⟩
set_option maxRecDepth 100000 in
theorem markedInts_none (w : World) :
    Calls Try.prog 57 #[.slice none 0 0] w fun e w' => e = .returned (.bool true) ∧ w' = w := by
  go_enter Try.func57, Try.ntmps57
  go_wp2
  go_loopw [3] (fun vi wr => vi = .int .i64 0 ∧ wr = w) (fun _ _ => 0)
  case atStart => exact ⟨rfl, rfl⟩
  case round =>
    obtain ⟨rfl, rfl⟩ := hrel
    go_wp2
    go_ret
    exact ⟨rfl, rfl⟩

set_option maxRecDepth 100000 in
theorem stillRunes_none (bk : Nat) (cs : Array Value) (w : World) (hbk : w.heap[bk]? = some (.cells cs 44 (0, 0))) (h : cs[4]? = some (.slice none 0 0)) :
    Calls Try.prog 28 #[.pointer (some ⟨bk, 0, none⟩)] w fun e w' => e = .returned (.bool true) ∧ w' = w := by
  have c0 : w.cell? ⟨bk, 4, none⟩ = some (.slice none 0 0) := by rw [cell_of_row w bk 4 cs 44 (0, 0) hbk]; exact h
  clear hbk h
  go_enter Try.func28, Try.ntmps28
  go_wp2
  go_loopw [3] (fun vi wr => vi = .int .i64 0 ∧ wr = w) (fun _ _ => 0)
  case atStart => exact ⟨rfl, rfl⟩
  case round =>
    obtain ⟨rfl, rfl⟩ := hrel
    go_wp2
    go_ret
    exact ⟨rfl, rfl⟩
set_option maxRecDepth 100000 in
theorem putRunes_none (bk : Nat) (cs : Array Value) (w : World) (hbk : w.heap[bk]? = some (.cells cs 44 (0, 0))) (h : cs[4]? = some (.slice none 0 0)) :
    Calls Try.prog 40 #[.pointer (some ⟨bk, 0, none⟩)] w fun e w' => e = .returned (.tuple #[]) ∧ w' = w := by
  have c0 : w.cell? ⟨bk, 4, none⟩ = some (.slice none 0 0) := by rw [cell_of_row w bk 4 cs 44 (0, 0) hbk]; exact h
  clear hbk h
  go_enter Try.func40, Try.ntmps40
  go_wp2
  go_loopw [2] (fun vi wr => vi = .int .i64 0 ∧ wr = w) (fun _ _ => 0)
  case atStart => exact ⟨rfl, rfl⟩
  case round =>
    obtain ⟨rfl, rfl⟩ := hrel
    go_wp2
    go_end0
    exact ⟨rfl, rfl⟩
set_option maxRecDepth 100000 in
theorem growRunes_none (bk : Nat) (cs : Array Value) (w : World) (hbk : w.heap[bk]? = some (.cells cs 44 (0, 0))) (h : cs[4]? = some (.slice none 0 0)) :
    Calls Try.prog 48 #[.pointer (some ⟨bk, 0, none⟩)] w fun e w' => e = .returned (.slice none 0 0) ∧ w' = w := by
  have c0 : w.cell? ⟨bk, 4, none⟩ = some (.slice none 0 0) := by rw [cell_of_row w bk 4 cs 44 (0, 0) hbk]; exact h
  clear hbk h
  go_enter Try.func48, Try.ntmps48
  go_wp2
  go_loopw [3, 4] (fun vo vi wr => vo = .slice none 0 0 ∧ vi = .int .i64 0 ∧ wr = w) (fun _ _ _ => 0)
  case atStart => exact ⟨rfl, rfl, rfl⟩
  case round =>
    obtain ⟨rfl, rfl, rfl⟩ := hrel
    go_wp2
    go_ret
    exact ⟨rfl, rfl⟩
set_option maxRecDepth 100000 in
theorem markedRunes_none (w : World) :
    Calls Try.prog 58 #[.slice none 0 0] w fun e w' => e = .returned (.bool true) ∧ w' = w := by
  go_enter Try.func58, Try.ntmps58
  go_wp2
  go_loopw [3] (fun vi wr => vi = .int .i64 0 ∧ wr = w) (fun _ _ => 0)
  case atStart => exact ⟨rfl, rfl⟩
  case round =>
    obtain ⟨rfl, rfl⟩ := hrel
    go_wp2
    go_ret
    exact ⟨rfl, rfl⟩

set_option maxRecDepth 100000 in
theorem stillLabels_none (bk : Nat) (cs : Array Value) (w : World) (hbk : w.heap[bk]? = some (.cells cs 44 (0, 0))) (h : cs[6]? = some (.slice none 0 0)) :
    Calls Try.prog 29 #[.pointer (some ⟨bk, 0, none⟩)] w fun e w' => e = .returned (.bool true) ∧ w' = w := by
  have c0 : w.cell? ⟨bk, 6, none⟩ = some (.slice none 0 0) := by rw [cell_of_row w bk 6 cs 44 (0, 0) hbk]; exact h
  clear hbk h
  go_enter Try.func29, Try.ntmps29
  go_wp2
  go_loopw [3] (fun vi wr => vi = .int .i64 0 ∧ wr = w) (fun _ _ => 0)
  case atStart => exact ⟨rfl, rfl⟩
  case round =>
    obtain ⟨rfl, rfl⟩ := hrel
    go_wp2
    go_ret
    exact ⟨rfl, rfl⟩
set_option maxRecDepth 100000 in
theorem putLabels_none (bk : Nat) (cs : Array Value) (w : World) (hbk : w.heap[bk]? = some (.cells cs 44 (0, 0))) (h : cs[6]? = some (.slice none 0 0)) :
    Calls Try.prog 41 #[.pointer (some ⟨bk, 0, none⟩)] w fun e w' => e = .returned (.tuple #[]) ∧ w' = w := by
  have c0 : w.cell? ⟨bk, 6, none⟩ = some (.slice none 0 0) := by rw [cell_of_row w bk 6 cs 44 (0, 0) hbk]; exact h
  clear hbk h
  go_enter Try.func41, Try.ntmps41
  go_wp2
  go_loopw [2] (fun vi wr => vi = .int .i64 0 ∧ wr = w) (fun _ _ => 0)
  case atStart => exact ⟨rfl, rfl⟩
  case round =>
    obtain ⟨rfl, rfl⟩ := hrel
    go_wp2
    go_end0
    exact ⟨rfl, rfl⟩
set_option maxRecDepth 100000 in
theorem growLabels_none (bk : Nat) (cs : Array Value) (w : World) (hbk : w.heap[bk]? = some (.cells cs 44 (0, 0))) (h : cs[6]? = some (.slice none 0 0)) :
    Calls Try.prog 49 #[.pointer (some ⟨bk, 0, none⟩)] w fun e w' => e = .returned (.slice none 0 0) ∧ w' = w := by
  have c0 : w.cell? ⟨bk, 6, none⟩ = some (.slice none 0 0) := by rw [cell_of_row w bk 6 cs 44 (0, 0) hbk]; exact h
  clear hbk h
  go_enter Try.func49, Try.ntmps49
  go_wp2
  go_loopw [3, 4] (fun vo vi wr => vo = .slice none 0 0 ∧ vi = .int .i64 0 ∧ wr = w) (fun _ _ _ => 0)
  case atStart => exact ⟨rfl, rfl, rfl⟩
  case round =>
    obtain ⟨rfl, rfl, rfl⟩ := hrel
    go_wp2
    go_ret
    exact ⟨rfl, rfl⟩
set_option maxRecDepth 100000 in
theorem markedLabels_none (w : World) :
    Calls Try.prog 59 #[.slice none 0 0] w fun e w' => e = .returned (.bool true) ∧ w' = w := by
  go_enter Try.func59, Try.ntmps59
  go_wp2
  go_loopw [3] (fun vi wr => vi = .int .i64 0 ∧ wr = w) (fun _ _ => 0)
  case atStart => exact ⟨rfl, rfl⟩
  case round =>
    obtain ⟨rfl, rfl⟩ := hrel
    go_wp2
    go_ret
    exact ⟨rfl, rfl⟩

set_option maxRecDepth 100000 in
theorem stillPoints_none (bk : Nat) (cs : Array Value) (w : World) (hbk : w.heap[bk]? = some (.cells cs 44 (0, 0))) (h : cs[8]? = some (.slice none 0 0)) :
    Calls Try.prog 30 #[.pointer (some ⟨bk, 0, none⟩)] w fun e w' => e = .returned (.bool true) ∧ w' = w := by
  have c0 : w.cell? ⟨bk, 8, none⟩ = some (.slice none 0 0) := by rw [cell_of_row w bk 8 cs 44 (0, 0) hbk]; exact h
  clear hbk h
  go_enter Try.func30, Try.ntmps30
  go_wp2
  go_loopw [3] (fun vi wr => vi = .int .i64 0 ∧ wr = w) (fun _ _ => 0)
  case atStart => exact ⟨rfl, rfl⟩
  case round =>
    obtain ⟨rfl, rfl⟩ := hrel
    go_wp2
    go_ret
    exact ⟨rfl, rfl⟩
set_option maxRecDepth 100000 in
theorem putPoints_none (bk : Nat) (cs : Array Value) (w : World) (hbk : w.heap[bk]? = some (.cells cs 44 (0, 0))) (h : cs[8]? = some (.slice none 0 0)) :
    Calls Try.prog 42 #[.pointer (some ⟨bk, 0, none⟩)] w fun e w' => e = .returned (.tuple #[]) ∧ w' = w := by
  have c0 : w.cell? ⟨bk, 8, none⟩ = some (.slice none 0 0) := by rw [cell_of_row w bk 8 cs 44 (0, 0) hbk]; exact h
  clear hbk h
  go_enter Try.func42, Try.ntmps42
  go_wp2
  go_loopw [2] (fun vi wr => vi = .int .i64 0 ∧ wr = w) (fun _ _ => 0)
  case atStart => exact ⟨rfl, rfl⟩
  case round =>
    obtain ⟨rfl, rfl⟩ := hrel
    go_wp2
    go_end0
    exact ⟨rfl, rfl⟩
set_option maxRecDepth 100000 in
theorem growPoints_none (bk : Nat) (cs : Array Value) (w : World) (hbk : w.heap[bk]? = some (.cells cs 44 (0, 0))) (h : cs[8]? = some (.slice none 0 0)) :
    Calls Try.prog 50 #[.pointer (some ⟨bk, 0, none⟩)] w fun e w' => e = .returned (.slice none 0 0) ∧ w' = w := by
  have c0 : w.cell? ⟨bk, 8, none⟩ = some (.slice none 0 0) := by rw [cell_of_row w bk 8 cs 44 (0, 0) hbk]; exact h
  clear hbk h
  go_enter Try.func50, Try.ntmps50
  go_wp2
  go_loopw [3, 4] (fun vo vi wr => vo = .slice none 0 0 ∧ vi = .int .i64 0 ∧ wr = w) (fun _ _ _ => 0)
  case atStart => exact ⟨rfl, rfl, rfl⟩
  case round =>
    obtain ⟨rfl, rfl, rfl⟩ := hrel
    go_wp2
    go_ret
    exact ⟨rfl, rfl⟩
set_option maxRecDepth 100000 in
theorem markedPoints_none (w : World) :
    Calls Try.prog 60 #[.slice none 0 0] w fun e w' => e = .returned (.bool true) ∧ w' = w := by
  go_enter Try.func60, Try.ntmps60
  go_wp2
  go_loopw [3] (fun vi wr => vi = .int .i64 0 ∧ wr = w) (fun _ _ => 0)
  case atStart => exact ⟨rfl, rfl⟩
  case round =>
    obtain ⟨rfl, rfl⟩ := hrel
    go_wp2
    go_ret
    exact ⟨rfl, rfl⟩

set_option maxRecDepth 100000 in
theorem stillTokens_none (bk : Nat) (cs : Array Value) (w : World) (hbk : w.heap[bk]? = some (.cells cs 44 (0, 0))) (h : cs[10]? = some (.slice none 0 0)) :
    Calls Try.prog 31 #[.pointer (some ⟨bk, 0, none⟩)] w fun e w' => e = .returned (.bool true) ∧ w' = w := by
  have c0 : w.cell? ⟨bk, 10, none⟩ = some (.slice none 0 0) := by rw [cell_of_row w bk 10 cs 44 (0, 0) hbk]; exact h
  clear hbk h
  go_enter Try.func31, Try.ntmps31
  go_wp2
  go_loopw [3] (fun vi wr => vi = .int .i64 0 ∧ wr = w) (fun _ _ => 0)
  case atStart => exact ⟨rfl, rfl⟩
  case round =>
    obtain ⟨rfl, rfl⟩ := hrel
    go_wp2
    go_ret
    exact ⟨rfl, rfl⟩
set_option maxRecDepth 100000 in
theorem putTokens_none (bk : Nat) (cs : Array Value) (w : World) (hbk : w.heap[bk]? = some (.cells cs 44 (0, 0))) (h : cs[10]? = some (.slice none 0 0)) :
    Calls Try.prog 43 #[.pointer (some ⟨bk, 0, none⟩)] w fun e w' => e = .returned (.tuple #[]) ∧ w' = w := by
  have c0 : w.cell? ⟨bk, 10, none⟩ = some (.slice none 0 0) := by rw [cell_of_row w bk 10 cs 44 (0, 0) hbk]; exact h
  clear hbk h
  go_enter Try.func43, Try.ntmps43
  go_wp2
  go_loopw [2] (fun vi wr => vi = .int .i64 0 ∧ wr = w) (fun _ _ => 0)
  case atStart => exact ⟨rfl, rfl⟩
  case round =>
    obtain ⟨rfl, rfl⟩ := hrel
    go_wp2
    go_end0
    exact ⟨rfl, rfl⟩
set_option maxRecDepth 100000 in
theorem growTokens_none (bk : Nat) (cs : Array Value) (w : World) (hbk : w.heap[bk]? = some (.cells cs 44 (0, 0))) (h : cs[10]? = some (.slice none 0 0)) :
    Calls Try.prog 51 #[.pointer (some ⟨bk, 0, none⟩)] w fun e w' => e = .returned (.slice none 0 0) ∧ w' = w := by
  have c0 : w.cell? ⟨bk, 10, none⟩ = some (.slice none 0 0) := by rw [cell_of_row w bk 10 cs 44 (0, 0) hbk]; exact h
  clear hbk h
  go_enter Try.func51, Try.ntmps51
  go_wp2
  go_loopw [3, 4] (fun vo vi wr => vo = .slice none 0 0 ∧ vi = .int .i64 0 ∧ wr = w) (fun _ _ _ => 0)
  case atStart => exact ⟨rfl, rfl, rfl⟩
  case round =>
    obtain ⟨rfl, rfl, rfl⟩ := hrel
    go_wp2
    go_ret
    exact ⟨rfl, rfl⟩
set_option maxRecDepth 100000 in
theorem markedTokens_none (w : World) :
    Calls Try.prog 61 #[.slice none 0 0] w fun e w' => e = .returned (.bool true) ∧ w' = w := by
  go_enter Try.func61, Try.ntmps61
  go_wp2
  go_loopw [3] (fun vi wr => vi = .int .i64 0 ∧ wr = w) (fun _ _ => 0)
  case atStart => exact ⟨rfl, rfl⟩
  case round =>
    obtain ⟨rfl, rfl⟩ := hrel
    go_wp2
    go_ret
    exact ⟨rfl, rfl⟩

set_option maxRecDepth 100000 in
theorem stillCursors_none (bk : Nat) (cs : Array Value) (w : World) (hbk : w.heap[bk]? = some (.cells cs 44 (0, 0))) (h : cs[12]? = some (.slice none 0 0)) :
    Calls Try.prog 32 #[.pointer (some ⟨bk, 0, none⟩)] w fun e w' => e = .returned (.bool true) ∧ w' = w := by
  have c0 : w.cell? ⟨bk, 12, none⟩ = some (.slice none 0 0) := by rw [cell_of_row w bk 12 cs 44 (0, 0) hbk]; exact h
  clear hbk h
  go_enter Try.func32, Try.ntmps32
  go_wp2
  go_loopw [3] (fun vi wr => vi = .int .i64 0 ∧ wr = w) (fun _ _ => 0)
  case atStart => exact ⟨rfl, rfl⟩
  case round =>
    obtain ⟨rfl, rfl⟩ := hrel
    go_wp2
    go_ret
    exact ⟨rfl, rfl⟩
set_option maxRecDepth 100000 in
theorem putCursors_none (bk : Nat) (cs : Array Value) (w : World) (hbk : w.heap[bk]? = some (.cells cs 44 (0, 0))) (h : cs[12]? = some (.slice none 0 0)) :
    Calls Try.prog 44 #[.pointer (some ⟨bk, 0, none⟩)] w fun e w' => e = .returned (.tuple #[]) ∧ w' = w := by
  have c0 : w.cell? ⟨bk, 12, none⟩ = some (.slice none 0 0) := by rw [cell_of_row w bk 12 cs 44 (0, 0) hbk]; exact h
  clear hbk h
  go_enter Try.func44, Try.ntmps44
  go_wp2
  go_loopw [2] (fun vi wr => vi = .int .i64 0 ∧ wr = w) (fun _ _ => 0)
  case atStart => exact ⟨rfl, rfl⟩
  case round =>
    obtain ⟨rfl, rfl⟩ := hrel
    go_wp2
    go_end0
    exact ⟨rfl, rfl⟩
set_option maxRecDepth 100000 in
theorem growCursors_none (bk : Nat) (cs : Array Value) (w : World) (hbk : w.heap[bk]? = some (.cells cs 44 (0, 0))) (h : cs[12]? = some (.slice none 0 0)) :
    Calls Try.prog 52 #[.pointer (some ⟨bk, 0, none⟩)] w fun e w' => e = .returned (.slice none 0 0) ∧ w' = w := by
  have c0 : w.cell? ⟨bk, 12, none⟩ = some (.slice none 0 0) := by rw [cell_of_row w bk 12 cs 44 (0, 0) hbk]; exact h
  clear hbk h
  go_enter Try.func52, Try.ntmps52
  go_wp2
  go_loopw [3, 4] (fun vo vi wr => vo = .slice none 0 0 ∧ vi = .int .i64 0 ∧ wr = w) (fun _ _ _ => 0)
  case atStart => exact ⟨rfl, rfl, rfl⟩
  case round =>
    obtain ⟨rfl, rfl, rfl⟩ := hrel
    go_wp2
    go_ret
    exact ⟨rfl, rfl⟩
set_option maxRecDepth 100000 in
theorem markedCursors_none (w : World) :
    Calls Try.prog 62 #[.slice none 0 0] w fun e w' => e = .returned (.bool true) ∧ w' = w := by
  go_enter Try.func62, Try.ntmps62
  go_wp2
  go_loopw [3] (fun vi wr => vi = .int .i64 0 ∧ wr = w) (fun _ _ => 0)
  case atStart => exact ⟨rfl, rfl⟩
  case round =>
    obtain ⟨rfl, rfl⟩ := hrel
    go_wp2
    go_ret
    exact ⟨rfl, rfl⟩

set_option maxRecDepth 100000 in
theorem stillNotes_none (bk : Nat) (cs : Array Value) (w : World) (hbk : w.heap[bk]? = some (.cells cs 44 (0, 0))) (h : cs[14]? = some (.slice none 0 0)) :
    Calls Try.prog 33 #[.pointer (some ⟨bk, 0, none⟩)] w fun e w' => e = .returned (.bool true) ∧ w' = w := by
  have c0 : w.cell? ⟨bk, 14, none⟩ = some (.slice none 0 0) := by rw [cell_of_row w bk 14 cs 44 (0, 0) hbk]; exact h
  clear hbk h
  go_enter Try.func33, Try.ntmps33
  go_wp2
  go_loopw [3] (fun vi wr => vi = .int .i64 0 ∧ wr = w) (fun _ _ => 0)
  case atStart => exact ⟨rfl, rfl⟩
  case round =>
    obtain ⟨rfl, rfl⟩ := hrel
    go_wp2
    go_ret
    exact ⟨rfl, rfl⟩
set_option maxRecDepth 100000 in
theorem putNotes_none (bk : Nat) (cs : Array Value) (w : World) (hbk : w.heap[bk]? = some (.cells cs 44 (0, 0))) (h : cs[14]? = some (.slice none 0 0)) :
    Calls Try.prog 45 #[.pointer (some ⟨bk, 0, none⟩)] w fun e w' => e = .returned (.tuple #[]) ∧ w' = w := by
  have c0 : w.cell? ⟨bk, 14, none⟩ = some (.slice none 0 0) := by rw [cell_of_row w bk 14 cs 44 (0, 0) hbk]; exact h
  clear hbk h
  go_enter Try.func45, Try.ntmps45
  go_wp2
  go_loopw [2] (fun vi wr => vi = .int .i64 0 ∧ wr = w) (fun _ _ => 0)
  case atStart => exact ⟨rfl, rfl⟩
  case round =>
    obtain ⟨rfl, rfl⟩ := hrel
    go_wp2
    go_end0
    exact ⟨rfl, rfl⟩
set_option maxRecDepth 100000 in
theorem growNotes_none (bk : Nat) (cs : Array Value) (w : World) (hbk : w.heap[bk]? = some (.cells cs 44 (0, 0))) (h : cs[14]? = some (.slice none 0 0)) :
    Calls Try.prog 53 #[.pointer (some ⟨bk, 0, none⟩)] w fun e w' => e = .returned (.slice none 0 0) ∧ w' = w := by
  have c0 : w.cell? ⟨bk, 14, none⟩ = some (.slice none 0 0) := by rw [cell_of_row w bk 14 cs 44 (0, 0) hbk]; exact h
  clear hbk h
  go_enter Try.func53, Try.ntmps53
  go_wp2
  go_loopw [3, 4] (fun vo vi wr => vo = .slice none 0 0 ∧ vi = .int .i64 0 ∧ wr = w) (fun _ _ _ => 0)
  case atStart => exact ⟨rfl, rfl, rfl⟩
  case round =>
    obtain ⟨rfl, rfl, rfl⟩ := hrel
    go_wp2
    go_ret
    exact ⟨rfl, rfl⟩
set_option maxRecDepth 100000 in
theorem markedNotes_none (w : World) :
    Calls Try.prog 63 #[.slice none 0 0] w fun e w' => e = .returned (.bool true) ∧ w' = w := by
  go_enter Try.func63, Try.ntmps63
  go_wp2
  go_loopw [3] (fun vi wr => vi = .int .i64 0 ∧ wr = w) (fun _ _ => 0)
  case atStart => exact ⟨rfl, rfl⟩
  case round =>
    obtain ⟨rfl, rfl⟩ := hrel
    go_wp2
    go_ret
    exact ⟨rfl, rfl⟩

set_option maxRecDepth 100000 in
theorem stillRows_none (bk : Nat) (cs : Array Value) (w : World) (hbk : w.heap[bk]? = some (.cells cs 44 (0, 0))) (h : cs[16]? = some (.slice none 0 0)) :
    Calls Try.prog 34 #[.pointer (some ⟨bk, 0, none⟩)] w fun e w' => e = .returned (.bool true) ∧ w' = w := by
  have c0 : w.cell? ⟨bk, 16, none⟩ = some (.slice none 0 0) := by rw [cell_of_row w bk 16 cs 44 (0, 0) hbk]; exact h
  clear hbk h
  go_enter Try.func34, Try.ntmps34
  go_wp2
  go_loopw [3] (fun vi wr => vi = .int .i64 0 ∧ wr = w) (fun _ _ => 0)
  case atStart => exact ⟨rfl, rfl⟩
  case round =>
    obtain ⟨rfl, rfl⟩ := hrel
    go_wp2
    go_ret
    exact ⟨rfl, rfl⟩
set_option maxRecDepth 100000 in
theorem putRows_none (bk : Nat) (cs : Array Value) (w : World) (hbk : w.heap[bk]? = some (.cells cs 44 (0, 0))) (h : cs[16]? = some (.slice none 0 0)) :
    Calls Try.prog 36 #[.pointer (some ⟨bk, 0, none⟩)] w fun e w' => e = .returned (.tuple #[]) ∧ w' = w := by
  have c0 : w.cell? ⟨bk, 16, none⟩ = some (.slice none 0 0) := by rw [cell_of_row w bk 16 cs 44 (0, 0) hbk]; exact h
  clear hbk h
  go_enter Try.func36, Try.ntmps36
  go_wp2
  go_loopw [2] (fun vi wr => vi = .int .i64 0 ∧ wr = w) (fun _ _ => 0)
  case atStart => exact ⟨rfl, rfl⟩
  case round =>
    obtain ⟨rfl, rfl⟩ := hrel
    go_wp2
    go_end0
    exact ⟨rfl, rfl⟩
set_option maxRecDepth 100000 in
theorem growRows_none (bk : Nat) (cs : Array Value) (w : World) (hbk : w.heap[bk]? = some (.cells cs 44 (0, 0))) (h : cs[16]? = some (.slice none 0 0)) :
    Calls Try.prog 54 #[.pointer (some ⟨bk, 0, none⟩)] w fun e w' => e = .returned (.slice none 0 0) ∧ w' = w := by
  have c0 : w.cell? ⟨bk, 16, none⟩ = some (.slice none 0 0) := by rw [cell_of_row w bk 16 cs 44 (0, 0) hbk]; exact h
  clear hbk h
  go_enter Try.func54, Try.ntmps54
  go_wp2
  go_loopw [3, 4] (fun vo vi wr => vo = .slice none 0 0 ∧ vi = .int .i64 0 ∧ wr = w) (fun _ _ _ => 0)
  case atStart => exact ⟨rfl, rfl, rfl⟩
  case round =>
    obtain ⟨rfl, rfl, rfl⟩ := hrel
    go_wp2
    go_ret
    exact ⟨rfl, rfl⟩
set_option maxRecDepth 100000 in
theorem markedRows_none (w : World) :
    Calls Try.prog 64 #[.slice none 0 0] w fun e w' => e = .returned (.bool true) ∧ w' = w := by
  go_enter Try.func64, Try.ntmps64
  go_wp2
  go_loopw [3] (fun vi wr => vi = .int .i64 0 ∧ wr = w) (fun _ _ => 0)
  case atStart => exact ⟨rfl, rfl⟩
  case round =>
    obtain ⟨rfl, rfl⟩ := hrel
    go_wp2
    go_ret
    exact ⟨rfl, rfl⟩

set_option maxRecDepth 100000 in
theorem stillSeries_none (bk : Nat) (cs : Array Value) (w : World) (hbk : w.heap[bk]? = some (.cells cs 44 (0, 0))) (h : cs[18]? = some (.slice none 0 0)) :
    Calls Try.prog 35 #[.pointer (some ⟨bk, 0, none⟩)] w fun e w' => e = .returned (.bool true) ∧ w' = w := by
  have c0 : w.cell? ⟨bk, 18, none⟩ = some (.slice none 0 0) := by rw [cell_of_row w bk 18 cs 44 (0, 0) hbk]; exact h
  clear hbk h
  go_enter Try.func35, Try.ntmps35
  go_wp2
  go_loopw [3] (fun vi wr => vi = .int .i64 0 ∧ wr = w) (fun _ _ => 0)
  case atStart => exact ⟨rfl, rfl⟩
  case round =>
    obtain ⟨rfl, rfl⟩ := hrel
    go_wp2
    go_ret
    exact ⟨rfl, rfl⟩
set_option maxRecDepth 100000 in
theorem putSeries_none (bk : Nat) (cs : Array Value) (w : World) (hbk : w.heap[bk]? = some (.cells cs 44 (0, 0))) (h : cs[18]? = some (.slice none 0 0)) :
    Calls Try.prog 37 #[.pointer (some ⟨bk, 0, none⟩)] w fun e w' => e = .returned (.tuple #[]) ∧ w' = w := by
  have c0 : w.cell? ⟨bk, 18, none⟩ = some (.slice none 0 0) := by rw [cell_of_row w bk 18 cs 44 (0, 0) hbk]; exact h
  clear hbk h
  go_enter Try.func37, Try.ntmps37
  go_wp2
  go_loopw [2] (fun vi wr => vi = .int .i64 0 ∧ wr = w) (fun _ _ => 0)
  case atStart => exact ⟨rfl, rfl⟩
  case round =>
    obtain ⟨rfl, rfl⟩ := hrel
    go_wp2
    go_end0
    exact ⟨rfl, rfl⟩
set_option maxRecDepth 100000 in
theorem growSeries_none (bk : Nat) (cs : Array Value) (w : World) (hbk : w.heap[bk]? = some (.cells cs 44 (0, 0))) (h : cs[18]? = some (.slice none 0 0)) :
    Calls Try.prog 55 #[.pointer (some ⟨bk, 0, none⟩)] w fun e w' => e = .returned (.slice none 0 0) ∧ w' = w := by
  have c0 : w.cell? ⟨bk, 18, none⟩ = some (.slice none 0 0) := by rw [cell_of_row w bk 18 cs 44 (0, 0) hbk]; exact h
  clear hbk h
  go_enter Try.func55, Try.ntmps55
  go_wp2
  go_loopw [3, 4] (fun vo vi wr => vo = .slice none 0 0 ∧ vi = .int .i64 0 ∧ wr = w) (fun _ _ _ => 0)
  case atStart => exact ⟨rfl, rfl, rfl⟩
  case round =>
    obtain ⟨rfl, rfl, rfl⟩ := hrel
    go_wp2
    go_ret
    exact ⟨rfl, rfl⟩
set_option maxRecDepth 100000 in
theorem markedSeries_none (w : World) :
    Calls Try.prog 65 #[.slice none 0 0] w fun e w' => e = .returned (.bool true) ∧ w' = w := by
  go_enter Try.func65, Try.ntmps65
  go_wp2
  go_loopw [3] (fun vi wr => vi = .int .i64 0 ∧ wr = w) (fun _ _ => 0)
  case atStart => exact ⟨rfl, rfl⟩
  case round =>
    obtain ⟨rfl, rfl⟩ := hrel
    go_wp2
    go_ret
    exact ⟨rfl, rfl⟩
end Go.Proofs.Ytbcdgccmokgmhaa.BkX
