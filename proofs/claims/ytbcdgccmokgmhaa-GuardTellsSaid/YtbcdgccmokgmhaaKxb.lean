/- The book of lists, second part: the marks of a list of runes. -/
import Derived.Test.YtbcdgccmokgmhaaKxn
namespace Go.Proofs.Ytbcdgccmokgmhaa.BkX
open Go.RowKit

/-- Of list i the marks from place k on, n of them. -/
def markE (i k : Nat) : El := nameB i k
def marksR (i k n : Nat) : List El := (List.range n).map fun j => markE i (k + j)
theorem marksR_length (i k n : Nat) : (marksR i k n).length = n := by simp [marksR]
theorem marksR_succ (i k n : Nat) : marksR i k (n + 1) = marksR i k n ++ [markE i (k + n)] := by simp [marksR, List.range_succ]
theorem marksR_app (i k n m : Nat) : marksR i k n ++ marksR i (k + n) m = marksR i k (n + m) := by
  induction m with
  | zero => simp [marksR]
  | succ m ih => rw [marksR_succ, ← List.append_assoc, ih, ← Nat.add_assoc, marksR_succ, Nat.add_assoc k n m]

set_option maxHeartbeats 2000000 in
set_option maxRecDepth 100000 in
theorem markRunes_any (i k n : Nat) (hi250 : i ≤ 250) (hk : k ≤ 1000000) (hn : n ≤ 1000000) (w : World) :
    Calls Try.prog 78 #[.int .i64 i, .int .i64 k, .int .i64 n] w fun e w' => Spelt w.heap.size (marksR i k n) e w' ∧ Below w.heap.size w w' := by
  obtain ⟨i0, hi, hz0, hz1, hz2⟩ := info_parts infoE
  have HNA := Lib.hid (fun m W (hm : m ≤ n) => name_any i (k + m) hi250 (by omega) W)
  go_enter Try.func78, Try.ntmps78
  go_wp2
  go_loopw [7, 8] (fun v vk wr => ∃ m : Nat, wr.ownsRow w.heap.size 9 1 v m (flatE (marksR i k m)) ∧ Below w.heap.size w wr ∧ vk = .int .i64 ((k + m : Nat) : Int) ∧ m ≤ n) (fun _ vk _ => k + n - (intOf vk).toNat)
  case atStart => exact ⟨0, World.ownsRow_nil _ _ _ _, Below.refl _ _, by simp, Nat.zero_le _⟩
  case round =>
    obtain ⟨m, hown, hbw, rfl, hm⟩ := hrel
    have hwr := hbw.size
    by_cases hlt : m < n
    · have i1 : ((k + m : Nat) : Int) < (k : Int) + n := by omega
      go_wp2_with fail
      refine (HNA.out m _ hm).mono ?_
      rintro e w1 ⟨rfl, b1⟩
      have hbw1 := hbw.trans (b1.mono hwr)
      have hown1 := own_grown hown b1
      have hw1 := hbw1.size
      clear b1
      go_wp2_with (at_builtin; go_must (refine wpList_append_own _ rfl _ _ 31 rfl w.heap.size 9 i0 (.string ⟨#[]⟩) 1 16 Try.underlying31 hi hz0 hz1 hz2 rfl (by decide) _ _ _ rfl (hown1.alloc _) ⟨w1.heap.size, 0, none⟩ 1 1 [.string (nameB i (k + m))] rfl rfl (cell_1 _ _ _) (encE_cells (nameB i (k + m))) (by unfold maxLen; omega) (by omega) (by simp; omega) ?_); intro v' w3 hown' hgrow3 hnil3)
      have hbw3 : Below w.heap.size w w3 := Below.grown (hbw1.alloc (by omega) _) hgrow3 (by simp; omega) (fun j hj => (hown1.lt _ hj).1)
      have ho3 : w3.ownsRow w.heap.size 9 1 v' (m + 1) (flatE (marksR i k (m + 1))) := by
        rw [marksR_succ, flatE_append, flatE_one]; exact hown'
      clear hown' hgrow3 hnil3
      go_roundw
      case rel => exact ⟨m + 1, ho3, hbw3, by go_num, by omega⟩
      case measure => simp [intOf]; omega
    · have i1 : ¬ ((k + m : Nat) : Int) < (k : Int) + n := by omega
      have : m = n := by omega
      subst this
      go_wp2
      go_ret
      refine ⟨⟨_, rfl, ?_⟩, hbw⟩
      rw [marksR_length]; exact hown
end Go.Proofs.Ytbcdgccmokgmhaa.BkX
