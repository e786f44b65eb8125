/- A walk: how many runes there are. -/
import Derived.Test.YtfpdhmecomgbdaaW0
namespace Go.Proofs.Ytfpdhmecomgbdaa
open Go.RowKit

set_option maxHeartbeats 1000000 in
set_option maxRecDepth 100000 in
theorem count_any (s : ByteArray) (w : World) (hs : s.size ≤ maxLen) : Calls Try.prog 16 #[.string s] w fun e w' => e = .returned (.int .i64 (countOf s.data.toList : Nat)) ∧ Below w.heap.size w w' := by
  unfold maxLen at hs
  go_enter Try.func16, Try.ntmps16
  go_wp2
  go_loopw [3] (fun v wr => ∃ (pos k : Nat), wr.heap[w.heap.size]? = some (.stringIter s pos) ∧ Below w.heap.size w wr ∧ v = .int .i64 k ∧ Hid (k + (sufs (s.data.toList.drop pos)).length = countOf s.data.toList) ∧ k ≤ pos ∧ pos ≤ s.size) (fun _ wr => s.size - wr.iterPos w.heap.size)
  case atStart => exact ⟨0, 0, World.iter_heap w s 0, (Below.refl _ _).alloc (Nat.le_refl _) _, rfl, (by show _ = _; simp [countOf]), Nat.le_refl _, Nat.zero_le _⟩
  case round =>
    obtain ⟨pos, k, hit, hbw, rfl, H, hk, hps⟩ := hrel
    have hpos0 := iterPos_of hit
    by_cases hp : pos < s.size
    · have hnx : ∀ ty, (Instr.next (.pointer (some ⟨w.heap.size, 0, none⟩)) true ty).run Try.prog wr = _ := fun ty => Lib.run_next_any_at wr w.heap.size s pos ty hit hp
      have hwd := width1 s pos
      have hwl := width_le hp
      have hit2 := Lib.iterAt_heap wr w.heap.size s pos (pos + (Utf8.decode s pos).2) hit
      have hbw2 := Lib.below_iterAt hbw (k := w.heap.size) (Nat.le_refl _) s (pos + (Utf8.decode s pos).2)
      have H2 : Hid (k + 1 + (sufs (s.data.toList.drop (pos + (Utf8.decode s pos).2))).length = countOf s.data.toList) := by
        show _ = _
        rw [← H.out, sufs_at hp, List.length_cons]; omega
      go_wp2
      go_roundw
      case rel => exact ⟨pos + (Utf8.decode s pos).2, k + 1, hit2, hbw2, by go_num, H2, by omega, hwl⟩
      case measure => rw [iterPos_of hit2, hpos0]; omega
    · have hnx : ∀ ty, (Instr.next (.pointer (some ⟨w.heap.size, 0, none⟩)) true ty).run Try.prog wr = _ := fun ty => Lib.run_next_end_at wr w.heap.size s pos ty hit hp
      have H2 : Hid (k = countOf s.data.toList) := by
        show _ = _
        rw [← H.out, drop_end hp]; simp [sufs_nil]
      go_wp2
      go_ret
      exact ⟨ret_int (by rw [H2.out]), hbw⟩

end Go.Proofs.Ytfpdhmecomgbdaa
