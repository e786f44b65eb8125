/- A walk: a text is cut behind its first runes. -/
import Derived.Test.YtjeenanoboaaeaaGreatDoorWi
import Derived.Deep.RegionWith
namespace Go.Proofs.YtjeenanoboaaeaaGreatDoor
open Go.RowKit

set_option maxHeartbeats 1000000 in
set_option maxRecDepth 100000 in
theorem clone_any (s : ByteArray) (w : World) (hs : s.size ≤ 281474976710656) :
    Calls Tryz.prog 18 #[.string s] w fun e w' => e = .returned (.string s) ∧ Below w.heap.size w w' := by
  go_enter Tryz.func18, Tryz.ntmps18
  go_wp2_with (go_at_call 67; refine (Tryz.stringslite_Clone _ _ hs).mono ?_; rintro e w1 ⟨rfl, b1⟩)
  go_ret
  exact ⟨rfl, b1⟩

theorem size_ext (s : ByteArray) (a b : Nat) (hs : s.size ≤ 1099511627776) : (s.extract a b).size ≤ 281474976710656 := by rw [ByteArray.size_extract]; omega
/-- How many bytes the first pieces have. -/
def cutL : Nat → List UInt8 → Nat
  | 0, _ => 0
  | k + 1, l => if l = [] then 0 else (Lib.decodeL l).2 + cutL k (l.drop (Lib.decodeL l).2)
theorem cutL_nil (k : Nat) : cutL k [] = 0 := by cases k <;> simp [cutL]
theorem cutL_le : ∀ (k : Nat) (l : List UInt8), cutL k l ≤ l.length
  | 0, l => by simp [cutL]
  | k + 1, l => by
    by_cases hne : l = []
    · subst hne; simp [cutL]
    · have h1 := Lib.decodeL_le l hne
      have h2 := cutL_le k (l.drop (Lib.decodeL l).2)
      rw [List.length_drop] at h2
      rw [cutL, if_neg hne]; omega
def cutRes (s : ByteArray) (c : Nat) : Ending := .returned (.tuple #[.string (s.extract 0 c), .string (s.extract c s.size)])

set_option maxHeartbeats 2000000 in
set_option maxRecDepth 100000 in
theorem cut_any (s : ByteArray) (n : Int) (w : World) (hs : s.size ≤ 1099511627776) :
    Calls Tryz.prog 6 #[.string s, .int .i64 n] w fun e w' => e = cutRes s (cutL n.toNat s.data.toList) ∧ Below w.heap.size w w' := by
  go_enter Tryz.func6, Tryz.ntmps6
  go_wp2
  go_loopw [6, 7] (fun va vk wr => ∃ (pos k : Nat), wr.heap[w.heap.size]? = some (.stringIter s pos) ∧ Below w.heap.size w wr ∧ va = .int .i64 s.size ∧ vk = .int .i64 k ∧ Hid (pos + cutL (n.toNat - k) (s.data.toList.drop pos) = cutL n.toNat s.data.toList) ∧ k ≤ pos ∧ pos ≤ s.size) (fun _ _ wr => s.size - wr.iterPos w.heap.size)
  case atStart => exact ⟨0, 0, World.iter_heap w s 0, (Below.refl _ _).alloc (Nat.le_refl _) _, rfl, rfl, (by show _ = _; simp), Nat.le_refl _, Nat.zero_le _⟩
  case round =>
    obtain ⟨pos, k, hit, hbw, rfl, rfl, H, hk, hps⟩ := hrel
    have hpos0 := iterPos_of hit
    by_cases hp : pos < s.size
    · have hnx : ∀ ty, (Instr.next (.pointer (some ⟨w.heap.size, 0, none⟩)) true ty).run Tryz.prog wr = _ := fun ty => Lib.run_next_any_at wr w.heap.size s pos ty hit hp
      have hwd := width1 s pos
      have hwl := width_le hp
      have hit2 := Lib.iterAt_heap wr w.heap.size s pos (pos + (Utf8.decode s pos).2) hit
      have hbw2 := Lib.below_iterAt hbw (k := w.heap.size) (Nat.le_refl _) s (pos + (Utf8.decode s pos).2)
      by_cases hkn : (k : Int) < n
      · have H2 : Hid (pos + (Utf8.decode s pos).2 + cutL (n.toNat - (k + 1)) (s.data.toList.drop (pos + (Utf8.decode s pos).2)) = cutL n.toNat s.data.toList) := by
          show _ = _
          rw [← H.out]
          obtain ⟨m, hm⟩ : ∃ m, n.toNat - k = m + 1 := ⟨n.toNat - k - 1, by omega⟩
          rw [hm, cutL, if_neg (drop_ne hp), Lib.decodeL_drop, List.drop_drop, show n.toNat - (k + 1) = m by omega]; omega
        clear H
        go_wp2
        go_roundw
        case rel => exact ⟨pos + (Utf8.decode s pos).2, k + 1, hit2, hbw2, rfl, by go_num, H2, by omega, hwl⟩
        case measure => rw [iterPos_of hit2, hpos0]; omega
      · have H2 : Hid (cutRes s pos = cutRes s (cutL n.toNat s.data.toList)) := by
          show _ = _
          rw [← H.out, show n.toNat - k = 0 by omega]; simp [cutL]
        clear H
        have i1 : n ≤ (k : Int) := by omega
        go_wp2_with fail
        go_region_with (go_at_call 18; refine (clone_any _ _ (size_ext s _ _ hs)).mono ?_; rintro e wq ⟨rfl, bq⟩)
        go_wp2
        go_ret2
        refine ⟨H2.out, ?_⟩
        rename_i bq1
        have z1 := hbw2.size
        have z2 := bq1.size
        exact (hbw2.drew.trans (bq1.mono (by simpa using z1))).trans (bq.mono (by simp at z2; omega))
    · have hnx : ∀ ty, (Instr.next (.pointer (some ⟨w.heap.size, 0, none⟩)) true ty).run Tryz.prog wr = _ := fun ty => Lib.run_next_end_at wr w.heap.size s pos ty hit hp
      have H2 : Hid (Ending.returned (.tuple #[.string s, .string ByteArray.empty]) = cutRes s (cutL n.toNat s.data.toList)) := by
        show _ = _
        rw [← H.out, drop_end hp, cutL_nil, show pos = s.size by omega]
        unfold cutRes; simp
      clear H
      have hs1 : s.size ≤ 281474976710656 := by omega
      go_wp2_with fail
      go_region_with (go_at_call 18; refine (clone_any _ _ (by first | exact hs1 | exact size_ext s _ _ hs | simp)).mono ?_; rintro e wq ⟨rfl, bq⟩)
      go_wp2
      go_ret2
      refine ⟨H2.out, ?_⟩
      rename_i bq1
      have z1 := hbw.size
      have z2 := bq1.size
      exact (hbw.drew.trans (bq1.mono (by simpa using z1))).trans (bq.mono (by simp at z2; omega))
end Go.Proofs.YtjeenanoboaaeaaGreatDoor
