/- Walks (the document's words): the first rune, how wide it is, letters and digits. -/
import Derived.Test.YtphkodkenkiecaaGreatDoorMrz
import Derived.Test.YtphkodkenkiecaaGreatDoorJnz
namespace Go.Proofs.YtphkodkenkiecaaGreatDoor
open Go.RowKit

theorem rkind_any (r : Int) (w : World) : Calls Tryz.prog 15 #[.int .i32 r] w fun e w' => e = .returned (.int .i64 (kindZ r)) ∧ w = w' := by
  go_enter Tryz.func15, Tryz.ntmps15
  go_wp2
  all_goals (go_ret; refine ⟨ret_int ?_, rfl⟩; first | rfl | skip)
  all_goals ((try simp only [beq_iff_eq, beq_eq_false_iff_ne] at *); unfold kindZ; repeat' split)
  all_goals omega
set_option maxHeartbeats 1000000 in
set_option maxRecDepth 100000 in
theorem wide_any (s : ByteArray) (hne : s.data.toList ≠ []) (w : World) (hs : s.size ≤ maxLen) : Calls Tryz.prog 93 #[.string s] w fun e w' => e = .returned (.int .i64 (wideL s.data.toList : Nat)) ∧ Below w.heap.size w w' := by
  unfold maxLen at hs
  have hp0 : 0 < s.size := by rw [Lib.size_eq]; exact List.length_pos_iff.2 hne
  have hW : (Utf8.decode s 0).2 = wideL s.data.toList := by rw [← Lib.decodeL_drop]; rfl
  have HW := Lib.hid hW
  have hw1 := wide_pos s.data.toList
  have hw2 := wide_le hne
  rw [← Lib.size_eq] at hw2
  generalize wideL s.data.toList = L at *
  clear hW hne
  go_enter Tryz.func93, Tryz.ntmps93
  go_wp2
  go_loopw [3] (fun _ wr => ∃ (pos : Nat), wr.heap[w.heap.size]? = some (.stringIter s pos) ∧ Below w.heap.size w wr ∧ (pos = 0 ∨ pos = L)) (fun _ wr => s.size - wr.iterPos w.heap.size)
  case atStart => exact ⟨0, World.iter_heap w s 0, (Below.refl _ _).alloc (Nat.le_refl _) _, .inl rfl⟩
  case round =>
    obtain ⟨pos, hit, hbw, hpos⟩ := hrel
    have hpos0 := iterPos_of hit
    by_cases hp : pos < s.size
    · have hnx : ∀ ty, (Instr.next (.pointer (some ⟨w.heap.size, 0, none⟩)) true ty).run Tryz.prog wr = _ := fun ty => Lib.run_next_any_at wr w.heap.size s pos ty hit hp
      have hit2 := Lib.iterAt_heap wr w.heap.size s pos (pos + (Utf8.decode s pos).2) hit
      have hbw2 := Lib.below_iterAt hbw (k := w.heap.size) (Nat.le_refl _) s (pos + (Utf8.decode s pos).2)
      rcases hpos with rfl | rfl
      · rw [Nat.zero_add] at hit2 hbw2
        go_wp2
        go_roundw
        case rel => exact ⟨(Utf8.decode s 0).2, hit2, hbw2, .inr HW.out⟩
        case measure => rw [iterPos_of hit2, hpos0]; have := width1 s 0; omega
      · have q : (0 : Int) < pos := by omega
        go_wp2
        go_ret
        exact ⟨rfl, hbw2⟩
    · have hnx : ∀ ty, (Instr.next (.pointer (some ⟨w.heap.size, 0, none⟩)) true ty).run Tryz.prog wr = _ := fun ty => Lib.run_next_end_at wr w.heap.size s pos ty hit hp
      have e : s.size = L := by omega
      go_wp2
      go_ret
      exact ⟨rfl, hbw⟩

set_option maxHeartbeats 1000000 in
set_option maxRecDepth 100000 in
theorem dfirst_any (s : ByteArray) (hne : s.data.toList ≠ []) (w : World) : Calls Tryz.prog 16 #[.string s] w fun e w' => e = .returned (.int .i32 (rune s.data.toList)) ∧ Below w.heap.size w w' := by
  have hp0 : 0 < s.size := by rw [Lib.size_eq]; exact List.length_pos_iff.2 hne
  have HR := Lib.hid (show ((Utf8.decode s 0).1 : Int) = rune s.data.toList by unfold rune; rw [← Lib.decodeL_drop]; rfl)
  clear hne
  go_enter Tryz.func16, Tryz.ntmps16
  go_wp2
  go_loopw [] (fun wr => wr.heap[w.heap.size]? = some (.stringIter s 0) ∧ Below w.heap.size w wr) (fun wr => s.size - wr.iterPos w.heap.size)
  case atStart => exact ⟨World.iter_heap w s 0, (Below.refl _ _).alloc (Nat.le_refl _) _⟩
  case round =>
    obtain ⟨hit, hbw⟩ := hrel
    have hnx : ∀ ty, (Instr.next (.pointer (some ⟨w.heap.size, 0, none⟩)) true ty).run Tryz.prog wr = _ := fun ty => Lib.run_next_any_at wr w.heap.size s 0 ty hit hp0
    have hbw2 := Lib.below_iterAt hbw (k := w.heap.size) (Nat.le_refl _) s (0 + (Utf8.decode s 0).2)
    rw [Nat.zero_add] at hbw2
    go_wp2
    go_ret
    exact ⟨by rw [← HR.out]; rfl, hbw2⟩

/-- How many runes the letters and digits first have. -/
def runesL (l : List UInt8) : Nat := ((sufs l).takeWhile wordy).length
theorem runesL_nil : runesL [] = 0 := rfl
theorem runesL_step (l : List UInt8) (hne : l ≠ []) : runesL l = if wordy l = true then 1 + runesL (l.drop (wideL l)) else 0 := by
  unfold runesL
  rw [sufs_step l hne, List.takeWhile_cons]
  split
  · rw [List.length_cons, Nat.add_comm]; rfl
  · rfl
theorem runesL_le (l : List UInt8) : runesL l ≤ chainL l := by
  induction l using sufs_induct with
  | h0 => exact Nat.le_refl _
  | h1 l hne ih =>
    rw [chainL_step l hne, runesL_step l hne]
    have := wide_pos l
    split
    · have ih' : runesL (l.drop (wideL l)) ≤ chainL (l.drop (wideL l)) := ih
      omega
    · omega

set_option maxHeartbeats 1000000 in
set_option maxRecDepth 100000 in
theorem dword_any (s : ByteArray) (w : World) (hs : s.size ≤ 100000) : Calls Tryz.prog 64 #[.string s] w fun e w' => e = .returned (.tuple #[.int .i64 (chainL s.data.toList : Nat), .int .i64 (runesL s.data.toList : Nat)]) ∧ Below w.heap.size w w' := by
  have HZ := Lib.hid (show s.data.toList.length = s.size by rw [← Lib.size_eq])
  have HF := Lib.hid (fun pos W (hp : pos < s.size) => (dfirst_any (s.extract pos s.size) (by rw [ext_drop]; exact drop_ne hp) W).mono (R' := fun e w' => e = .returned (.int .i32 (rune (s.data.toList.drop pos))) ∧ Below W.heap.size W w') (fun e w' ⟨h1, h2⟩ => ⟨by rw [h1, ext_drop], h2⟩))
  have HWd := Lib.hid (fun pos W (hp : pos < s.size) => (wide_any (s.extract pos s.size) (by rw [ext_drop]; exact drop_ne hp) W (by rw [ByteArray.size_extract]; unfold maxLen; omega)).mono (R' := fun e w' => e = .returned (.int .i64 (wideL (s.data.toList.drop pos) : Nat)) ∧ Below W.heap.size W w') (fun e w' ⟨h1, h2⟩ => ⟨by rw [h1, ext_drop], h2⟩))
  have CK := Lib.hid (fun r W => rkind_any r W)
  have hs2 : (s.size : Int) ≤ 100000 := by omega
  go_enter Tryz.func64, Tryz.ntmps64
  go_wp2
  go_loopw [4, 5, 6] (fun v4 v5 _ wr => ∃ (pos k : Nat), v4 = .int .i64 pos ∧ v5 = .int .i64 k ∧ pos ≤ s.size ∧ k ≤ pos ∧ Hid (pos + chainL (s.data.toList.drop pos) = chainL s.data.toList) ∧ Hid (k + runesL (s.data.toList.drop pos) = runesL s.data.toList) ∧ Hid (Below w.heap.size w wr)) (fun v4 _ _ _ => s.size - (intOf v4).toNat)
  case atStart => exact ⟨0, 0, rfl, rfl, Nat.zero_le _, Nat.le_refl _, (by show _ = _; simp), (by show _ = _; simp), Below.refl _ _⟩
  case round =>
    obtain ⟨pos, k, rfl, rfl, hps, hk, HC, HR, HB⟩ := hrel
    have hzw := HB.out.size
    by_cases hp : pos < s.size
    · have q1 : (pos : Int) < s.size := by omega
      have hne := drop_ne hp
      have hst := chainL_step _ hne
      have hst2 := runesL_step _ hne
      rw [List.drop_drop] at hst hst2
      have hwl := wide_le hne
      rw [List.length_drop, HZ.out] at hwl
      have hw1 := wide_pos (s.data.toList.drop pos)
      have C1 := Lib.hid (fun W => HF.out pos W hp)
      have C2 := Lib.hid (fun W => HWd.out pos W hp)
      by_cases hy : wordy (s.data.toList.drop pos) = true
      · rw [if_pos hy] at hst hst2
        have hkd : kindZ (rune (s.data.toList.drop pos)) = 1 ∨ (¬ kindZ (rune (s.data.toList.drop pos)) = 1 ∧ kindZ (rune (s.data.toList.drop pos)) = 2) := by
          have : kindZ (rune (s.data.toList.drop pos)) = 1 ∨ kindZ (rune (s.data.toList.drop pos)) = 2 := of_decide_eq_true hy
          omega
        have H2 := Lib.hid (show pos + wideL (s.data.toList.drop pos) + chainL (s.data.toList.drop (pos + wideL (s.data.toList.drop pos))) = chainL s.data.toList by rw [← HC.out, hst]; omega)
        have H3 := Lib.hid (show k + 1 + runesL (s.data.toList.drop (pos + wideL (s.data.toList.drop pos))) = runesL s.data.toList by rw [← HR.out, hst2]; omega)
        clear hst hst2 hy HC HR hne
        generalize wideL (s.data.toList.drop pos) = L at *
        generalize rune (s.data.toList.drop pos) = r at *
        have q2 : (pos : Int) + L ≤ 100000 := by omega
        have q3 : (k : Int) ≤ 100000 := by omega
        have hkd2 : (kindZ r != 1 && kindZ r != 2) = false := by
          rcases hkd with h | ⟨_, h⟩ <;> simp [h]
        rcases hkd with hkd | ⟨hkd1, hkd⟩
        · have t1 : (kindZ r != 1) = false := by simp [hkd]
          clear hkd hkd2
          go_wp2_with fail
          refine (C1.out _).mono ?_
          rintro e w1 ⟨rfl, b1⟩
          have HB1 := Lib.hid (HB.out.trans (b1.mono hzw))
          clear b1
          go_wp2_with fail
          refine (CK.out _ _).mono ?_
          rintro e w1' ⟨rfl, rfl⟩
          go_wp2_with fail
          refine (C2.out _).mono ?_
          rintro e w2 ⟨rfl, b2⟩
          have HB2 := Lib.hid (HB1.out.trans (b2.mono HB1.out.size))
          clear b2
          go_wp2
          go_roundw
          case rel => exact ⟨pos + L, k + 1, by go_num, by go_num, by omega, by omega, H2, H3, HB2⟩
          case measure => simp [intOf]; omega
        · have t1 : (kindZ r != 1) = true := by simp [hkd1]
          have t2 : (kindZ r != 2) = false := by simp [hkd]
          clear hkd hkd1 hkd2
          go_wp2_with fail
          refine (C1.out _).mono ?_
          rintro e w1 ⟨rfl, b1⟩
          have HB1 := Lib.hid (HB.out.trans (b1.mono hzw))
          clear b1
          go_wp2_with fail
          refine (CK.out _ _).mono ?_
          rintro e w1' ⟨rfl, rfl⟩
          go_wp2_with fail
          refine (C2.out _).mono ?_
          rintro e w2 ⟨rfl, b2⟩
          have HB2 := Lib.hid (HB1.out.trans (b2.mono HB1.out.size))
          clear b2
          go_wp2
          go_roundw
          case rel => exact ⟨pos + L, k + 1, by go_num, by go_num, by omega, by omega, H2, H3, HB2⟩
          case measure => simp [intOf]; omega
      · rw [if_neg hy] at hst hst2
        have hn : ¬ (kindZ (rune (s.data.toList.drop pos)) = 1 ∨ kindZ (rune (s.data.toList.drop pos)) = 2) := fun h => hy (decide_eq_true h)
        have H2 := Lib.hid (show pos = chainL s.data.toList by rw [← HC.out, hst]; rfl)
        have H3 := Lib.hid (show k = runesL s.data.toList by rw [← HR.out, hst2]; rfl)
        clear hst hst2 hy HC HR hne hwl hw1
        generalize rune (s.data.toList.drop pos) = r at *
        have t1 : (kindZ r != 1) = true := by simp; omega
        have t2 : (kindZ r != 2) = true := by simp; omega
        clear hn
        go_wp2_with fail
        refine (C1.out _).mono ?_
        rintro e w1 ⟨rfl, b1⟩
        have HB1 := Lib.hid (HB.out.trans (b1.mono hzw))
        clear b1
        go_wp2_with fail
        refine (CK.out _ _).mono ?_
        rintro e w1' ⟨rfl, rfl⟩
        go_wp2
        go_ret2
        exact ⟨by rw [← H2.out, ← H3.out]; rfl, HB1.out⟩
    · have e1 : pos = s.size := by omega
      have H2 := Lib.hid (show pos = chainL s.data.toList by rw [← HC.out, drop_end hp]; rfl)
      have H3 := Lib.hid (show k = runesL s.data.toList by rw [← HR.out, drop_end hp]; rfl)
      have q1 : (s.size : Int) ≤ pos := by omega
      clear e1 HC HR
      go_wp2
      go_ret2
      exact ⟨by rw [← H2.out, ← H3.out]; rfl, HB.out⟩
end Go.Proofs.YtphkodkenkiecaaGreatDoor
