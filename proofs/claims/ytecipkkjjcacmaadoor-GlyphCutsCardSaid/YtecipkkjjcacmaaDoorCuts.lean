/- The walk of the statement on cuts. -/
import Derived.Test.YtecipkkjjcacmaaDoorWj
namespace Go.Proofs.YtecipkkjjcacmaaDoor
open Go.RowKit

theorem cutL_idem : ∀ (k : Nat) (l : List UInt8), cutL k (l.take (cutL k l)) = cutL k l
  | 0, l => rfl
  | k + 1, l => by
    by_cases hne : l = []
    · subst hne; simp [cutL]
    · have hw := Lib.decodeL_width l
      have hl : 0 < l.length := List.length_pos_iff.2 hne
      have e1 : cutL (k + 1) l = (Lib.decodeL l).2 + cutL k (l.drop (Lib.decodeL l).2) := by rw [cutL, if_neg hne]
      have hne2 : l.take (cutL (k + 1) l) ≠ [] := by
        intro h
        rcases List.take_eq_nil_iff.1 h with h | h
        · omega
        · exact hne h
      have e2 := decodeL_take l (cutL (k + 1) l) hne (by omega)
      rw [cutL, if_neg hne2, e2, List.drop_take, e1]
      rw [show (Lib.decodeL l).2 + cutL k (l.drop (Lib.decodeL l).2) - (Lib.decodeL l).2 = cutL k (l.drop (Lib.decodeL l).2) by omega, cutL_idem]
theorem cutL_mono : ∀ (k j : Nat) (l : List UInt8), k ≤ j → cutL k l ≤ cutL j l
  | 0, _, l, _ => by simp [cutL]
  | k + 1, 0, l, h => by omega
  | k + 1, j + 1, l, h => by
    by_cases hne : l = []
    · subst hne; simp [cutL]
    · have := cutL_mono k j (l.drop (Lib.decodeL l).2) (by omega)
      rw [cutL, cutL, if_neg hne, if_neg hne]; omega
theorem cutL_count : ∀ (k : Nat) (l : List UInt8), countOf (l.take (cutL k l)) ≤ k
  | 0, l => by simp [cutL, countOf, sufs_nil]
  | k + 1, l => by
    by_cases hne : l = []
    · subst hne; simp [cutL, countOf, sufs_nil]
    · have hw := Lib.decodeL_width l
      have hl : 0 < l.length := List.length_pos_iff.2 hne
      have e1 : cutL (k + 1) l = (Lib.decodeL l).2 + cutL k (l.drop (Lib.decodeL l).2) := by rw [cutL, if_neg hne]
      have hne2 : l.take (cutL (k + 1) l) ≠ [] := by
        intro h
        rcases List.take_eq_nil_iff.1 h with h | h
        · omega
        · exact hne h
      have e2 := decodeL_take l (cutL (k + 1) l) hne (by omega)
      unfold countOf
      rw [sufs_step _ hne2, e2, List.drop_take, e1, List.length_cons]
      rw [show (Lib.decodeL l).2 + cutL k (l.drop (Lib.decodeL l).2) - (Lib.decodeL l).2 = cutL k (l.drop (Lib.decodeL l).2) by omega]
      have := cutL_count k (l.drop (Lib.decodeL l).2)
      unfold countOf at this; omega

theorem cut_at (s : ByteArray) (n : Int) (c : Nat) (hc : cutL n.toNat s.data.toList = c) (w : World) (hs : s.size ≤ 1099511627776) :
    Calls Tryd.prog 13 #[.string s, .int .i64 n] w fun e w' => e = .returned (.tuple #[.string (s.extract 0 c), .string (s.extract c s.size)]) ∧ Below w.heap.size w w' :=
  (cut_any s n w hs).mono fun e w' ⟨h, hb⟩ => ⟨by rw [h, hc]; rfl, hb⟩

set_option maxHeartbeats 2000000 in
set_option maxRecDepth 100000 in
theorem cuts_any (s : ByteArray) (n m : Int) (ev : Value) (w : World) (h0 : 0 < w.heap.size) (hG : w.cell? ⟨0, 0, none⟩ = some ev) (hev : ev = .nilIface ∨ ∃ te pe, ev = .iface te pe) (hs : s.size ≤ maxLen) :
    Calls Tryd.prog 4 #[.string s, .int .i64 n, .int .i64 m] w fun e w' => e = .returned (.bool true) ∧ Below w.heap.size w w' := by
  unfold maxLen at hs
  have cA := Lib.hid (fun W (h : 0 < W.heap.size) (h2 : W.cell? ⟨0, 0, none⟩ = some ev) => alive_any ev W h h2 hev)
  clear hev
  by_cases hbig : 1500 < s.size
  · have i1 : (1500 : Int) < s.size := by omega
    go_enter Tryd.func4, Tryd.ntmps4
    go_wp2_with (go_at_call 8; refine (cA.out _ h0 hG).mono ?_; rintro e w1 ⟨rfl, b1⟩)
    go_ret
    exact ⟨rfl, b1⟩
  · have i1 : (s.size : Int) ≤ 1500 := by omega
    have hs2 : s.size ≤ 1500 := by omega
    obtain ⟨c, hc⟩ : ∃ c, c = cutL n.toNat s.data.toList := ⟨_, rfl⟩
    obtain ⟨d, hd⟩ : ∃ d, d = cutL m.toNat s.data.toList := ⟨_, rfl⟩
    have hcs : c ≤ s.size := by rw [hc, Lib.size_eq]; exact cutL_le _ _
    have hds : d ≤ s.size := by rw [hd, Lib.size_eq]; exact cutL_le _ _
    have hx : (s.extract 0 c).data.toList = s.data.toList.take c := by rw [Lib.extract_data]; simp
    have hxs : (s.extract 0 c).size = c := by rw [ByteArray.size_extract]; omega
    have hid2 : cutL n.toNat (s.data.toList.take c) = c := by rw [hc]; exact cutL_idem _ _
    have C1 := Lib.hid (fun W => cut_at s n c hc.symm W (by omega))
    have C2 := Lib.hid (fun W => cut_at (s.extract 0 c) n c (by rw [hx]; exact hid2) W (by omega))
    have C3 := Lib.hid (fun W => cut_at s m d hd.symm W (by omega))
    have C4 := Lib.hid (fun W => count_any (s.extract 0 c) W (by unfold maxLen; omega))
    have hcount : countOf (s.extract 0 c).data.toList ≤ n.toNat := by rw [hx, hc]; exact cutL_count _ _
    have hmono : m < n ∨ (m ≥ n ∧ c ≤ d) := by
      by_cases h : m < n
      · exact .inl h
      · right; rw [hc, hd]; exact ⟨by omega, cutL_mono _ _ _ (by omega)⟩
    have hxx : ((s.extract 0 c).extract 0 c).toList = (s.extract 0 c).toList := by
      rw [Lib.toList_data, Lib.toList_data, Lib.extract_data, hx]; simp [List.take_take]
    obtain ⟨k, hk⟩ : ∃ k, k = countOf (s.extract 0 c).data.toList := ⟨_, rfl⟩
    rw [← hk] at hcount C4
    clear hc hd hid2 hx hxs hk
    go_enter Tryd.func4, Tryd.ntmps4
    go_wp2_with fail
    refine (cA.out _ h0 hG).mono ?_
    rintro e w1 ⟨rfl, b1⟩
    go_wp2_with fail
    refine (C1.out _).mono ?_
    rintro e w2 ⟨rfl, b2⟩
    go_wp2_with fail
    refine (C2.out _).mono ?_
    rintro e w3 ⟨rfl, b3⟩
    go_wp2_with fail
    refine (C3.out _).mono ?_
    rintro e w4 ⟨rfl, b4⟩
    go_wp2_with fail
    all_goals
      refine (C4.out _).mono ?_
      rintro e w5 ⟨rfl, b5⟩
      go_wp2_with fail
    all_goals
      go_ret
      have z1 := b1.size
      have z2 := b2.size
      have z3 := b3.size
      have z4 := b4.size
      refine ⟨ret_bool ?_, (((b1.trans (b2.mono (by omega))).trans (b3.mono (by omega))).trans (b4.mono (by omega))).trans (b5.mono (by omega))⟩
      first | omega | (simp; omega) | (simp [hmono]; omega)
end Go.Proofs.YtecipkkjjcacmaaDoor
