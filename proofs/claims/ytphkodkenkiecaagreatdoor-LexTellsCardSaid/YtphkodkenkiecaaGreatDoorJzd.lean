/- A walk (the document's words): the first token. -/
import Derived.Test.YtphkodkenkiecaaGreatDoorJzc
namespace Go.Proofs.YtphkodkenkiecaaGreatDoor
open Go.RowKit

/-! ### plain -/
theorem spell_chain (l : List UInt8) : spell (l.take (chainL l)) = ((sufs l).takeWhile wordy).map rune := by
  induction l using sufs_induct with
  | h0 => rfl
  | h1 l hne ih =>
    rw [show l.drop (Lib.decodeL l).2 = l.drop (wideL l) from rfl] at ih
    have hw := wide_pos l
    have hwl := wide_le hne
    rw [sufs_step l hne, List.takeWhile_cons]
    by_cases hy : wordy l = true
    · have e := chainL_step l hne
      rw [if_pos hy] at e
      obtain ⟨n, hn⟩ : ∃ n, chainL (l.drop (wideL l)) = n := ⟨_, rfl⟩
      rw [hn] at e ih
      have hd : Lib.decodeL (l.take (wideL l + n)) = Lib.decodeL l := decodeL_take l _ hne (by show wideL l ≤ _; omega)
      have hne2 : l.take (wideL l + n) ≠ [] := by
        intro h0
        have h5 := congrArg List.length h0
        rw [List.length_take, List.length_nil] at h5
        omega
      have hdr : (l.take (wideL l + n)).drop (wideL l) = (l.drop (wideL l)).take n := by rw [List.drop_take, Nat.add_sub_cancel_left]
      rw [e, if_pos hy, List.map_cons]
      have hs : spell (l.take (wideL l + n)) = rune (l.take (wideL l + n)) :: spell ((l.take (wideL l + n)).drop (wideL l)) := by
        unfold spell
        rw [sufs_step _ hne2, List.map_cons, hd]; rfl
      rw [hs, hdr, ih]
      congr 1
      unfold rune; rw [hd]
    · have e : chainL l = 0 := by rw [chainL_step l hne, if_neg hy]
      rw [e, if_neg hy]; rfl
theorem name_all : ∀ (rs : List Int) (k : Nat), k ≤ 30 → 0 < k → (∀ r ∈ rs, kindZ r = 1 ∨ kindZ r = 2) → nameGo k rs = decide (k + rs.length ≤ 30)
  | [], k, hk, h0, _ => by unfold nameGo; simp; omega
  | r :: rs, k, hk, h0, h => by
    have hr := h r (by simp)
    by_cases h30 : k = 30
    · rw [name_bad _ _ _ (.inl h30)]; simp; omega
    · rw [name_good _ _ _ (by omega), name_all rs (k + 1) (by omega) (by omega) fun x hx => h x (by simp [hx])]
      simp; omega
theorem name_chain (l : List UInt8) (hne : l ≠ []) (hk : kindZ (rune l) = 1) : nameB (l.take (chainL l)) = decide (runesL l ≤ 30) := by
  unfold nameB runesL
  rw [spell_chain, sufs_step l hne, List.takeWhile_cons, if_pos (by unfold wordy; simp [hk]), List.map_cons]
  rw [name_good _ _ _ (by omega), name_all _ 1 (by omega) (by omega)]
  · simp; omega
  · intro r hr
    obtain ⟨t, ht, rfl⟩ := List.mem_map.1 hr
    have := List.all_eq_true.1 (List.all_takeWhile (p := wordy) (l := sufs (l.drop (Lib.decodeL l).2))) t ht
    exact of_decide_eq_true this
theorem quote_first {l : List UInt8} (hne : l ≠ []) (hr : rune l = 34) : closeL l = closeGo 1 false (l.drop 1) := by
  cases l with
  | nil => exact absurd rfl hne
  | cons c u =>
    unfold rune at hr
    have hc : c.toNat = 34 := by
      by_cases h : c.toNat < 128
      · rw [dec_ascii c u h] at hr; dsimp only at hr; omega
      · have := dec_high c u (by omega); omega
    unfold closeL
    rw [closeGo, if_neg (by simp), if_neg (by omega), if_neg (by omega)]; rfl
theorem close_slash {s : ByteArray} {i : Nat} (h : i < s.size) (hc : s[i].toNat = 92) : closeGo i false (s.data.toList.drop i) = closeGo (i + 2) false (s.data.toList.drop (i + 2)) := by
  rw [drop_cons h, closeGo, if_neg (by simp), if_pos hc]
  by_cases h1 : i + 1 < s.size
  · rw [drop_cons h1, closeGo, if_pos rfl]
  · rw [drop_end h1, drop_end (show ¬ i + 2 < s.size by omega)]; rfl
theorem close_quot {s : ByteArray} {i : Nat} (h : i < s.size) (hi : 0 < i) (hc : s[i].toNat = 34) : closeGo i false (s.data.toList.drop i) = i + 1 := by
  rw [drop_cons h, closeGo, if_neg (by simp), if_neg (by omega), if_pos ⟨hc, hi⟩]
theorem close_else {s : ByteArray} {i : Nat} (h : i < s.size) (hc : s[i].toNat ≠ 92) (hc2 : s[i].toNat ≠ 34) : closeGo i false (s.data.toList.drop i) = closeGo (i + 1) false (s.data.toList.drop (i + 1)) := by
  rw [drop_cons h, closeGo, if_neg (by simp), if_neg hc, if_neg (by omega)]

set_option maxHeartbeats 4000000 in
set_option maxRecDepth 100000 in
theorem dsign_is (s : ByteArray) (w : World) : Calls Tryz.prog 10 #[.string s] w fun e w' => e = .returned (.bool (signB s.data.toList)) ∧ w = w' := by
  go_enter Tryz.func10, Tryz.ntmps10
  go_wp2
  all_goals go_ret
  all_goals refine ⟨ret_bool ?_, rfl⟩
  all_goals try (simp only [beq_iff_eq, beq_eq_false_iff_ne, ne_eq, ByteArray.toList_eq] at *)
  all_goals first
    | contradiction
    | (rw [‹s.data.toList = _›]; decide)
    | (unfold signB signs; simp [*])
theorem unqR_any (s : ByteArray) (hs : s.size ≤ 274877906944) (w : World) : Calls Tryz.prog 66 #[.string s] w fun e w' => e = .returned (uVal' (unquoteL s.data.toList)) ∧ Below w.heap.size w w' := by
  refine (runquote_any s hs w).mono fun e w' ⟨he, hb⟩ => ⟨?_, hb⟩
  rw [← unquote_same] at he
  generalize unquoteL s.data.toList = o at he ⊢
  cases o <;> exact he
end Go.Proofs.YtphkodkenkiecaaGreatDoor
