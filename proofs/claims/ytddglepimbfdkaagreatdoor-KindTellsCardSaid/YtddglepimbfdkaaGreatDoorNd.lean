import Derived.Test.YtddglepimbfdkaaGreatDoorNc
import Derived.Lib.AtoiErrMem
import Derived.Lib.LaidTab
import Derived.Lib.ItoaMem
import Derived.Lib.AppendIntMem
import Derived.Deep.DeepMust
section
/- Walks (lex): letters and digits, digits, where a quotation ends, units. -/

namespace Go.Proofs.YtddglepimbfdkaaGreatDoor
open Go.RowKit

theorem ofInt {a b : Int} (h : a = b) : Value.int .i64 a = .int .i64 b := by rw [h]
theorem chain_at {s : ByteArray} {pos : Nat} (h : pos < s.size) : chainL (s.data.toList.drop pos) = if kindZ ((Utf8.decode s pos).1 : Int) = 1 ∨ kindZ ((Utf8.decode s pos).1 : Int) = 2 then (Utf8.decode s pos).2 + chainL (s.data.toList.drop (pos + (Utf8.decode s pos).2)) else 0 := by
  rw [chainL_step _ (drop_ne h)]
  unfold wordy rune wideL
  rw [Lib.decodeL_drop, List.drop_drop]
  simp only [decide_eq_true_eq]
theorem chain_end {s : ByteArray} {pos : Nat} (h : ¬ pos < s.size) : chainL (s.data.toList.drop pos) = 0 := by rw [drop_end h]; rfl

set_option maxHeartbeats 1000000 in
set_option maxRecDepth 100000 in
theorem chain_any (s : ByteArray) (w : World) (_hs : s.size ≤ maxLen) : Calls Tryz.prog 144 #[.string s] w fun e w' => e = .returned (.int .i64 (chainL s.data.toList : Nat)) ∧ Below w.heap.size w w' := by
  unfold maxLen at _hs
  go_enter Tryz.func144, Tryz.ntmps144
  go_wp2
  go_loopw [3] (fun _ wr => ∃ (pos : Nat), wr.heap[w.heap.size]? = some (.stringIter s pos) ∧ Below w.heap.size w wr ∧ Hid (pos + chainL (s.data.toList.drop pos) = chainL s.data.toList) ∧ pos ≤ s.size) (fun _ wr => s.size - wr.iterPos w.heap.size)
  case atStart => exact ⟨0, World.iter_heap w s 0, (Below.refl _ _).alloc (Nat.le_refl _) _, (by show _ = _; simp), Nat.zero_le _⟩
  case round =>
    obtain ⟨pos, hit, hbw, H, hps⟩ := hrel
    have hpos0 := iterPos_of hit
    by_cases hp : pos < s.size
    · have hnx : ∀ ty, (Instr.next (.pointer (some ⟨w.heap.size, 0, none⟩)) true ty).run Tryz.prog wr = _ := fun ty => Lib.run_next_any_at wr w.heap.size s pos ty hit hp
      have hwd := width1 s pos
      have hwl := width_le hp
      have hit2 := Lib.iterAt_heap wr w.heap.size s pos (pos + (Utf8.decode s pos).2) hit
      have hbw2 := Lib.below_iterAt hbw (k := w.heap.size) (Nat.le_refl _) s (pos + (Utf8.decode s pos).2)
      have H0 := Lib.hid (chain_at hp)
      go_wp2_with (go_at_call 102; refine (kind_any _ _).mono ?_; rintro e w' ⟨rfl, rfl⟩)
      all_goals try (simp only [bne_iff_ne, bne_eq_false_iff_eq, ne_eq] at *)
      all_goals first
        | (go_ret
           exact ⟨ret_int (by have h1 := H0.out; rw [if_neg (by omega)] at h1; rw [← H.out, h1]; simp), hbw2⟩)
        | (go_roundw
           case rel => exact ⟨pos + (Utf8.decode s pos).2, hit2, hbw2, (by show _ = _; have h1 := H0.out; rw [if_pos (by omega)] at h1; rw [← H.out, h1]; omega), hwl⟩
           case measure => rw [iterPos_of hit2, hpos0]; omega)
        | (exfalso; omega)
    · have hnx : ∀ ty, (Instr.next (.pointer (some ⟨w.heap.size, 0, none⟩)) true ty).run Tryz.prog wr = _ := fun ty => Lib.run_next_end_at wr w.heap.size s pos ty hit hp
      have H2 : Hid (s.size = chainL s.data.toList) := by
        show _ = _
        rw [← H.out, chain_end hp]; omega
      go_wp2
      go_ret
      exact ⟨ret_int (by rw [← H2.out]), hbw⟩

theorem digits_at {s : ByteArray} {pos : Nat} (h : pos < s.size) : digitsL (s.data.toList.drop pos) = if kindZ ((Utf8.decode s pos).1 : Int) = 2 then (Utf8.decode s pos).2 + digitsL (s.data.toList.drop (pos + (Utf8.decode s pos).2)) else 0 := by
  have hne := drop_ne h
  rw [digitsL_step _ hne]
  have e : rune (s.data.toList.drop pos) = ((Utf8.decode s pos).1 : Int) := by unfold rune; rw [Lib.decodeL_drop]
  rw [e]
  by_cases hk : kindZ ((Utf8.decode s pos).1 : Int) = 2
  · have hw := digit_wide _ hne ((kind_two _ hne).1 (by rw [e]; exact hk))
    unfold wideL at hw
    rw [Lib.decodeL_drop] at hw
    rw [if_pos hk, if_pos hk, hw, List.drop_drop]
  · rw [if_neg hk, if_neg hk]
theorem digits_end {s : ByteArray} {pos : Nat} (h : ¬ pos < s.size) : digitsL (s.data.toList.drop pos) = 0 := by rw [drop_end h]; rfl

set_option maxHeartbeats 1000000 in
set_option maxRecDepth 100000 in
theorem digits_any (s : ByteArray) (w : World) (_hs : s.size ≤ maxLen) : Calls Tryz.prog 170 #[.string s] w fun e w' => e = .returned (.int .i64 (digitsL s.data.toList : Nat)) ∧ Below w.heap.size w w' := by
  unfold maxLen at _hs
  go_enter Tryz.func170, Tryz.ntmps170
  go_wp2
  go_loopw [3] (fun _ wr => ∃ (pos : Nat), wr.heap[w.heap.size]? = some (.stringIter s pos) ∧ Below w.heap.size w wr ∧ Hid (pos + digitsL (s.data.toList.drop pos) = digitsL s.data.toList) ∧ pos ≤ s.size) (fun _ wr => s.size - wr.iterPos w.heap.size)
  case atStart => exact ⟨0, World.iter_heap w s 0, (Below.refl _ _).alloc (Nat.le_refl _) _, (by show _ = _; simp), Nat.zero_le _⟩
  case round =>
    obtain ⟨pos, hit, hbw, H, hps⟩ := hrel
    have hpos0 := iterPos_of hit
    by_cases hp : pos < s.size
    · have hnx : ∀ ty, (Instr.next (.pointer (some ⟨w.heap.size, 0, none⟩)) true ty).run Tryz.prog wr = _ := fun ty => Lib.run_next_any_at wr w.heap.size s pos ty hit hp
      have hwd := width1 s pos
      have hwl := width_le hp
      have hit2 := Lib.iterAt_heap wr w.heap.size s pos (pos + (Utf8.decode s pos).2) hit
      have hbw2 := Lib.below_iterAt hbw (k := w.heap.size) (Nat.le_refl _) s (pos + (Utf8.decode s pos).2)
      have H0 := Lib.hid (digits_at hp)
      go_wp2_with (go_at_call 102; refine (kind_any _ _).mono ?_; rintro e w' ⟨rfl, rfl⟩)
      all_goals try (simp only [bne_iff_ne, bne_eq_false_iff_eq, ne_eq] at *)
      all_goals first
        | (go_ret
           exact ⟨ret_int (by have h1 := H0.out; rw [if_neg (by omega)] at h1; rw [← H.out, h1]; simp), hbw2⟩)
        | (go_roundw
           case rel => exact ⟨pos + (Utf8.decode s pos).2, hit2, hbw2, (by show _ = _; have h1 := H0.out; rw [if_pos (by omega)] at h1; rw [← H.out, h1]; omega), hwl⟩
           case measure => rw [iterPos_of hit2, hpos0]; omega)
        | (exfalso; omega)
    · have hnx : ∀ ty, (Instr.next (.pointer (some ⟨w.heap.size, 0, none⟩)) true ty).run Tryz.prog wr = _ := fun ty => Lib.run_next_end_at wr w.heap.size s pos ty hit hp
      have H2 : Hid (s.size = digitsL s.data.toList) := by
        show _ = _
        rw [← H.out, digits_end hp]; omega
      go_wp2
      go_ret
      exact ⟨ret_int (by rw [← H2.out]), hbw⟩

/-! ### where a quotation ends -/
theorem close_high : ∀ (xs u : List UInt8) (i : Nat), (∀ x ∈ xs, 128 ≤ x.toNat) → closeGo i false (xs ++ u) = closeGo (i + xs.length) false u :=
  fun xs u i h => close_plain xs u i fun x hx => ⟨fun e => by have := h x hx; rw [e] at this; revert this; decide, fun e => by have := h x hx; rw [e] at this; revert this; decide⟩
/-- One piece on. -/
theorem close_piece (l : List UInt8) (hne : l ≠ []) (i : Nat) (esc : Bool) : closeGo i esc l =
    if esc = true then closeGo (i + wideL l) false (l.drop (wideL l)) else if rune l = 92 then closeGo (i + wideL l) true (l.drop (wideL l))
    else if rune l = 34 ∧ 0 < i then i + 1 else closeGo (i + wideL l) false (l.drop (wideL l)) := by
  cases l with
  | nil => exact absurd rfl hne
  | cons c u =>
    by_cases hc : c.toNat < 128
    · have hd := dec_ascii c u hc
      have hr : rune (c :: u) = (c.toNat : Int) := by unfold rune; rw [hd]
      have hw : wideL (c :: u) = 1 := by unfold wideL; rw [hd]
      rw [hr, hw, closeGo, List.drop_one, List.tail_cons]
      have e1 : ((c.toNat : Int) = 92) = (c.toNat = 92) := by apply propext; omega
      have e2 : ((c.toNat : Int) = 34) = (c.toNat = 34) := by apply propext; omega
      simp only [e1, e2]
    · have h1 := dec_high c u (by omega)
      have hr : 128 ≤ rune (c :: u) := by unfold rune; omega
      have hw1 := wide_pos (c :: u)
      have hw2 := wide_le hne
      obtain ⟨k, hk⟩ : ∃ k, wideL (c :: u) = k + 1 := ⟨wideL (c :: u) - 1, by omega⟩
      have hu : closeGo (i + 1) false u = closeGo (i + (k + 1)) false (u.drop k) := by
        have hk2 : k ≤ u.length := by rw [hk, List.length_cons] at hw2; omega
        have := close_high (u.take k) (u.drop k) (i + 1) (fun x hx => by
          obtain ⟨j, hj, rfl⟩ := List.mem_iff_getElem.1 hx
          rw [List.length_take] at hj
          have := tail_high (c :: u) (j + 1) (by omega) (by omega)
          rw [List.getElem_take]
          have e : (c :: u).getD (j + 1) 0 = u[j]'(by omega) := by simp [List.getD, List.getElem?_eq_getElem (show j < u.length by omega)]
          rwa [e] at this)
        rw [List.take_append_drop, List.length_take, Nat.min_eq_left hk2] at this
        rw [this]; congr 1; omega
      rw [hk, List.drop_succ_cons, closeGo, hu, if_neg (show ¬ rune (c :: u) = 92 by omega), if_neg (show ¬ (rune (c :: u) = 34 ∧ 0 < i) by omega), if_neg (show ¬ c.toNat = 92 by omega), if_neg (show ¬ (c.toNat = 34 ∧ 0 < i) by omega)]
theorem close_at {s : ByteArray} {pos : Nat} (h : pos < s.size) (esc : Bool) : closeGo pos esc (s.data.toList.drop pos) =
    if esc = true then closeGo (pos + (Utf8.decode s pos).2) false (s.data.toList.drop (pos + (Utf8.decode s pos).2)) else if ((Utf8.decode s pos).1 : Int) = 92 then closeGo (pos + (Utf8.decode s pos).2) true (s.data.toList.drop (pos + (Utf8.decode s pos).2))
    else if ((Utf8.decode s pos).1 : Int) = 34 ∧ 0 < pos then pos + 1 else closeGo (pos + (Utf8.decode s pos).2) false (s.data.toList.drop (pos + (Utf8.decode s pos).2)) := by
  rw [close_piece _ (drop_ne h)]
  unfold rune wideL
  rw [Lib.decodeL_drop, List.drop_drop]
theorem close_end {s : ByteArray} {pos : Nat} (h : ¬ pos < s.size) (esc : Bool) : closeGo pos esc (s.data.toList.drop pos) = 0 := by rw [drop_end h]; rfl

set_option maxHeartbeats 1000000 in
set_option maxRecDepth 100000 in
theorem closed_any (s : ByteArray) (w : World) (hs : s.size ≤ maxLen) : Calls Tryz.prog 147 #[.string s] w fun e w' => e = .returned (.int .i64 (closeL s.data.toList : Nat)) ∧ Below w.heap.size w w' := by
  unfold maxLen at hs
  go_enter Tryz.func147, Tryz.ntmps147
  go_wp2
  go_loopw [3] (fun v wr => ∃ (pos : Nat) (esc : Bool), v = .bool esc ∧ wr.heap[w.heap.size]? = some (.stringIter s pos) ∧ Below w.heap.size w wr ∧ Hid (closeGo pos esc (s.data.toList.drop pos) = closeL s.data.toList) ∧ pos ≤ s.size) (fun _ wr => s.size - wr.iterPos w.heap.size)
  case atStart => exact ⟨0, false, rfl, World.iter_heap w s 0, (Below.refl _ _).alloc (Nat.le_refl _) _, (by show _ = _; simp [closeL]), Nat.zero_le _⟩
  case round =>
    obtain ⟨pos, esc, rfl, hit, hbw, H, hps⟩ := hrel
    have hpos0 := iterPos_of hit
    by_cases hp : pos < s.size
    · have hnx : ∀ ty, (Instr.next (.pointer (some ⟨w.heap.size, 0, none⟩)) true ty).run Tryz.prog wr = _ := fun ty => Lib.run_next_any_at wr w.heap.size s pos ty hit hp
      have hwd := width1 s pos
      have hwl := width_le hp
      have hit2 := Lib.iterAt_heap wr w.heap.size s pos (pos + (Utf8.decode s pos).2) hit
      have hbw2 := Lib.below_iterAt hbw (k := w.heap.size) (Nat.le_refl _) s (pos + (Utf8.decode s pos).2)
      have H0 := Lib.hid ((close_at hp esc).symm.trans H.out)
      clear H
      cases esc
      all_goals go_wp2
      all_goals try (simp only [beq_iff_eq, beq_eq_false_iff_ne, ne_eq] at *)
      all_goals first
        | (go_ret
           exact ⟨ret_int (by have h1 := H0.out; rw [if_neg (by decide), if_neg (by omega), if_pos ⟨by omega, by omega⟩] at h1; rw [← h1]; simp), hbw2⟩)
        | (go_roundw
           case rel => exact ⟨pos + (Utf8.decode s pos).2, _, rfl, hit2, hbw2, (by show _ = _; have h1 := H0.out; first | (rw [if_pos trivial] at h1; exact h1) | (rw [if_pos rfl] at h1; exact h1) | (rw [if_neg (by decide), if_pos (by omega)] at h1; exact h1) | (rw [if_neg (by decide), if_neg (by omega), if_neg (by omega)] at h1; exact h1)), hwl⟩
           case measure => rw [iterPos_of hit2, hpos0]; omega)
        | (exfalso; omega)
    · have hnx : ∀ ty, (Instr.next (.pointer (some ⟨w.heap.size, 0, none⟩)) true ty).run Tryz.prog wr = _ := fun ty => Lib.run_next_end_at wr w.heap.size s pos ty hit hp
      have H2 : Hid (0 = closeL s.data.toList) := by
        show _ = _
        rw [← H.out, close_end hp]
      go_wp2
      go_ret
      exact ⟨ret_int (by rw [← H2.out]; rfl), hbw⟩
end Go.Proofs.YtddglepimbfdkaaGreatDoor
end

section
/- Walks (lex): units, values, the tokens that begin with a digit. -/





namespace Go.Proofs.YtddglepimbfdkaaGreatDoor
open Go.RowKit

/-- What the library's walks ask of a world: a sentinel of strconv's, and the table of tens. -/
def Env (w : World) : Prop := (∃ ev, w.cell? ⟨4, 0, none⟩ = some ev ∧ (ev = .nilIface ∨ ∃ te pe, ev = .iface te pe)) ∧ 4 < w.heap.size ∧ Lib.TabIs Tryz.prog w "internal/strconv.uint64pow10" .u64 Lib.pow10Tab
theorem tab_below {P : Program} {n : String} {g : Nat} {k : IntKind} {zs : List Int} {w w' : World} (hg : P.globalNamed n = some g) (h : Lib.TabIs P w n k zs) (hb : Below w.heap.size w w') : Lib.TabIs P w' n k zs := by
  unfold Lib.TabIs World.var? at h ⊢
  rw [hg] at h ⊢
  simp only [Option.bind_some] at h ⊢
  have hlt : g < w.heap.size := by
    rcases Nat.lt_or_ge g w.heap.size with h' | h'
    · exact h'
    · rw [Array.getElem?_eq_none h'] at h; cases h
  rw [hb.block g hlt]
  exact h
theorem Env.below {w w' : World} (h : Env w) (hb : Below w.heap.size w w') : Env w' := by
  obtain ⟨⟨ev, h1, h2⟩, h3, h4⟩ := h
  exact ⟨⟨ev, (hb.cell (p := ⟨4, 0, none⟩) h3).trans h1, h2⟩, Nat.lt_of_lt_of_le h3 hb.size, tab_below (g := 0) (by kernel_rfl) h4 hb⟩

theorem itoa_any (n : Nat) (hn : n ≤ 9223372036854775807) (w : World) (h : Env w) : Calls Tryz.prog 47 #[.int .i64 (n : Nat)] w fun e w' => e = .returned (.string ⟨(Lib.decDigits n).toArray⟩) ∧ Below w.heap.size w w' := by
  refine (Tryz.strconv_Itoa n (by omega) (by omega) w h.2.2).mono fun e w' ⟨he, k, os, hw⟩ => ⟨?_, ?_⟩
  · rw [he, Lib.itoa_nonneg]
  · rw [hw]; exact Lib.below_grow _ w (Nat.le_refl _) k os

theorem decFrom_dig : ∀ (l : List UInt8) (a : Nat), (∀ c ∈ l, digB c = true) → Lib.decFrom a l = some (valGo a l)
  | [], a, _ => rfl
  | c :: l, a, h => by
    have hc : 48 ≤ c.toNat ∧ c.toNat ≤ 57 := of_decide_eq_true (h c (by simp))
    have e : Lib.digitVal c = some (c.toNat - 48) := by unfold Lib.digitVal; rw [if_pos hc]
    unfold Lib.decFrom
    rw [e]
    exact decFrom_dig l _ fun x hx => h x (by simp [hx])
theorem atoi_dig (l : List UInt8) (hne : l ≠ []) (h : ∀ c ∈ l, digB c = true) : Lib.atoi l = some ((valL l : Nat) : Int) := by
  have hd := decFrom_dig l 0 h
  cases l with
  | nil => exact absurd rfl hne
  | cons c u =>
    have hc : 48 ≤ c.toNat ∧ c.toNat ≤ 57 := of_decide_eq_true (h c (by simp))
    have hn : Lib.decNat (c :: u) = some (valL (c :: u)) := by
      unfold Lib.decNat
      rw [if_neg (by simp)]; exact hd
    have e1 : ¬ (c == 45) = true := by
      intro e; have := eq_of_beq e; subst this; revert hc; decide
    have e2 : ¬ (c == 43) = true := by
      intro e; have := eq_of_beq e; subst this; revert hc; decide
    unfold Lib.atoi
    show (if (c == 45) = true then _ else _) = _
    rw [if_neg e1, if_neg e2, hn]; rfl
theorem atoi_any (s : ByteArray) (hne : s.data.toList ≠ []) (hl : s.size ≤ 13) (h : ∀ c ∈ s.data.toList, digB c = true) (w : World) :
    Calls Tryz.prog 195 #[.string s] w fun e w' => e = .returned (.tuple #[.int .i64 (valL s.data.toList : Nat), .nilIface]) ∧ Below w.heap.size w w' := by
  refine (Tryz.strconv_Atoi s (valL s.data.toList : Nat) (by omega) (atoi_dig _ hne h) w).mono fun e w' ⟨he, t, hw⟩ => ⟨he, ?_⟩
  rw [hw]; exact Lib.bytesWorld_below ..

/-- What a value that may be none is told as. -/
def valV (l : List UInt8) : Value := if 13 < l.length ∨ 1000000000000 < valL l then .tuple #[.int .i64 0, .bool false] else .tuple #[.int .i64 (valL l : Nat), .bool true]

set_option maxHeartbeats 1000000 in
set_option maxRecDepth 100000 in
theorem value_any (s : ByteArray) (hne : s.data.toList ≠ []) (h : ∀ c ∈ s.data.toList, digB c = true) (hs : s.size ≤ maxLen) (w : World) :
    Calls Tryz.prog 171 #[.string s] w fun e w' => e = .returned (valV s.data.toList) ∧ Below w.heap.size w w' := by
  unfold maxLen at hs
  have hz : s.data.toList.length = s.size := by rw [← Lib.size_eq]
  by_cases hl : 13 < s.size
  · have e : valV s.data.toList = .tuple #[.int .i64 0, .bool false] := by unfold valV; rw [if_pos (.inl (by omega))]
    rw [e]
    have i1 : (13 : Int) < s.size := by omega
    clear e hz h hne
    go_enter Tryz.func171, Tryz.ntmps171
    go_wp2
    go_ret2
    exact ⟨rfl, Below.refl _ _⟩
  · have HA := Lib.hid (fun W => atoi_any s hne (by omega) h W)
    have hb : valL s.data.toList < 10 ^ s.data.toList.length := by
      have := Lib.decFrom_lt _ 0 _ (decFrom_dig _ 0 h)
      simpa [valL] using this
    have hb2 : (10 : Nat) ^ s.data.toList.length ≤ 10 ^ 13 := Nat.pow_le_pow_right (by decide) (by omega)
    have e : valV s.data.toList = if 1000000000000 < valL s.data.toList then .tuple #[.int .i64 0, .bool false] else .tuple #[.int .i64 (valL s.data.toList : Nat), .bool true] := by
      unfold valV
      by_cases hv : 1000000000000 < valL s.data.toList
      · rw [if_pos (.inr hv), if_pos hv]
      · rw [if_neg (by omega), if_neg hv]
    rw [e]
    have i1 : (s.size : Int) ≤ 13 := by omega
    clear e hne h hz hl
    obtain ⟨v, hv⟩ : ∃ v, valL s.data.toList = v := ⟨_, rfl⟩
    rw [hv] at HA hb ⊢
    have i2 : (v : Int) ≤ 10000000000000 := by omega
    clear hb hb2 hv
    by_cases hv : 1000000000000 < v
    · rw [if_pos hv]
      have i3 : (1000000000000 : Int) < v := by omega
      go_enter Tryz.func171, Tryz.ntmps171
      go_wp2_with fail
      refine (HA.out _).mono ?_
      rintro e w1 ⟨rfl, b1⟩
      go_wp2
      go_ret2
      exact ⟨rfl, b1⟩
    · rw [if_neg hv]
      have i3 : (v : Int) ≤ 1000000000000 := by omega
      go_enter Tryz.func171, Tryz.ntmps171
      go_wp2_with fail
      refine (HA.out _).mono ?_
      rintro e w1 ⟨rfl, b1⟩
      go_wp2
      go_ret2
      exact ⟨rfl, b1⟩

set_option maxHeartbeats 1000000 in
set_option maxRecDepth 100000 in
theorem seconds_any (s : ByteArray) (w : World) : Calls Tryz.prog 172 #[.string s] w fun e w' => e = .returned (.int .i64 (secsL s.data.toList : Nat)) ∧ w = w' := by
  go_enter Tryz.func172, Tryz.ntmps172
  go_wp2
  all_goals go_ret
  all_goals refine ⟨ret_int ?_, rfl⟩
  all_goals try (simp only [beq_iff_eq, beq_eq_false_iff_ne, ne_eq, ByteArray.toList_eq] at *)
  all_goals (unfold secsL; simp [*])
end Go.Proofs.YtddglepimbfdkaaGreatDoor
end

section
/- Walks (lex): the token with which a text begins. -/


namespace Go.Proofs.YtddglepimbfdkaaGreatDoor
open Go.RowKit

/-- A token, and how many bytes it has, as it is answered. -/
def tokV (o : Option Tk) : Value := match o with
  | some t => .tuple #[.agg #[.int .i64 (t.1 : Nat), .int .i64 0, .string ⟨t.2.1.toArray⟩], .int .i64 (t.2.2 : Nat)]
  | none => .tuple #[.agg #[.int .i64 0, .int .i64 0, .string ⟨#[]⟩], .int .i64 0]
theorem ext_take (s : ByteArray) (k : Nat) : (s.extract 0 k).data.toList = s.data.toList.take k := by
  rw [ByteArray.data_extract]; simp
theorem ext_drop (s : ByteArray) (k : Nat) : (s.extract k s.size).data.toList = s.data.toList.drop k := by
  rw [ByteArray.data_extract, show s.size = s.data.size from rfl, Array.toList_extract]
  simp [List.extract, List.take_of_length_le]
theorem str_of (s : ByteArray) : (⟨s.data.toList.toArray⟩ : ByteArray) = s := by cases s with | mk d => simp
theorem clone_any (s : ByteArray) (w : World) (hs : s.size ≤ 281474976710656) :
    Calls Tryz.prog 167 #[.string s] w fun e w' => e = .returned (.string s) ∧ Below w.heap.size w w' := by
  go_enter Tryz.func167, Tryz.ntmps167
  go_wp2_with (go_at_call 194; refine (Tryz.stringslite_Clone _ _ hs).mono ?_; rintro e w1 ⟨rfl, b1⟩)
  go_ret
  exact ⟨rfl, b1⟩

set_option maxHeartbeats 4000000 in
set_option maxRecDepth 100000 in
theorem sign_is (s : ByteArray) (w : World) : Calls Tryz.prog 174 #[.string s] w fun e w' => e = .returned (.bool (signB s.data.toList)) ∧ w = w' := by
  go_enter Tryz.func174, Tryz.ntmps174
  go_wp2
  all_goals go_ret
  all_goals refine ⟨ret_bool ?_, rfl⟩
  all_goals try (simp only [beq_iff_eq, beq_eq_false_iff_ne, ne_eq, ByteArray.toList_eq] at *)
  all_goals first
    | contradiction
    | (rw [‹s.data.toList = _›]; decide)
    | (unfold signB signs; simp [*])

theorem kcell {W w1 : World} (hb : Below W.heap.size W w1) : (∀ b o, b < W.heap.size → w1.cell? ⟨b, o, none⟩ = W.cell? ⟨b, o, none⟩) ∧ (∀ b o, b < W.heap.size → w1.frozen? ⟨b, o, none⟩ = W.frozen? ⟨b, o, none⟩) :=
  ⟨fun b o h => hb.cell (p := ⟨b, o, none⟩) h, fun b o h => hb.frozen (p := ⟨b, o, none⟩) h⟩

set_option maxHeartbeats 1000000 in
set_option maxRecDepth 100000 in
theorem word_any (s : ByteArray) (w : World) (hs : s.size ≤ 1099511627776) : Calls Tryz.prog 143 #[.string s] w fun e w' => e = .returned (tokV (if nameB s.data.toList = true then some (1, s.data.toList, s.size) else none)) ∧ Below w.heap.size w w' := by
  have HN := Lib.hid (fun W => name_any s W)
  have HC := Lib.hid (fun W => clone_any s W (by omega))
  have hs2 : (s.size : Int) ≤ 1099511627776 := by omega
  clear hs
  generalize nameB s.data.toList = b at HN ⊢
  cases b
  · go_enter Tryz.func143, Tryz.ntmps143
    go_wp2_with fail
    refine (HN.out _).mono ?_
    rintro e w1 ⟨rfl, b1⟩
    obtain ⟨hc1, hf1⟩ := kcell b1
    have hz1 := b1.size
    simp at hz1
    have HB := Lib.hid (((Below.refl _ _).alloc (Nat.le_refl _) _).trans (b1.mono (by simp)))
    clear b1
    go_wp2
    exact bodyPost_ret (v := .tuple #[.agg #[.int .i64 0, .int .i64 0, .string ⟨#[]⟩], .int .i64 0]) (by simp [results, Tryz.results143, go_sem, hc1]) rfl ⟨rfl, ((HB.out.setCell (Nat.le_refl _) _).setCell (Nat.le_refl _) _).setCell (Nat.le_refl _) _⟩
  · go_enter Tryz.func143, Tryz.ntmps143
    go_wp2_with fail
    refine (HN.out _).mono ?_
    rintro e w1 ⟨rfl, b1⟩
    obtain ⟨hc1, hf1⟩ := kcell b1
    have hz1 := b1.size
    simp at hz1
    have HB := Lib.hid (((Below.refl _ _).alloc (Nat.le_refl _) _).trans (b1.mono (by simp)))
    clear b1
    have hlt : w.heap.size < w1.heap.size := by omega
    go_wp2_with fail
    refine (HC.out _).mono ?_
    rintro e w2 ⟨rfl, b2⟩
    obtain ⟨hc2, hf2⟩ := kcell b2
    have hz2 := b2.size
    have HB2 := Lib.hid (HB.out.trans (b2.mono (by omega)))
    clear b2
    go_wp2
    exact bodyPost_ret (v := .tuple #[.agg #[.int .i64 1, .int .i64 0, .string s], .int .i64 s.size]) (by simp [results, Tryz.results143, go_sem, hc1, hc2, hlt]) rfl ⟨by unfold tokV; simp only; rw [str_of]; rfl, ((HB2.out.setCell (Nat.le_refl _) _).setCell (Nat.le_refl _) _).setCell (Nat.le_refl _) _⟩
end Go.Proofs.YtddglepimbfdkaaGreatDoor
end

section
/- Walks (lex): numbers, quotations, signs. -/

namespace Go.Proofs.YtddglepimbfdkaaGreatDoor
open Go.RowKit

def uVal' (o : Option (List UInt8)) : Value := match o with
  | some t => .tuple #[.string ⟨t.toArray⟩, .bool true]
  | none => .tuple #[.string ⟨#[]⟩, .bool false]
theorem unq_any (s : ByteArray) (hs : s.size ≤ 274877906944) (w : World) (h : Env w) : Calls Tryz.prog 173 #[.string s] w fun e w' => e = .returned (uVal' (unquoteL s.data.toList)) ∧ Below w.heap.size w w' := by
  obtain ⟨⟨ev, hG, hev⟩, h0, _⟩ := h
  refine (unquote_any s hs ev w h0 hG hev).mono fun e w' ⟨he, hb⟩ => ⟨?_, hb⟩
  generalize unquoteL s.data.toList = o at he ⊢
  cases o <;> exact he

set_option maxHeartbeats 1000000 in
set_option maxRecDepth 100000 in
theorem quoted_any (s : ByteArray) (w : World) (h : Env w) (hs : s.size ≤ 274877906944) : Calls Tryz.prog 146 #[.string s] w fun e w' => e = .returned (tokV ((unquoteL s.data.toList).map fun t => (3, t, s.size))) ∧ Below w.heap.size w w' := by
  have HN := Lib.hid (fun W (hb : Below w.heap.size w W) => unq_any s (by omega) W (h.below hb))
  have hs2 : (s.size : Int) ≤ 274877906944 := by omega
  clear hs h
  generalize unquoteL s.data.toList = b at HN ⊢
  cases b
  · go_enter Tryz.func146, Tryz.ntmps146
    go_wp2_with fail
    refine (HN.out _ ((Below.refl _ _).alloc (Nat.le_refl _) _)).mono ?_
    rintro e w1 ⟨rfl, b1⟩
    obtain ⟨hc1, hf1⟩ := kcell b1
    have hz1 := b1.size
    simp at hz1
    have HB := Lib.hid (((Below.refl _ _).alloc (Nat.le_refl _) _).trans (b1.mono (by simp)))
    clear b1
    simp only [uVal']
    go_wp2
    exact bodyPost_ret (v := .tuple #[.agg #[.int .i64 0, .int .i64 0, .string ⟨#[]⟩], .int .i64 0]) (by simp [results, Tryz.results146, go_sem, hc1]) rfl ⟨rfl, ((HB.out.setCell (Nat.le_refl _) _).setCell (Nat.le_refl _) _).setCell (Nat.le_refl _) _⟩
  · rename_i t
    go_enter Tryz.func146, Tryz.ntmps146
    go_wp2_with fail
    refine (HN.out _ ((Below.refl _ _).alloc (Nat.le_refl _) _)).mono ?_
    rintro e w1 ⟨rfl, b1⟩
    obtain ⟨hc1, hf1⟩ := kcell b1
    have hz1 := b1.size
    simp at hz1
    have HB := Lib.hid (((Below.refl _ _).alloc (Nat.le_refl _) _).trans (b1.mono (by simp)))
    clear b1
    simp only [uVal']
    go_wp2
    exact bodyPost_ret (v := .tuple #[.agg #[.int .i64 3, .int .i64 0, .string ⟨t.toArray⟩], .int .i64 s.size]) (by simp [results, Tryz.results146, go_sem, hc1]) rfl ⟨rfl, ((HB.out.setCell (Nat.le_refl _) _).setCell (Nat.le_refl _) _).setCell (Nat.le_refl _) _⟩

/-- The sign of at most so many bytes. -/
def signUp (l : List UInt8) : Nat → Option Tk
  | 0 => none
  | n + 1 => if signB (l.take (n + 1)) = true then some (5, l.take (n + 1), n + 1) else signUp l n
theorem signUp_all (l : List UInt8) : signUp l (min 2 l.length) = signL l := by
  unfold signL
  match l with
  | [] => rfl
  | [x] => 
    show signUp [x] 1 = _
    simp [signUp]
  | x :: y :: u =>
    show signUp (x :: y :: u) 2 = _
    simp [signUp]

set_option maxHeartbeats 1000000 in
set_option maxRecDepth 100000 in
theorem sign_any (s : ByteArray) (w : World) (hs : s.size ≤ 274877906944) : Calls Tryz.prog 148 #[.string s] w fun e w' => e = .returned (tokV (signL s.data.toList)) ∧ Below w.heap.size w w' := by
  have HC := Lib.hid (fun n W => clone_any (s.extract 0 n) W (by rw [ByteArray.size_extract]; omega))
  have hz : s.data.toList.length = s.size := by rw [← Lib.size_eq]
  have HS := Lib.hid (signUp_all s.data.toList)
  rw [hz] at HS
  have hs2 : (s.size : Int) ≤ 274877906944 := by omega
  clear hs hz
  have hm : ∃ m, min 2 s.size = m ∧ m ≤ 2 ∧ m ≤ s.size := ⟨_, rfl, by omega, by omega⟩
  obtain ⟨m, hm, hm2, hms⟩ := hm
  rw [hm] at HS
  have mn : ∀ W ts t, (Builtin.min_ ts t #[.int .i64 2, .int .i64 s.size]).run Tryz.prog W = .ok (.int .i64 (m : Nat)) W := by
    intro W ts t
    rw [run_min_int2]
    congr 3
    omega
  clear hm
  go_enter Tryz.func148, Tryz.ntmps148
  go_wp2
  go_loop [4] (fun v => ∃ n : Nat, v = .int .i64 n ∧ n ≤ 2 ∧ n ≤ s.size ∧ Hid (signUp s.data.toList n = signL s.data.toList)) (fun v => (intOf v).toNat)
  case atStart => exact ⟨m, rfl, hm2, hms, HS⟩
  case round =>
    obtain ⟨n, rfl, hn2, hns, H⟩ := hrel
    by_cases h0 : 0 < n
    · obtain ⟨k, rfl⟩ : ∃ k, n = k + 1 := ⟨n - 1, by omega⟩
      have i1 : (k : Int) + 1 ≤ s.size := by omega
      cases hb : signB (s.data.toList.take (k + 1)) with
      | true =>
        have HI := Lib.hid (fun W => (sign_is (s.extract 0 (k + 1)) W).mono (R' := fun e w' => e = .returned (.bool true) ∧ W = w') (fun e w' ⟨h1, h2⟩ => ⟨by rw [h1, ext_take, hb], h2⟩))
        have H2 := Lib.hid (show signL s.data.toList = some (5, s.data.toList.take (k + 1), k + 1) by rw [← H.out]; unfold signUp; rw [if_pos hb])
        have HX := Lib.hid (show (⟨(s.data.toList.take (k + 1)).toArray⟩ : ByteArray) = s.extract 0 (k + 1) by rw [← ext_take, str_of])
        clear H hb
        go_wp2_with fail
        refine (HI.out _).mono ?_
        rintro e w1 ⟨rfl, rfl⟩
        go_wp2_with fail
        refine (HC.out (k + 1) _).mono ?_
        rintro e w2 ⟨rfl, b2⟩
        obtain ⟨hc2, hf2⟩ := kcell b2
        have hz2 := b2.size
        simp at hz2
        have HB := Lib.hid (((Below.refl _ _).alloc (Nat.le_refl _) _).trans (b2.mono (by simp)))
        clear b2
        go_wp2
        exact bodyPost_ret (v := .tuple #[.agg #[.int .i64 5, .int .i64 0, .string (s.extract 0 (k + 1))], .int .i64 (k + 1)]) (by simp [results, Tryz.results148, go_sem, hc2]) rfl ⟨by rw [H2.out]; unfold tokV; dsimp only; rw [HX.out]; rfl, ((HB.out.setCell (Nat.le_refl _) _).setCell (Nat.le_refl _) _).setCell (Nat.le_refl _) _⟩
      | false =>
        have HI := Lib.hid (fun W => (sign_is (s.extract 0 (k + 1)) W).mono (R' := fun e w' => e = .returned (.bool false) ∧ W = w') (fun e w' ⟨h1, h2⟩ => ⟨by rw [h1, ext_take, hb], h2⟩))
        have H2 := Lib.hid (show signUp s.data.toList k = signL s.data.toList by rw [← H.out]; rw [signUp, hb]; rfl)
        clear H hb
        go_wp2_with fail
        refine (HI.out _).mono ?_
        rintro e w1 ⟨rfl, rfl⟩
        go_wp2
        go_round
        case rel => exact ⟨k, by go_num, by omega, by omega, H2⟩
        case measure => simp [intOf]
    · obtain rfl : n = 0 := by omega
      have H2 := Lib.hid (show none = signL s.data.toList by rw [← H.out]; rfl)
      clear H
      go_wp2
      exact bodyPost_ret (v := .tuple #[.agg #[.int .i64 0, .int .i64 0, .string ⟨#[]⟩], .int .i64 0]) (by simp [results, Tryz.results148, go_sem]) rfl ⟨by rw [← H2.out]; rfl, (Below.refl _ _).alloc (Nat.le_refl _) _⟩
end Go.Proofs.YtddglepimbfdkaaGreatDoor
end
