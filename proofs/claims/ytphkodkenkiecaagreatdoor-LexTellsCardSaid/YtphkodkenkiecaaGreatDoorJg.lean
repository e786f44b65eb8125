/- Walks (lex): units, values, the tokens that begin with a digit. -/
import Derived.Test.YtphkodkenkiecaaGreatDoorJf
import Derived.Lib.AtoiErrMem
import Derived.Lib.LaidTab
import Derived.Lib.ItoaMem
import Derived.Lib.AppendIntMem
namespace Go.Proofs.YtphkodkenkiecaaGreatDoor
open Go.RowKit

/-- What the library's walks ask of a world: a sentinel of strconv's, and the table of tens. -/
def Env (w : World) : Prop := (∃ ev, w.cell? ⟨0, 0, none⟩ = some ev ∧ (ev = .nilIface ∨ ∃ te pe, ev = .iface te pe)) ∧ 0 < w.heap.size ∧ Lib.TabIs Tryz.prog w "internal/strconv.uint64pow10" .u64 Lib.pow10Tab
theorem tab_below {P : Program} {n : String} {g : Nat} {k : IntKind} {zs : List Int} {w w' : World} (hg : P.globalNamed n = some g) (h : Lib.TabIs P w n k zs) (hb : Below w.heap.size w w') : Lib.TabIs P w' n k zs := by
  unfold Lib.TabIs World.var? at h ⊢
  rw [hg] at h ⊢
  simp only [Option.bind_some] at h ⊢
  have hlt : g < w.heap.size := by
    rcases Nat.lt_or_ge g w.heap.size with h' | h'
    · exact h'
    · rw [Array.getElem?_eq_none h'] at h; cases h
  rw [hb.block g hlt]
  exact h
theorem Env.below {w w' : World} (h : Env w) (hb : Below w.heap.size w w') : Env w' := by
  obtain ⟨⟨ev, h1, h2⟩, h3, h4⟩ := h
  exact ⟨⟨ev, (hb.cell (p := ⟨0, 0, none⟩) h3).trans h1, h2⟩, Nat.lt_of_lt_of_le h3 hb.size, tab_below (g := 2) (by kernel_rfl) h4 hb⟩

theorem itoa_any (n : Nat) (hn : n ≤ 9223372036854775807) (w : World) (h : Env w) : Calls Tryz.prog 90 #[.int .i64 (n : Nat)] w fun e w' => e = .returned (.string ⟨(Lib.decDigits n).toArray⟩) ∧ Below w.heap.size w w' := by
  refine (Tryz.strconv_Itoa n (by omega) (by omega) w h.2.2).mono fun e w' ⟨he, k, os, hw⟩ => ⟨?_, ?_⟩
  · rw [he, Lib.itoa_nonneg]
  · rw [hw]; exact Lib.below_grow _ w (Nat.le_refl _) k os

theorem decFrom_dig : ∀ (l : List UInt8) (a : Nat), (∀ c ∈ l, digB c = true) → Lib.decFrom a l = some (valGo a l)
  | [], a, _ => rfl
  | c :: l, a, h => by
    have hc : 48 ≤ c.toNat ∧ c.toNat ≤ 57 := of_decide_eq_true (h c (by simp))
    have e : Lib.digitVal c = some (c.toNat - 48) := by unfold Lib.digitVal; rw [if_pos hc]
    unfold Lib.decFrom
    rw [e]
    exact decFrom_dig l _ fun x hx => h x (by simp [hx])
theorem atoi_dig (l : List UInt8) (hne : l ≠ []) (h : ∀ c ∈ l, digB c = true) : Lib.atoi l = some ((valL l : Nat) : Int) := by
  have hd := decFrom_dig l 0 h
  cases l with
  | nil => exact absurd rfl hne
  | cons c u =>
    have hc : 48 ≤ c.toNat ∧ c.toNat ≤ 57 := of_decide_eq_true (h c (by simp))
    have hn : Lib.decNat (c :: u) = some (valL (c :: u)) := by
      unfold Lib.decNat
      rw [if_neg (by simp)]; exact hd
    have e1 : ¬ (c == 45) = true := by
      intro e; have := eq_of_beq e; subst this; revert hc; decide
    have e2 : ¬ (c == 43) = true := by
      intro e; have := eq_of_beq e; subst this; revert hc; decide
    unfold Lib.atoi
    show (if (c == 45) = true then _ else _) = _
    rw [if_neg e1, if_neg e2, hn]; rfl
theorem atoi_any (s : ByteArray) (hne : s.data.toList ≠ []) (hl : s.size ≤ 13) (h : ∀ c ∈ s.data.toList, digB c = true) (w : World) :
    Calls Tryz.prog 99 #[.string s] w fun e w' => e = .returned (.tuple #[.int .i64 (valL s.data.toList : Nat), .nilIface]) ∧ Below w.heap.size w w' := by
  refine (Tryz.strconv_Atoi s (valL s.data.toList : Nat) (by omega) (atoi_dig _ hne h) w).mono fun e w' ⟨he, t, hw⟩ => ⟨he, ?_⟩
  rw [hw]; exact Lib.bytesWorld_below ..

/-- What a value that may be none is told as. -/
def valV (l : List UInt8) : Value := if 13 < l.length ∨ 1000000000000 < valL l then .tuple #[.int .i64 0, .bool false] else .tuple #[.int .i64 (valL l : Nat), .bool true]

set_option maxHeartbeats 1000000 in
set_option maxRecDepth 100000 in
theorem value_any (s : ByteArray) (hne : s.data.toList ≠ []) (h : ∀ c ∈ s.data.toList, digB c = true) (hs : s.size ≤ maxLen) (w : World) :
    Calls Tryz.prog 89 #[.string s] w fun e w' => e = .returned (valV s.data.toList) ∧ Below w.heap.size w w' := by
  unfold maxLen at hs
  have hz : s.data.toList.length = s.size := by rw [← Lib.size_eq]
  by_cases hl : 13 < s.size
  · have e : valV s.data.toList = .tuple #[.int .i64 0, .bool false] := by unfold valV; rw [if_pos (.inl (by omega))]
    rw [e]
    have i1 : (13 : Int) < s.size := by omega
    clear e hz h hne
    go_enter Tryz.func89, Tryz.ntmps89
    go_wp2
    go_ret2
    exact ⟨rfl, Below.refl _ _⟩
  · have HA := Lib.hid (fun W => atoi_any s hne (by omega) h W)
    have hb : valL s.data.toList < 10 ^ s.data.toList.length := by
      have := Lib.decFrom_lt _ 0 _ (decFrom_dig _ 0 h)
      simpa [valL] using this
    have hb2 : (10 : Nat) ^ s.data.toList.length ≤ 10 ^ 13 := Nat.pow_le_pow_right (by decide) (by omega)
    have e : valV s.data.toList = if 1000000000000 < valL s.data.toList then .tuple #[.int .i64 0, .bool false] else .tuple #[.int .i64 (valL s.data.toList : Nat), .bool true] := by
      unfold valV
      by_cases hv : 1000000000000 < valL s.data.toList
      · rw [if_pos (.inr hv), if_pos hv]
      · rw [if_neg (by omega), if_neg hv]
    rw [e]
    have i1 : (s.size : Int) ≤ 13 := by omega
    clear e hne h hz hl
    obtain ⟨v, hv⟩ : ∃ v, valL s.data.toList = v := ⟨_, rfl⟩
    rw [hv] at HA hb ⊢
    have i2 : (v : Int) ≤ 10000000000000 := by omega
    clear hb hb2 hv
    by_cases hv : 1000000000000 < v
    · rw [if_pos hv]
      have i3 : (1000000000000 : Int) < v := by omega
      go_enter Tryz.func89, Tryz.ntmps89
      go_wp2_with fail
      refine (HA.out _).mono ?_
      rintro e w1 ⟨rfl, b1⟩
      go_wp2
      go_ret2
      exact ⟨rfl, b1⟩
    · rw [if_neg hv]
      have i3 : (v : Int) ≤ 1000000000000 := by omega
      go_enter Tryz.func89, Tryz.ntmps89
      go_wp2_with fail
      refine (HA.out _).mono ?_
      rintro e w1 ⟨rfl, b1⟩
      go_wp2
      go_ret2
      exact ⟨rfl, b1⟩

set_option maxHeartbeats 1000000 in
set_option maxRecDepth 100000 in
theorem seconds_any (s : ByteArray) (w : World) : Calls Tryz.prog 91 #[.string s] w fun e w' => e = .returned (.int .i64 (secsL s.data.toList : Nat)) ∧ w = w' := by
  go_enter Tryz.func91, Tryz.ntmps91
  go_wp2
  all_goals go_ret
  all_goals refine ⟨ret_int ?_, rfl⟩
  all_goals try (simp only [beq_iff_eq, beq_eq_false_iff_ne, ne_eq, ByteArray.toList_eq] at *)
  all_goals (unfold secsL; simp [*])
end Go.Proofs.YtphkodkenkiecaaGreatDoor
