/- A walk: two digits of base 16 are read. -/
import Derived.Test.YtphkodkenkiecaaGreatDoorWd
import Derived.Lib.AtoiAllMem
import Derived.Lib.AtoiErrMem
import Derived.Lib.ConvBytes
import Derived.Laws.Strings3
import Derived.Laws.Closers25b
import Derived.BigGuard
namespace Go.Proofs.YtphkodkenkiecaaGreatDoor
open Go.RowKit

/-- The number of a digit. -/
def hexv (b : Nat) : Option Nat :=
  if 48 ≤ b ∧ b ≤ 57 then some (b - 48) else if 97 ≤ b ∧ b ≤ 102 then some (b - 87) else if 65 ≤ b ∧ b ≤ 70 then some (b - 55) else none
def hexGo : Nat → List UInt8 → Option Nat
  | a, [] => some a
  | a, c :: r => match hexv c.toNat with
    | none => none
    | some d => hexGo (a * 16 + d) r
def lowZ (c : Int) : Int := if c / 32 % 2 = 1 then c else c + 32
theorem low_eq : ∀ c : Nat, c < 256 → bits .or .u8 (c : Int) 32 = lowZ c := by
  decide +kernel
theorem lower_any (c : Int) (h0 : 0 ≤ c) (hc : c < 256) (w : World) : Calls Tryz.prog 135 #[.int .u8 c] w fun e w' => e = .returned (.int .u8 (lowZ c)) ∧ w = w' := by
  obtain ⟨n, rfl⟩ := Int.eq_ofNat_of_zero_le h0
  rw [← low_eq n (by omega)]
  exact (Tryz.internal_strconv_lower n w).mono fun _ _ ⟨a, b⟩ => ⟨a, b.symm⟩
theorem low_bd (c : Int) (h0 : 0 ≤ c) (hc : c < 256) : 0 ≤ lowZ c ∧ lowZ c ≤ 287 := by unfold lowZ; split <;> omega
theorem hexv_low {c : Nat} (hd : ¬ (48 ≤ c ∧ c ≤ 57)) (hc : c < 256) (h : 97 ≤ lowZ c ∧ lowZ c ≤ 102) : ((hexv c).getD 0 : Int) = lowZ c - 97 + 10 ∧ hexv c = some ((hexv c).getD 0) := by
  unfold lowZ at h ⊢
  unfold hexv
  rw [if_neg hd]
  by_cases h1 : 97 ≤ c ∧ c ≤ 102
  · rw [if_pos h1]; rw [if_pos (by omega)]; exact ⟨by simp; omega, rfl⟩
  · rw [if_neg h1]
    have h2 : 65 ≤ c ∧ c ≤ 70 := by split at h <;> omega
    rw [if_pos h2, if_neg (by omega)]; exact ⟨by simp; omega, rfl⟩
theorem hexv_low_none {c : Nat} (hd : ¬ (48 ≤ c ∧ c ≤ 57)) (h : ¬ (97 ≤ lowZ c ∧ lowZ c ≤ 102)) : hexv c = none := by
  unfold lowZ at h
  unfold hexv
  rw [if_neg hd]
  by_cases h1 : 97 ≤ c ∧ c ≤ 102
  · rw [if_pos (by omega)] at h; omega
  · rw [if_neg h1]
    by_cases h2 : 65 ≤ c ∧ c ≤ 70
    · rw [if_neg (by omega)] at h; omega
    · rw [if_neg h2]
theorem hexv_lt {b d : Nat} (h : hexv b = some d) : d < 16 := by
  unfold hexv at h; repeat' split at h
  all_goals (first | (cases h; omega) | cases h)
/-- What the inner function answers. -/
def PU (o : Option Nat) (e : Ending) : Prop :=
  match o with
  | some v => e = .returned (.tuple #[.int .u64 v, .nilIface])
  | none => e = .returned (.tuple #[.int .u64 0, .iface 140 (.int .i64 2)])
theorem PU_some {o : Option Nat} {v : Nat} (h : o = some v) : PU o (.returned (.tuple #[.int .u64 v, .nilIface])) := by rw [h]; rfl
theorem PU_none {o : Option Nat} (h : o = none) : PU o (.returned (.tuple #[.int .u64 0, .iface 140 (.int .i64 2)])) := by rw [h]; rfl
/-- Where the reading stands. -/
def At (bs : List UInt8) (k a : Nat) : Prop := hexGo 0 bs = hexGo a (bs.drop k) ∧ (k = 0 → a = 0) ∧ (k = 1 → a < 16) ∧ a < 256

set_option maxHeartbeats 8000000 in
set_option maxRecDepth 100000 in
theorem pu_inner (t : ByteArray) (h2 : t.size = 2) (w : World) :
    Calls Tryz.prog 126 #[.string t, .int .i64 16, .int .i64 8] w fun e w' => PU (hexGo 0 t.data.toList) e ∧ Below w.heap.size w w' := by
  have hemp : t.toList.isEmpty = false := by
    rw [← decide_eq_emptyBytes]
    exact decide_eq_false (fun h => by rw [h] at h2; cases h2)
  have hcv := Lib.run_convert_string_bytes (P := Tryz.prog) w 9 121 5 t (u := .string) Tryz.underlying9 Tryz.underlying121 Tryz.underlying5
  have hB : ∀ j, j < t.size → (Lib.bytesWorld w 5 t).cell? ⟨w.heap.size, j, none⟩ = some (.int .u8 (t.data.toList.getD j 0).toNat) := fun j hj => Lib.bytesWorld_cell w 5 t j hj
  have hbw : Below w.heap.size w (Lib.bytesWorld w 5 t) := Lib.bytesWorld_below w 5 t
  obtain ⟨W1, hW1⟩ : ∃ W1, W1 = Lib.bytesWorld w 5 t := ⟨_, rfl⟩
  rw [← hW1] at hcv hB hbw
  clear hW1
  obtain ⟨bs, hL⟩ : ∃ bs, bs = t.data.toList := ⟨_, rfl⟩
  have hLn : bs.length = 2 := by rw [hL, ← Lib.size_eq, h2]
  rw [← hL] at hB ⊢
  clear hL
  rw [h2] at hcv hB
  go_enter Tryz.func126, Tryz.ntmps126
  go_wp2
  go_loop [12, 13, 101] (fun vu vn vi => ∃ (k : Nat) (a : Int), vu = .bool false ∧ vn = .int .u64 a ∧ vi = .int .i64 k ∧ k ≤ 2 ∧ 0 ≤ a ∧ a < 256 ∧ Hid (At bs k a.toNat)) (fun _ _ vi => 2 - (intOf vi).toNat)
  case atStart => exact ⟨0, 0, rfl, rfl, rfl, by omega, by omega, by omega, ⟨by simp, by simp, by simp, by simp⟩⟩
  case round =>
    obtain ⟨k, a, rfl, rfl, rfl, hk, ha0, ha, H⟩ := hrel
    by_cases hkn : k < 2
    · have hc := hB k hkn
      have hdrop : bs.drop k = bs[k]'(by omega) :: bs.drop (k + 1) := List.drop_eq_getElem_cons (by omega)
      have hget : bs.getD k 0 = bs[k]'(by omega) := by simp [List.getD, List.getElem?_eq_getElem (show k < bs.length by omega)]
      have ha16 : a < 16 := by
        have := H.out.2.1; have := H.out.2.2.1; have : k = 0 ∨ k = 1 := by omega
        omega
      have H1 : Hid (hexGo 0 bs = hexGo a.toNat (bs[k]'(by omega) :: bs.drop (k + 1))) := by
        show _ = _
        rw [H.out.1, hdrop]
      have HK : Hid (k = 0 → a.toNat = 0) := H.out.2.1
      clear H
      rw [hget] at hc
      generalize bs[k]'(by omega) = c at hc H1
      have hc256 : c.toNat < 256 := c.toNat_lt
      clear hB hdrop hget
      obtain ⟨hv0, hv1⟩ := low_bd c.toNat (by omega) (by omega)
      obtain ⟨hu0, hu1⟩ := low_bd 95 (by omega) (by omega)
      by_cases hdig : 48 ≤ c.toNat ∧ c.toNat ≤ 57
      · have HX : Hid (hexv c.toNat = some (c.toNat - 48)) := by show _ = _; unfold hexv; rw [if_pos hdig]
        obtain ⟨hd0, hd1⟩ := hdig
        have icut : a < 1152921504606846976 := by omega
        have e1 : a * 16 + ((c.toNat : Int) - 48) < 256 := by omega
        have e0 : 0 ≤ a * 16 + ((c.toNat : Int) - 48) := by omega
        go_wp2
        refine ⟨⟨k + 1, a * 16 + ((c.toNat : Int) - 48), rfl, rfl, by go_num, by omega, e0, e1, ?_⟩, by simp [intOf]; omega⟩
        have et : (a * 16 + ((c.toNat : Int) - 48)).toNat = a.toNat * 16 + (c.toNat - 48) := by omega
        show At _ _ _
        rw [et]
        have hK := HK.out
        refine ⟨?_, by omega, by omega, by omega⟩
        rw [H1.out, hexGo, HX.out]
      · by_cases hx : 97 ≤ lowZ c.toNat ∧ lowZ c.toNat ≤ 102
        · obtain ⟨hx3, hx4⟩ := hexv_low hdig (by omega) hx
          have HX := Lib.hid hx4
          have hd16 := hexv_lt hx4
          generalize (hexv c.toNat).getD 0 = d at hx3 HX hd16
          obtain ⟨hx1, hx2⟩ := hx
          have hn95 : (((c.toNat : Int)) == 95) = false := by
            rw [beq_eq_false_iff_ne]; intro h; rw [h] at hx2; revert hx2; decide
          have HD := Lib.hid hx3
          have HG := Lib.hid hdig
          clear hx4 hx3 hdig
          have icut : a < 1152921504606846976 := by omega
          have e1 : a * 16 + (lowZ c.toNat - 97 + 10) < 256 := by omega
          have e0 : 0 ≤ a * 16 + (lowZ c.toNat - 97 + 10) := by omega
          go_wp2_with (go_at_call 135; refine (lower_any _ (by omega) (by omega) _).mono ?_; rintro e w' ⟨rfl, rfl⟩)
          all_goals first
            | (exfalso; have hG := HG.out; omega)
            | (refine ⟨⟨k + 1, a * 16 + (lowZ c.toNat - 97 + 10), rfl, rfl, by go_num, by omega, e0, e1, ?_⟩, by simp [intOf]; omega⟩
               have hK := HK.out
               have hD := HD.out
               have et : (a * 16 + (lowZ c.toNat - 97 + 10)).toNat = a.toNat * 16 + d := by omega
               show At _ _ _
               rw [et]
               refine ⟨?_, by omega, by omega, by omega⟩
               rw [H1.out, hexGo, HX.out])
        · have HX := Lib.hid (hexv_low_none hdig hx)
          have HN : Hid (hexGo 0 bs = none) := by
            show _ = _
            rw [H1.out, hexGo, HX.out]
          have icut : a < 1152921504606846976 := by omega
          go_wp2_with (go_at_call 135; refine (lower_any _ (by omega) (by omega) _).mono ?_; rintro e w' ⟨rfl, rfl⟩)
          all_goals first
            | (go_ret2; exact ⟨PU_none HN.out, hbw⟩)
            | (exfalso; omega)
    · have HN : Hid (hexGo 0 bs = some a.toNat) := by
        show _ = _
        rw [H.out.1, List.drop_eq_nil_of_le (by omega), hexGo]
      go_wp2
      go_ret2
      refine ⟨?_, hbw⟩
      obtain ⟨n, rfl⟩ := Int.eq_ofNat_of_zero_le ha0
      exact PU_some HN.out

/-- An error that is one. -/
def Bad (v : Value) : Prop := ∃ T x, v = .iface T x
def PUx (o : Option Nat) (e : Ending) : Prop :=
  match o with
  | some v => e = .returned (.tuple #[.int .u64 v, .nilIface])
  | none => ∃ x, e = .returned (.tuple #[.int .u64 0, .iface 143 x])

set_option maxHeartbeats 2000000 in
set_option maxRecDepth 100000 in
theorem pu_some (t : ByteArray) (h2 : t.size = 2) (v : Nat) (hv : hexGo 0 t.data.toList = some v) (w : World) :
    Calls Tryz.prog 124 #[.string t, .int .i64 16, .int .i64 8] w fun e w' => e = .returned (.tuple #[.int .u64 v, .nilIface]) ∧ Below w.heap.size w w' := by
  have c1 := Lib.hid ((pu_inner t h2 w).mono (R' := fun e w' => e = .returned (.tuple #[.int .u64 v, .nilIface]) ∧ Below w.heap.size w w') (fun e w' ⟨h, hb⟩ => ⟨by rw [hv] at h; exact h, hb⟩))
  clear hv
  go_enter Tryz.func124, Tryz.ntmps124
  go_wp2_with (go_at_call 126; refine c1.out.mono ?_; rintro e w1 ⟨rfl, hb⟩)
  go_ret2
  exact ⟨rfl, hb⟩

set_option maxHeartbeats 2000000 in
set_option maxRecDepth 100000 in
theorem pu_none (t : ByteArray) (h2 : t.size = 2) (hv : hexGo 0 t.data.toList = none) (ev : Value) (w : World) (h0 : 0 < w.heap.size) (hG : w.cell? ⟨0, 0, none⟩ = some ev) (hev : ev = .nilIface ∨ ∃ te pe, ev = .iface te pe) :
    Calls Tryz.prog 124 #[.string t, .int .i64 16, .int .i64 8] w fun e w' => (∃ N, e = .returned (.tuple #[.int .u64 0, .iface 143 (.pointer (some ⟨N, 0, none⟩))])) ∧ Below w.heap.size w w' := by
  have c1 := Lib.hid ((pu_inner t h2 w).mono (R' := fun e w' => e = .returned (.tuple #[.int .u64 0, .iface 140 (.int .i64 2)]) ∧ Below w.heap.size w w') (fun e w' ⟨h, hb⟩ => ⟨by rw [hv] at h; exact h, hb⟩))
  clear hv
  go_enter Tryz.func124, Tryz.ntmps124
  go_wp2_with (go_at_call 126; refine c1.out.mono ?_; rintro e w1 ⟨rfl, hb⟩)
  have hG1 : w1.cell? ⟨0, 0, none⟩ = some ev := by rw [hb.cell (p := ⟨0, 0, none⟩) h0]; exact hG
  go_wp2_with (go_at_call 104; refine (Tryz.strconv_toError_syntax _ _ _ _ ev _ (by omega) hG1 hev).mono ?_)
  rintro e w2 ⟨N, rfl, _, _, hb2⟩
  go_wp2
  go_ret2
  exact ⟨⟨N, rfl⟩, hb.trans (hb2.mono hb.size)⟩
end Go.Proofs.YtphkodkenkiecaaGreatDoor
