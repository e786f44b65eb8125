/- Walks: an escape is read; a text with its escapes; a text out of its quotation marks. -/
import Derived.Test.YtphkodkenkiecaaGreatDoorWe
namespace Go.Proofs.YtphkodkenkiecaaGreatDoor
open Go.RowKit

def escX (l : List UInt8) : Nat × Nat :=
  match hexGo 0 ((l.drop 2).take 2) with
  | some v => (v, 4)
  | none => (0, 0)
def escL (l : List UInt8) : Nat × Nat :=
  if l.length < 2 then (0, 0)
  else if (l.getD 1 0).toNat = 34 ∨ (l.getD 1 0).toNat = 92 then ((l.getD 1 0).toNat, 2)
  else if (l.getD 1 0).toNat = 110 then (10, 2)
  else if (l.getD 1 0).toNat = 120 then (if l.length < 4 then (0, 0) else escX l)
  else (0, 0)
theorem ret_esc {a b : Nat × Nat} (h : a = b) : Ending.returned (.tuple #[.int .u8 (a.1 : Nat), .int .i64 (a.2 : Nat)]) = .returned (.tuple #[.int .u8 (b.1 : Nat), .int .i64 (b.2 : Nat)]) := by rw [h]

theorem hexGo_lt : ∀ (l : List UInt8) (a v : Nat), hexGo a l = some v → v < (a + 1) * 16 ^ l.length
  | [], a, v, h => by simp [hexGo] at h; subst h; simp
  | c :: r, a, v, h => by
    unfold hexGo at h
    cases hd : hexv c.toNat with
    | none => rw [hd] at h; cases h
    | some d =>
      rw [hd] at h
      have h1 := hexGo_lt r _ v h
      have h2 := hexv_lt hd
      have : (a * 16 + d + 1) * 16 ^ r.length ≤ ((a + 1) * 16) * 16 ^ r.length := Nat.mul_le_mul_right _ (by omega)
      rw [List.length_cons, Nat.pow_succ, Nat.mul_comm (16 ^ r.length) 16, ← Nat.mul_assoc]
      omega

theorem getD_at {s : ByteArray} {i : Nat} (h : i < s.size) : s.data.toList.getD i 0 = s[i] := by
  simp [List.getD, h]; rfl

set_option maxHeartbeats 2000000 in
set_option maxRecDepth 100000 in
theorem escape_any (s : ByteArray) (hs : s.size ≤ 1099511627776) (ev : Value) (w : World) (h0 : 0 < w.heap.size) (hG : w.cell? ⟨0, 0, none⟩ = some ev) (hev : ev = .nilIface ∨ ∃ te pe, ev = .iface te pe) :
    Calls Tryz.prog 107 #[.string s] w fun e w' => e = .returned (.tuple #[.int .u8 ((escL s.data.toList).1 : Nat), .int .i64 ((escL s.data.toList).2 : Nat)]) ∧ Below w.heap.size w w' := by
  have HSZ := Lib.hid (Lib.size_eq s)
  by_cases hl2 : s.size < 2
  · have HE : Hid ((0, 0) = escL s.data.toList) := by have hsz := HSZ.out; show _ = _; unfold escL; rw [if_pos (by omega)]
    go_enter Tryz.func107, Tryz.ntmps107
    go_wp2
    go_ret2
    exact ⟨ret_esc HE.out, Below.refl _ _⟩
  · have hg := getD_at (s := s) (i := 1) (by omega)
    have i1 : (1 : Int) < s.size := by omega
    have hb := s[1].toNat_lt
    by_cases h34 : s[1].toNat = 34 ∨ s[1].toNat = 92
    · have HE : Hid ((s[1].toNat, 2) = escL s.data.toList) := by have hsz := HSZ.out; show _ = _; unfold escL; rw [hg, if_neg (by omega), if_pos h34]
      have t : (((s[1].toNat : Int) == 34) = true) ∨ (((s[1].toNat : Int) == 34) = false ∧ ((s[1].toNat : Int) == 92) = true) := by
        simp only [beq_iff_eq, beq_eq_false_iff_ne]; omega
      clear h34 hg
      go_enter Tryz.func107, Tryz.ntmps107
      rcases t with t | ⟨t, t'⟩
      all_goals
        go_wp2
        go_ret2
        exact ⟨ret_esc HE.out, Below.refl _ _⟩
    · have t1 : ((s[1].toNat : Int) == 34) = false := by rw [beq_eq_false_iff_ne]; omega
      have t2 : ((s[1].toNat : Int) == 92) = false := by rw [beq_eq_false_iff_ne]; omega
      by_cases h110 : s[1].toNat = 110
      · have HE : Hid ((10, 2) = escL s.data.toList) := by have hsz := HSZ.out; show _ = _; unfold escL; rw [hg, if_neg (by omega), if_neg h34, if_pos h110]
        have t3 : ((s[1].toNat : Int) == 110) = true := by rw [beq_iff_eq]; omega
        clear h34 h110 hg
        go_enter Tryz.func107, Tryz.ntmps107
        go_wp2
        go_ret2
        exact ⟨ret_esc HE.out, Below.refl _ _⟩
      · have t3 : ((s[1].toNat : Int) == 110) = false := by rw [beq_eq_false_iff_ne]; omega
        by_cases h120 : s[1].toNat = 120
        · have t4 : ((s[1].toNat : Int) == 120) = true := by rw [beq_iff_eq]; omega
          by_cases hl4 : s.size < 4
          · have HE : Hid ((0, 0) = escL s.data.toList) := by have hsz := HSZ.out; show _ = _; unfold escL; rw [hg, if_neg (by omega), if_neg h34, if_neg h110, if_pos h120, if_pos (by omega)]
            clear h34 h110 h120 hg
            go_enter Tryz.func107, Tryz.ntmps107
            go_wp2
            go_ret2
            exact ⟨ret_esc HE.out, Below.refl _ _⟩
          · have hx : (s.extract 2 4).data.toList = (s.data.toList.drop 2).take 2 := Lib.extract_data s 2 4
            have hx2 : (s.extract 2 4).size = 2 := by rw [Lib.size_eq, hx, List.length_take, List.length_drop]; have hsz := HSZ.out; omega
            have hE : escX s.data.toList = escL s.data.toList := by have hsz := HSZ.out; unfold escL; rw [hg, if_neg (by omega), if_neg h34, if_neg h110, if_pos h120, if_neg (by omega)]
            have i4 : (4 : Int) ≤ s.size := by omega
            clear h34 h110 h120 hg
            cases hv : hexGo 0 ((s.data.toList.drop 2).take 2) with
            | some v =>
              have CH := Lib.hid (pu_some (s.extract 2 4) hx2 v (by rw [hx]; exact hv) w)
              have hvl : v < 256 := by
                have := hexGo_lt _ _ _ hv
                rw [← hx, ← Lib.size_eq, hx2] at this; omega
              have HE : Hid ((v, 4) = escL s.data.toList) := by show _ = _; rw [← hE]; unfold escX; rw [hv]
              clear hE hv hx
              have hx2' := Lib.hid hx2
              clear hx2
              go_enter Tryz.func107, Tryz.ntmps107
              go_wp2_with (go_at_call 124; refine CH.out.mono ?_; rintro e w1 ⟨rfl, hb⟩)
              go_ret2
              exact ⟨ret_esc HE.out, hb⟩
            | none =>
              have CH := Lib.hid (pu_none (s.extract 2 4) hx2 (by rw [hx]; exact hv) ev w h0 hG hev)
              have HE : Hid ((0, 0) = escL s.data.toList) := by show _ = _; rw [← hE]; unfold escX; rw [hv]
              clear hE hv hx
              have hx2' := Lib.hid hx2
              clear hx2
              go_enter Tryz.func107, Tryz.ntmps107
              go_wp2_with (go_at_call 124; refine CH.out.mono ?_; rintro e w1 ⟨⟨N, rfl⟩, hb⟩)
              go_ret2
              exact ⟨ret_esc HE.out, hb⟩
        · have t4 : ((s[1].toNat : Int) == 120) = false := by rw [beq_eq_false_iff_ne]; omega
          have HE : Hid ((0, 0) = escL s.data.toList) := by have hsz := HSZ.out; show _ = _; unfold escL; rw [hg, if_neg (by omega), if_neg h34, if_neg h110, if_neg h120]
          clear h34 h110 h120 hg
          go_enter Tryz.func107, Tryz.ntmps107
          go_wp2
          go_ret2
          exact ⟨ret_esc HE.out, Below.refl _ _⟩
end Go.Proofs.YtphkodkenkiecaaGreatDoor
