import Derived.Test.YtbcemjhaecelnaaGreatDoorMg03
import Derived.Lib.AtoiAllMem
import Derived.Lib.AtoiErrMem
import Derived.Lib.ConvBytes
import Derived.Laws.Strings3
import Derived.Laws.Closers25b
import Derived.BigGuard
import Derived.WalkSpells
section
set_option maxHeartbeats 8000000
set_option maxRecDepth 100000
section
namespace Go.Proofs.YtbcemjhaecelnaaGreatDoor
open Go.RowKit
def hexv (b : Nat) : Option Nat :=
 if 48 <= b /\ b <= 57 then some (b - 48) else if 97 <= b /\ b <= 102 then some (b - 87) else if 65 <= b /\ b <= 70 then some (b - 55) else none
def zbL : Nat -> List UInt8 -> Option Nat
 | a, [] => some a
 | a, c :: r => match hexv c.toNat with
   | none => none
   | some d => zbL (a * 16 + d) r
def lowZ (c : Int) : Int := if c / 32 % 2 = 1 then c else c + 32
theorem low_eq : ∀ c : Nat, c < 256 -> bits .or .u8 (c : Int) 32 = lowZ c := by
 decide +kernel
theorem zfR (c : Int) (h0 : 0 <= c) (hc : c < 256) (w : World) : Calls Tryz.prog 166 #[.int .u8 c] w fun e w' => e = .returned (.int .u8 (lowZ c)) /\ w = w' := by
 obtain ⟨n, rfl⟩ := Int.eq_ofNat_of_zero_le h0
 rw [<- low_eq n (by omega)]
 exact (Tryz.internal_strconv_lower n w).mono fun _ _ ⟨a, b⟩ => ⟨a, b.symm⟩
theorem zi1 (c : Int) (h0 : 0 <= c) (hc : c < 256) : 0 <= lowZ c /\ lowZ c <= 287 := by unfold lowZ; split <;> omega
theorem hexv_low {c : Nat} (hd : ¬ (48 <= c /\ c <= 57)) (hc : c < 256) (h : 97 <= lowZ c /\ lowZ c <= 102) : ((hexv c).getD 0 : Int) = lowZ c - 97 + 10 /\ hexv c = some ((hexv c).getD 0) := by
 unfold lowZ at h ⊢
 unfold hexv
 rw [if_neg hd]
 by_cases h1 : 97 <= c /\ c <= 102
 ·rw [if_pos h1]; rw [if_pos (by omega)]; exact ⟨by simp; omega, rfl⟩
 ·rw [if_neg h1]
  have h2 : 65 <= c /\ c <= 70 := by split at h <;> omega
  rw [if_pos h2, if_neg (by omega)]; exact ⟨by simp; omega, rfl⟩
theorem hexv_low_none {c : Nat} (hd : ¬ (48 <= c /\ c <= 57)) (h : ¬ (97 <= lowZ c /\ lowZ c <= 102)) : hexv c = none := by
 unfold lowZ at h
 unfold hexv
 rw [if_neg hd]
 by_cases h1 : 97 <= c /\ c <= 102
 ·rw [if_pos (by omega)] at h; omega
 ·rw [if_neg h1]
  by_cases h2 : 65 <= c /\ c <= 70
  ·rw [if_neg (by omega)] at h; omega
  ·rw [if_neg h2]
theorem zh5 {b d : Nat} (h : hexv b = some d) : d < 16 := by
 unfold hexv at h; repeat' split at h
 all_goals (first | (cases h; omega) | cases h)
def PU (o : Option Nat) (e : Ending) : Prop :=
 match o with
 | some v => e = .returned (.tuple #[.int .u64 v, .nilIface])
 | none => e = .returned (.tuple #[.int .u64 0, .iface 159 (.int .i64 2)])
theorem PU_some {o : Option Nat} {v : Nat} (h : o = some v) : PU o (.returned (.tuple #[.int .u64 v, .nilIface])) := by rw [h]; rfl
theorem PU_none {o : Option Nat} (h : o = none) : PU o (.returned (.tuple #[.int .u64 0, .iface 159 (.int .i64 2)])) := by rw [h]; rfl
def At (bs : List UInt8) (k a : Nat) : Prop := zbL 0 bs = zbL a (bs.drop k) /\ (k = 0 -> a = 0) /\ (k = 1 -> a < 16) /\ a < 256
theorem zgS (t : ByteArray) (h2 : t.size = 2) (w : World) :
 Calls Tryz.prog 160 #[.string t, .int .i64 16, .int .i64 8] w fun e w' => PU (zbL 0 t.data.toList) e /\ Below w.heap.size w w' := by
 have hemp : t.toList.isEmpty = false := by
  rw [<- decide_eq_emptyBytes]
  exact decide_eq_false (fun h => by rw [h] at h2; cases h2)
 have hcv := Lib.run_convert_string_bytes (P := Tryz.prog) w 9 61 5 t (u := .string) Tryz.underlying9 Tryz.underlying61 Tryz.underlying5
 have hB : ∀ j, j < t.size -> (Lib.bytesWorld w 5 t).cell? ⟨w.heap.size, j, none⟩ = some (.int .u8 (t.data.toList.getD j 0).toNat) := fun j hj => Lib.bytesWorld_cell w 5 t j hj
 have hbw : Below w.heap.size w (Lib.bytesWorld w 5 t) := Lib.bytesWorld_below w 5 t
 obtain ⟨W1, hW1⟩ : ∃ W1, W1 = Lib.bytesWorld w 5 t := ⟨_, rfl⟩
 rw [<- hW1] at hcv hB hbw
 clear hW1
 obtain ⟨bs, hL⟩ : ∃ bs, bs = t.data.toList := ⟨_, rfl⟩
 have hLn : bs.length = 2 := by rw [hL, <- Lib.size_eq, h2]
 rw [<- hL] at hB ⊢
 clear hL
 rw [h2] at hcv hB
 go_enter Tryz.func160, Tryz.ntmps160
 go_wp2
 go_loop [12, 13, 101] (fun vu vn vi => ∃ (k : Nat) (a : Int), vu = .bool false /\ vn = .int .u64 a /\ vi = .int .i64 k /\ k <= 2 /\ 0 <= a /\ a < 256 /\ Hid (At bs k a.toNat)) (fun _ _ vi => 2 - (intOf vi).toNat)
 case atStart => exact ⟨0, 0, rfl, rfl, rfl, by omega, by omega, by omega, ⟨by simp, by simp, by simp, by simp⟩⟩
 case round =>
  obtain ⟨k, a, rfl, rfl, rfl, hk, ha0, ha, H⟩ := hrel
  by_cases hkn : k < 2
  ·have hc := hB k hkn
   have hdrop : bs.drop k = bs[k]'(by omega) :: bs.drop (k + 1) := List.drop_eq_getElem_cons (by omega)
   have hget : bs.getD k 0 = bs[k]'(by omega) := by simp [List.getD, List.getElem?_eq_getElem (show k < bs.length by omega)]
   have ha16 : a < 16 := by
    have := H.out.2.1; have := H.out.2.2.1; have : k = 0 \/ k = 1 := by omega
    omega
   have H1 : Hid (zbL 0 bs = zbL a.toNat (bs[k]'(by omega) :: bs.drop (k + 1))) := by
    show _ = _
    rw [H.out.1, hdrop]
   have HK : Hid (k = 0 -> a.toNat = 0) := H.out.2.1
   clear H
   rw [hget] at hc
   generalize bs[k]'(by omega) = c at hc H1
   have hc256 : c.toNat < 256 := c.toNat_lt
   clear hB hdrop hget
   obtain ⟨hv0, hv1⟩ := zi1 c.toNat (by omega) (by omega)
   obtain ⟨hu0, hu1⟩ := zi1 95 (by omega) (by omega)
   by_cases hdig : 48 <= c.toNat /\ c.toNat <= 57
   ·have HX : Hid (hexv c.toNat = some (c.toNat - 48)) := by show _ = _; unfold hexv; rw [if_pos hdig]
    obtain ⟨hd0, hd1⟩ := hdig
    have icut : a < 1152921504606846976 := by omega
    have e1 : a * 16 + ((c.toNat : Int) - 48) < 256 := by omega
    have e0 : 0 <= a * 16 + ((c.toNat : Int) - 48) := by omega
    go_wp2
    refine ⟨⟨k + 1, a * 16 + ((c.toNat : Int) - 48), rfl, rfl, by go_num, by omega, e0, e1, ?_⟩, by simp [intOf]; omega⟩
    have et : (a * 16 + ((c.toNat : Int) - 48)).toNat = a.toNat * 16 + (c.toNat - 48) := by omega
    show At _ _ _
    rw [et]
    have hK := HK.out
    refine ⟨?_, by omega, by omega, by omega⟩
    rw [H1.out, zbL, HX.out]
   ·by_cases hx : 97 <= lowZ c.toNat /\ lowZ c.toNat <= 102
    ·obtain ⟨hx3, hx4⟩ := hexv_low hdig (by omega) hx
     have HX := zh hx4
     have hd16 := zh5 hx4
     generalize (hexv c.toNat).getD 0 = d at hx3 HX hd16
     obtain ⟨hx1, hx2⟩ := hx
     have hn95 : (((c.toNat : Int)) == 95) = false := by
      rw [beq_eq_false_iff_ne]; intro h; rw [h] at hx2; revert hx2; decide
     have HD := zh hx3
     have HG := zh hdig
     clear hx4 hx3 hdig
     have icut : a < 1152921504606846976 := by omega
     have e1 : a * 16 + (lowZ c.toNat - 97 + 10) < 256 := by omega
     have e0 : 0 <= a * 16 + (lowZ c.toNat - 97 + 10) := by omega
     go_wp2_with (go_at_call 166; refine (zfR _ (by omega) (by omega) _).mono ?_; rintro e w' ⟨rfl, rfl⟩)
     all_goals first
      | (exfalso; have hG := HG.out; omega)
      | (refine ⟨⟨k + 1, a * 16 + (lowZ c.toNat - 97 + 10), rfl, rfl, by go_num, by omega, e0, e1, ?_⟩, by simp [intOf]; omega⟩
         have hK := HK.out
         have hD := HD.out
         have et : (a * 16 + (lowZ c.toNat - 97 + 10)).toNat = a.toNat * 16 + d := by omega
         show At _ _ _
         rw [et]
         refine ⟨?_, by omega, by omega, by omega⟩
         rw [H1.out, zbL, HX.out])
    ·have HX := zh (hexv_low_none hdig hx)
     have HN : Hid (zbL 0 bs = none) := by
      show _ = _
      rw [H1.out, zbL, HX.out]
     have icut : a < 1152921504606846976 := by omega
     go_wp2_with (go_at_call 166; refine (zfR _ (by omega) (by omega) _).mono ?_; rintro e w' ⟨rfl, rfl⟩)
     all_goals first
      | (go_ret2; exact ⟨PU_none HN.out, hbw⟩)
      | (exfalso; omega)
  ·have HN : Hid (zbL 0 bs = some a.toNat) := by
    show _ = _
    rw [H.out.1, List.drop_eq_nil_of_le (by omega), zbL]
   go_wp2
   go_ret2
   refine ⟨?_, hbw⟩
   obtain ⟨n, rfl⟩ := Int.eq_ofNat_of_zero_le ha0
   exact PU_some HN.out
theorem pu_some (t : ByteArray) (h2 : t.size = 2) (v : Nat) (hv : zbL 0 t.data.toList = some v) (w : World) :
 Calls Tryz.prog 150 #[.string t, .int .i64 16, .int .i64 8] w fun e w' => e = .returned (.tuple #[.int .u64 v, .nilIface]) /\ Below w.heap.size w w' := by
 have c1 := zh ((zgS t h2 w).mono (R' := fun e w' => e = .returned (.tuple #[.int .u64 v, .nilIface]) /\ Below w.heap.size w w') (fun e w' ⟨h, hb⟩ => ⟨by rw [hv] at h; exact h, hb⟩))
 clear hv
 go_enter Tryz.func150, Tryz.ntmps150
 go_wp2_with (go_at_call 160; refine c1.out.mono ?_; rintro e w1 ⟨rfl, hb⟩)
 go_ret2
 exact ⟨rfl, hb⟩
theorem pu_none (t : ByteArray) (h2 : t.size = 2) (hv : zbL 0 t.data.toList = none) (ev : Value) (w : World) (h0 : 4 < w.heap.size) (hG : w.cell? ⟨4, 0, none⟩ = some ev) (hev : ev = .nilIface \/ ∃ te pe, ev = .iface te pe) :
 Calls Tryz.prog 150 #[.string t, .int .i64 16, .int .i64 8] w fun e w' => (∃ N, e = .returned (.tuple #[.int .u64 0, .iface 162 (.pointer (some ⟨N, 0, none⟩))])) /\ Below w.heap.size w w' := by
 have c1 := zh ((zgS t h2 w).mono (R' := fun e w' => e = .returned (.tuple #[.int .u64 0, .iface 159 (.int .i64 2)]) /\ Below w.heap.size w w') (fun e w' ⟨h, hb⟩ => ⟨by rw [hv] at h; exact h, hb⟩))
 clear hv
 go_enter Tryz.func150, Tryz.ntmps150
 go_wp2_with (go_at_call 160; refine c1.out.mono ?_; rintro e w1 ⟨rfl, hb⟩)
 have hG1 : w1.cell? ⟨4, 0, none⟩ = some ev := by rw [hb.cell (p := ⟨4, 0, none⟩) h0]; exact hG
 go_wp2_with (go_at_call 127; refine (Tryz.strconv_toError_syntax _ _ _ _ ev _ (by omega) hG1 hev).mono ?_)
 rintro e w2 ⟨N, rfl, _, _, hb2⟩
 go_wp2
 go_ret2
 exact ⟨⟨N, rfl⟩, hb.trans (hb2.mono hb.size)⟩
end Go.Proofs.YtbcemjhaecelnaaGreatDoor
end
section
namespace Go.Proofs.YtbcemjhaecelnaaGreatDoor
open Go.RowKit
def escX (l : List UInt8) : Nat × Nat :=
 match zbL 0 ((l.drop 2).take 2) with
 | some v => (v, 4)
 | none => (0, 0)
def escL (l : List UInt8) : Nat × Nat :=
 if l.length < 2 then (0, 0)
 else if (l.getD 1 0).toNat = 34 \/ (l.getD 1 0).toNat = 92 then ((l.getD 1 0).toNat, 2)
 else if (l.getD 1 0).toNat = 110 then (10, 2)
 else if (l.getD 1 0).toNat = 120 then (if l.length < 4 then (0, 0) else escX l)
 else (0, 0)
theorem zcY {a b : Nat × Nat} (h : a = b) : Ending.returned (.tuple #[.int .u8 (a.1 : Nat), .int .i64 (a.2 : Nat)]) = .returned (.tuple #[.int .u8 (b.1 : Nat), .int .i64 (b.2 : Nat)]) := by rw [h]
theorem zfz : ∀ (l : List UInt8) (a v : Nat), zbL a l = some v -> v < (a + 1) * 16 ^ l.length
 | [], a, v, h => by simp [zbL] at h; subst h; simp
 | c :: r, a, v, h => by
   unfold zbL at h
   cases hd : hexv c.toNat with
   | none => rw [hd] at h; cases h
   | some d =>
     rw [hd] at h
     have h1 := zfz r _ v h
     have h2 := zh5 hd
     have : (a * 16 + d + 1) * 16 ^ r.length <= ((a + 1) * 16) * 16 ^ r.length := Nat.mul_le_mul_right _ (by omega)
     rw [List.length_cons, Nat.pow_succ, Nat.mul_comm (16 ^ r.length) 16, <- Nat.mul_assoc]
     omega
theorem zc3 {s : ByteArray} {i : Nat} (h : i < s.size) : s.data.toList.getD i 0 = s[i] := by
 simp [List.getD, h]; rfl
theorem escape_any (s : ByteArray) (hs : s.size <= 1099511627776) (ev : Value) (w : World) (h0 : 4 < w.heap.size) (hG : w.cell? ⟨4, 0, none⟩ = some ev) (hev : ev = .nilIface \/ ∃ te pe, ev = .iface te pe) :
 Calls Tryz.prog 128 #[.string s] w fun e w' => e = .returned (.tuple #[.int .u8 ((escL s.data.toList).1 : Nat), .int .i64 ((escL s.data.toList).2 : Nat)]) /\ Below w.heap.size w w' := by
 have HSZ := zh (Lib.size_eq s)
 by_cases hl2 : s.size < 2
 ·have HE : Hid ((0, 0) = escL s.data.toList) := by have hsz := HSZ.out; show _ = _; unfold escL; rw [if_pos (by omega)]
  go_enter Tryz.func128, Tryz.ntmps128
  go_wp2
  go_ret2
  exact ⟨zcY HE.out, Below.refl _ _⟩
 ·have hg := zc3 (s := s) (i := 1) (by omega)
  have i1 : (1 : Int) < s.size := by omega
  have hb := s[1].toNat_lt
  by_cases h34 : s[1].toNat = 34 \/ s[1].toNat = 92
  ·have HE : Hid ((s[1].toNat, 2) = escL s.data.toList) := by have hsz := HSZ.out; show _ = _; unfold escL; rw [hg, if_neg (by omega), if_pos h34]
   have t : (((s[1].toNat : Int) == 34) = true) \/ (((s[1].toNat : Int) == 34) = false /\ ((s[1].toNat : Int) == 92) = true) := by
    simp only [beq_iff_eq, beq_eq_false_iff_ne]; omega
   clear h34 hg
   go_enter Tryz.func128, Tryz.ntmps128
   rcases t with t | ⟨t, t'⟩
   all_goals
    go_wp2
    go_ret2
    exact ⟨zcY HE.out, Below.refl _ _⟩
  ·have t1 : ((s[1].toNat : Int) == 34) = false := by rw [beq_eq_false_iff_ne]; omega
   have t2 : ((s[1].toNat : Int) == 92) = false := by rw [beq_eq_false_iff_ne]; omega
   by_cases h110 : s[1].toNat = 110
   ·have HE : Hid ((10, 2) = escL s.data.toList) := by have hsz := HSZ.out; show _ = _; unfold escL; rw [hg, if_neg (by omega), if_neg h34, if_pos h110]
    have t3 : ((s[1].toNat : Int) == 110) = true := by rw [beq_iff_eq]; omega
    clear h34 h110 hg
    go_enter Tryz.func128, Tryz.ntmps128
    go_wp2
    go_ret2
    exact ⟨zcY HE.out, Below.refl _ _⟩
   ·have t3 : ((s[1].toNat : Int) == 110) = false := by rw [beq_eq_false_iff_ne]; omega
    by_cases h120 : s[1].toNat = 120
    ·have t4 : ((s[1].toNat : Int) == 120) = true := by rw [beq_iff_eq]; omega
     by_cases hl4 : s.size < 4
     ·have HE : Hid ((0, 0) = escL s.data.toList) := by have hsz := HSZ.out; show _ = _; unfold escL; rw [hg, if_neg (by omega), if_neg h34, if_neg h110, if_pos h120, if_pos (by omega)]
      clear h34 h110 h120 hg
      go_enter Tryz.func128, Tryz.ntmps128
      go_wp2
      go_ret2
      exact ⟨zcY HE.out, Below.refl _ _⟩
     ·have hx : (s.extract 2 4).data.toList = (s.data.toList.drop 2).take 2 := Lib.extract_data s 2 4
      have hx2 : (s.extract 2 4).size = 2 := by rw [Lib.size_eq, hx, List.length_take, List.length_drop]; have hsz := HSZ.out; omega
      have hE : escX s.data.toList = escL s.data.toList := by have hsz := HSZ.out; unfold escL; rw [hg, if_neg (by omega), if_neg h34, if_neg h110, if_pos h120, if_neg (by omega)]
      have i4 : (4 : Int) <= s.size := by omega
      clear h34 h110 h120 hg
      cases hv : zbL 0 ((s.data.toList.drop 2).take 2) with
      | some v =>
        have CH := zh (pu_some (s.extract 2 4) hx2 v (by rw [hx]; exact hv) w)
        have hvl : v < 256 := by
         have := zfz _ _ _ hv
         rw [<- hx, <- Lib.size_eq, hx2] at this; omega
        have HE : Hid ((v, 4) = escL s.data.toList) := by show _ = _; rw [<- hE]; unfold escX; rw [hv]
        clear hE hv hx
        have hx2' := zh hx2
        clear hx2
        go_enter Tryz.func128, Tryz.ntmps128
        go_wp2_with (go_at_call 150; refine CH.out.mono ?_; rintro e w1 ⟨rfl, hb⟩)
        go_ret2
        exact ⟨zcY HE.out, hb⟩
      | none =>
        have CH := zh (pu_none (s.extract 2 4) hx2 (by rw [hx]; exact hv) ev w h0 hG hev)
        have HE : Hid ((0, 0) = escL s.data.toList) := by show _ = _; rw [<- hE]; unfold escX; rw [hv]
        clear hE hv hx
        have hx2' := zh hx2
        clear hx2
        go_enter Tryz.func128, Tryz.ntmps128
        go_wp2_with (go_at_call 150; refine CH.out.mono ?_; rintro e w1 ⟨⟨N, rfl⟩, hb⟩)
        go_ret2
        exact ⟨zcY HE.out, hb⟩
    ·have t4 : ((s[1].toNat : Int) == 120) = false := by rw [beq_eq_false_iff_ne]; omega
     have HE : Hid ((0, 0) = escL s.data.toList) := by have hsz := HSZ.out; show _ = _; unfold escL; rw [hg, if_neg (by omega), if_neg h34, if_neg h110, if_neg h120]
     clear h34 h110 h120 hg
     go_enter Tryz.func128, Tryz.ntmps128
     go_wp2
     go_ret2
     exact ⟨zcY HE.out, Below.refl _ _⟩
end Go.Proofs.YtbcemjhaecelnaaGreatDoor
end
section
namespace Go.Proofs.YtbcemjhaecelnaaGreatDoor
open Go.RowKit
def zax : Nat -> Nat -> List UInt8 -> Option (List UInt8)
 | 0, _, _ => some []
 | f + 1, k, l =>
   if l = [] then some []
   else if 0 < k then zax f (k - (Lib.decodeL l).2) (l.drop (Lib.decodeL l).2)
   else if (Lib.decodeL l).1 ≠ 92 then (zax f 0 (l.drop (Lib.decodeL l).2)).map (Lib.encodeRune ((Lib.decodeL l).1 : Int) ++ ·)
   else if (escL l).2 = 0 then none
   else (zax f ((escL l).2 - (Lib.decodeL l).2) (l.drop (Lib.decodeL l).2)).map ((escL l).1.toUInt8 :: ·)
def zcv (l : List UInt8) : Option (List UInt8) := zax l.length 0 l
def pre (acc : List UInt8) (o : Option (List UInt8)) : Option (List UInt8) := o.map (acc ++ ·)
theorem pre_nil (o : Option (List UInt8)) : pre [] o = o := by cases o <;> simp [pre]
theorem pre_map (acc x : List UInt8) (o : Option (List UInt8)) : pre acc (o.map (x ++ ·)) = pre (acc ++ x) o := by cases o <;> simp [pre]
theorem pre_cons (acc : List UInt8) (x : UInt8) (o : Option (List UInt8)) : pre acc (o.map (x :: ·)) = pre (acc ++ [x]) o := by cases o <;> simp [pre]
def UEnd (o : Option (List UInt8)) (e : Ending) : Prop :=
 match o with
 | some t => e = .returned (.tuple #[.string ⟨t.toArray⟩, .bool true])
 | none => e = .returned (.tuple #[.string ⟨#[]⟩, .bool false])
theorem zet {o : Option (List UInt8)} {t : List UInt8} (h : some t = o) : UEnd o (.returned (.tuple #[.string ⟨t.toArray⟩, .bool true])) := by rw [<- h]; rfl
theorem zaJ {o : Option (List UInt8)} (h : none = o) : UEnd o (.returned (.tuple #[.string ⟨#[]⟩, .bool false])) := by rw [<- h]; rfl
theorem escL_bd (l : List UInt8) : (escL l).2 <= 4 /\ (escL l).1 < 256 := by
 have hb := (l.getD 1 0).toNat_lt
 unfold escL
 split
 ·simp
 ·split
  ·exact ⟨by simp, hb⟩
  ·split
   ·simp
   ·split
    ·split
     ·simp
     ·unfold escX
      split
      ·rename_i v hv
       have h1 := zfz _ _ _ hv
       have h2 : ((l.drop 2).take 2).length <= 2 := by rw [List.length_take]; omega
       have h3 : 16 ^ ((l.drop 2).take 2).length <= 16 ^ 2 := Nat.pow_le_pow_right (by omega) h2
       simp; omega
      ·simp
    ·simp
theorem builderF_below {T e : TypeId} {B b : Nat} {bs : List Value} {W W' : World} (h : Lib.IsBuilderF T e B b bs W) (hb : Below W.heap.size W W') : Lib.IsBuilderF T e B b bs W' := by
 have key : ∀ p, Lib.BuilderAtF T e B b p bs W -> Lib.BuilderAtF T e B b p bs W' := by
  rintro p ⟨hB, v, hh, hown, hne⟩
  have hlt : b < W.heap.size := (Array.getElem?_eq_some_iff.1 hh).1
  refine ⟨hB, v, (hb.block b hlt).trans hh, ⟨hown.1, ?_⟩, hne⟩
  rcases hown.2 with hn | ⟨g, cap, cur, fz, hv, hbg, hg, rest⟩
  ·exact .inl hn
  ·have hgl : g < W.heap.size := (Array.getElem?_eq_some_iff.1 hg).1
   exact .inr ⟨g, cap, cur, fz, hv, hbg, (hb.block g hgl).trans hg, rest⟩
 exact h.elim (fun x => .inl (key _ x)) (fun x => .inr (key _ x))
theorem iter_below {W W' : World} {k : Nat} {s : ByteArray} {p : Nat} (h : W.heap[k]? = some (.stringIter s p)) (hb : Below W.heap.size W W') : W'.heap[k]? = some (.stringIter s p) :=
 (hb.block k (Array.getElem?_eq_some_iff.1 h).1).trans h
theorem unescape_any (s : ByteArray) (hs : s.size <= 1099511627776) (ev : Value) (w : World) (h0 : 4 < w.heap.size) (hG : w.cell? ⟨4, 0, none⟩ = some ev) (hev : ev = .nilIface \/ ∃ te pe, ev = .iface te pe) :
 Calls Tryz.prog 110 #[.string s] w fun e w' => UEnd (zcv s.data.toList) e /\ Below w.heap.size w w' := by
 have HEV := zh hev
 clear hev
 go_enter Tryz.func110, Tryz.ntmps110
 go_wp2
 go_loopw [5] (fun vn wr => ∃ (pos fuel nx : Nat) (acc : List UInt8), Lib.IsBuilderF 63 5 w.heap.size w.heap.size (Lib.byteCells acc) wr /\ wr.heap[w.heap.size + 1]? = some (.stringIter s pos) /\ Below w.heap.size w wr /\ vn = .int .i64 nx /\ Hid (pre acc (zax fuel (nx - pos) (s.data.toList.drop pos)) = zcv s.data.toList) /\ s.size <= pos + fuel /\ nx <= pos + 4 /\ pos <= s.size /\ acc.length <= 4 * pos) (fun _ wr => s.size - wr.iterPos (w.heap.size + 1))
 case atStart =>
  refine ⟨0, s.data.toList.length, 0, [], (Lib.IsBuilderF.of (Lib.fresh_isBuilder 63 5 w)).alloc _, ?_, ((Below.refl _ w).alloc (Nat.le_refl _) _).alloc (by simp) _, rfl, ?_, by rw [<- Lib.size_eq]; omega, by omega, by omega, by simp⟩
  ·have := World.iter_heap (w.alloc (.cells #[.pointer none, .slice none 0 0] 63)) s 0
   simpa using this
  ·show _ = _
   rw [pre_nil]; simp [zcv]
 case round =>
  obtain ⟨pos, fuel, nx, acc, hI, hit, hbw, rfl, H, hfu, hnx4, hps, hal⟩ := hrel
  have hpos0 := zac hit
  have hsz : w.heap.size + 1 < wr.heap.size := (Array.getElem?_eq_some_iff.1 hit).1
  by_cases hp : pos < s.size
  ·have hnx : ∀ ty, (Instr.next (.pointer (some ⟨w.heap.size + 1, 0, none⟩)) true ty).run Tryz.prog wr = _ := fun ty => Lib.run_next_any_at wr (w.heap.size + 1) s pos ty hit hp
   have hwd := zbT s pos
   have hwl := zbm hp
   have hd1 := decode_le s pos
   have hI2 := hI.iterAt hit (pos + (Utf8.decode s pos).2)
   have hit2 := Lib.iterAt_heap wr (w.heap.size + 1) s pos (pos + (Utf8.decode s pos).2) hit
   have hbw2 := Lib.below_iterAt hbw (k := w.heap.size + 1) (by omega) s (pos + (Utf8.decode s pos).2)
   have hsz2 : w.heap.size <= (wr.iterAt (w.heap.size + 1) s (pos + (Utf8.decode s pos).2)).heap.size := by rw [Lib.iterAt_size]; omega
   obtain ⟨f, rfl⟩ : ∃ f, fuel = f + 1 := ⟨fuel - 1, by omega⟩
   have hne := zh (za6 hp)
   by_cases hsk : pos < nx
   ·have H2 : Hid (pre acc (zax f (nx - (pos + (Utf8.decode s pos).2)) (s.data.toList.drop (pos + (Utf8.decode s pos).2))) = zcv s.data.toList) := by
     show _ = _
     rw [<- H.out, zax, if_neg hne.out, if_pos (by omega), Lib.decodeL_drop, List.drop_drop]
     congr 2; omega
    clear H
    have i1 : ((pos : Int) < (nx : Int)) := by omega
    go_wp2
    go_roundw
    case rel => exact ⟨pos + (Utf8.decode s pos).2, f, nx, acc, hI2, hit2, hbw2, rfl, H2, by omega, by omega, hwl, by omega⟩
    case measure => rw [zac hit2, hpos0]; omega
   ·have hz : nx - pos = 0 := by omega
    have H1 := zh (show pre acc (zax (f + 1) 0 (s.data.toList.drop pos)) = zcv s.data.toList by rw [<- hz]; exact H.out)
    clear H hz
    have i1 : ((nx : Int) <= (pos : Int)) := by omega
    by_cases h92 : (Utf8.decode s pos).1 = 92
    ·have t : (((Utf8.decode s pos).1 : Int) != 92) = false := by rw [bne_eq_false_iff_eq]; omega
     have hx : (s.extract pos s.size).data.toList = s.data.toList.drop pos := by rw [Lib.extract_data, Lib.size_eq, List.take_of_length_le (by rw [List.length_drop]; omega)]
     obtain ⟨W2, hW2⟩ : ∃ W2, W2 = wr.iterAt (w.heap.size + 1) s (pos + (Utf8.decode s pos).2) := ⟨_, rfl⟩
     rw [<- hW2] at hnx hI2 hit2 hbw2 hsz2
     have cE := escape_any (s.extract pos s.size) (by rw [ByteArray.size_extract]; omega) ev W2 (by omega) (by rw [hbw2.cell (p := ⟨4, 0, none⟩) h0]; exact hG) HEV.out
     rw [hx] at cE
     obtain ⟨hn4, hc8⟩ := escL_bd (s.data.toList.drop pos)
     have H2 := H1.out
     rw [zax, if_neg hne.out, if_neg (by omega), Lib.decodeL_drop, if_neg (by omega), List.drop_drop] at H2
     clear H1 hW2 hx
     obtain ⟨c, hc⟩ : ∃ c, c = (escL (s.data.toList.drop pos)).1 := ⟨_, rfl⟩
     obtain ⟨n, hn⟩ : ∃ n, n = (escL (s.data.toList.drop pos)).2 := ⟨_, rfl⟩
     rw [<- hc] at cE H2 hc8
     rw [<- hn] at cE H2 hn4
     clear hc hn
     have CE := zh cE
     clear cE
     by_cases hn0 : n = 0
     ·have HN : Hid (none = zcv s.data.toList) := by
       show _ = _
       rw [<- H2, if_pos hn0]; rfl
      clear H2
      subst hn0
      go_wp2_with (go_at_call 128; refine CE.out.mono ?_)
      rintro e W3 ⟨rfl, b3⟩
      go_wp2
      go_ret2
      exact ⟨zaJ HN.out, hbw2.trans (b3.mono hsz2)⟩
     ·rw [if_neg hn0, pre_cons] at H2
      have HN := zh H2
      have t0 : ((n : Int) == 0) = false := by rw [beq_eq_false_iff_ne]; omega
      have HC : Hid ([Value.int .u8 (c : Int)] = Lib.byteCells [c.toUInt8]) := by
       show _ = _
       simp [Lib.byteCells]; omega
      clear H2 hn0 h92
      go_wp2_with (go_at_call 128; refine CE.out.mono ?_)
      rintro e W3 ⟨rfl, b3⟩
      have hI3 := builderF_below hI2 b3
      have hit3 := iter_below hit2 b3
      have hbw3 := hbw2.trans (b3.mono hsz2)
      have hsz3 : w.heap.size <= W3.heap.size := by have := b3.size; omega
      clear hI2 hit2 hbw2 hsz2 b3
      go_wp2_with (go_at_call 75; refine (Tryz.Builder_WriteByte_k w.heap.size w.heap.size _ (c : Int) _ hI3 (by rw [Lib.byteCells_length]; omega) hsz3).mono ?_)
      rintro e W4 ⟨rfl, h4, b4, k4⟩
      go_wp2
      go_roundw
      case rel =>
       refine ⟨pos + (Utf8.decode s pos).2, f, pos + n, acc ++ [c.toUInt8], ?_, k4.iter hit3 (by omega), hbw3.trans b4, by go_num, ?_, by omega, by omega, hwl, by rw [List.length_append]; simp; omega⟩
       ·rw [Lib.byteCells_append, <- HC.out]; exact .inr h4
       ·show _ = _
        rw [<- HN.out]
        congr 2; omega
      case measure => rw [zac (k4.iter hit3 (by omega)), hpos0]; omega
    ·have t : (((Utf8.decode s pos).1 : Int) != 92) = true := by rw [bne_iff_ne]; omega
     have H2 : Hid (pre (acc ++ Lib.encodeRune ((Utf8.decode s pos).1 : Int)) (zax f 0 (s.data.toList.drop (pos + (Utf8.decode s pos).2))) = zcv s.data.toList) := by
      show _ = _
      rw [<- H1.out, zax, if_neg hne.out, if_neg (by omega), Lib.decodeL_drop, if_pos h92, List.drop_drop, pre_map]
     have hz2 : nx - (pos + (Utf8.decode s pos).2) = 0 := by omega
     have HZ := zh hz2
     clear H1 h92 hz2
     go_wp2_with (go_at_call 118; refine (Tryz.Builder_WriteRune_k w.heap.size w.heap.size _ _ (by omega) (by omega) _ hI2 (by rw [Lib.byteCells_length]; omega) hsz2).mono ?_)
     rintro e W1 ⟨rfl, h1, b1, k1⟩
     go_wp2
     go_roundw
     case rel =>
      have hl4 := Lib.runeCells_le ((Utf8.decode s pos).1 : Int)
      rw [Lib.runeCells_length] at hl4
      refine ⟨pos + (Utf8.decode s pos).2, f, nx, acc ++ Lib.encodeRune ((Utf8.decode s pos).1 : Int), ?_, k1.iter hit2 (by omega), hbw2.trans b1, rfl, ?_, by omega, by omega, hwl, by rw [List.length_append]; omega⟩
      ·rw [Lib.byteCells_append, Lib.byteCells_encodeRune]; exact .inr h1
      ·rw [HZ.out]; exact H2
     case measure => rw [zac (k1.iter hit2 (by omega)), hpos0]; omega
  ·have hnx : ∀ ty, (Instr.next (.pointer (some ⟨w.heap.size + 1, 0, none⟩)) true ty).run Tryz.prog wr = _ := fun ty => Lib.run_next_end_at wr (w.heap.size + 1) s pos ty hit hp
   have H2 : Hid (some acc = zcv s.data.toList) := by
    show _ = _
    rw [<- H.out, zaH hp]
    cases fuel <;> simp [zax, pre]
   clear H
   go_wp2_with (go_at_call 34; refine (Tryz.Builder_String_any_k w.heap.size w.heap.size acc _ hI (by omega)).mono ?_)
   rintro e W1 ⟨rfl, _, b1, _⟩
   go_wp2
   go_ret2
   exact ⟨zet H2.out, hbw.trans b1⟩
end Go.Proofs.YtbcemjhaecelnaaGreatDoor
end
section
namespace Go.Proofs.YtbcemjhaecelnaaGreatDoor
open Go.RowKit
def zap (l : List UInt8) : Option (List UInt8) :=
 if l.length < 2 \/ l.getD 0 0 ≠ 34 \/ l.getD (l.length - 1) 0 ≠ 34 then none
 else match zcv ((l.drop 1).take (l.length - 1 - 1)) with
  | none => none
  | some t => if zau t = l then some t else none
theorem zcm : ∀ (f k : Nat) (l t : List UInt8), zax f k l = some t -> t.length <= 4 * l.length
 | 0, k, l, t, h => by simp [zax] at h; subst h; simp
 | f + 1, k, l, t, h => by
   rw [zax] at h
   by_cases hne : l = []
   ·rw [if_pos hne] at h; cases h; simp
   ·have hw := Lib.decodeL_width l
    have hwl := Lib.decodeL_le l hne
    rw [if_neg hne] at h
    by_cases hk : 0 < k
    ·rw [if_pos hk] at h
     have := zcm f _ _ _ h
     rw [List.length_drop] at this; omega
    ·rw [if_neg hk] at h
     by_cases h92 : (Lib.decodeL l).1 ≠ 92
     ·rw [if_pos h92] at h
      cases hq : zax f 0 (l.drop (Lib.decodeL l).2) with
      | none => rw [hq] at h; cases h
      | some u =>
        rw [hq] at h
        simp at h; subst h
        have := zcm f _ _ _ hq
        have h4 := Lib.runeCells_le ((Lib.decodeL l).1 : Int)
        rw [Lib.runeCells_length] at h4
        rw [List.length_drop] at this
        rw [List.length_append]; omega
     ·rw [if_neg h92] at h
      by_cases h0 : (escL l).2 = 0
      ·rw [if_pos h0] at h; cases h
      ·rw [if_neg h0] at h
       cases hq : zax f ((escL l).2 - (Lib.decodeL l).2) (l.drop (Lib.decodeL l).2) with
       | none => rw [hq] at h; cases h
       | some u =>
         rw [hq] at h
         simp at h; subst h
         have := zcm f _ _ _ hq
         rw [List.length_drop] at this
         rw [List.length_cons]; omega
theorem str_eq {a : List UInt8} {s : ByteArray} : ((⟨a.toArray⟩ : ByteArray) = s) ↔ a = s.data.toList := by
 constructor
 ·intro h; rw [<- h]
 ·intro h; subst h; cases s; simp
theorem unquote_any (s : ByteArray) (hs : s.size <= 274877906944) (ev : Value) (w : World) (h0 : 4 < w.heap.size) (hG : w.cell? ⟨4, 0, none⟩ = some ev) (hev : ev = .nilIface \/ ∃ te pe, ev = .iface te pe) :
 Calls Tryz.prog 87 #[.string s] w fun e w' => UEnd (zap s.data.toList) e /\ Below w.heap.size w w' := by
 have HSZ := zh (Lib.size_eq s)
 by_cases h2 : s.size < 2
 ·have HN : Hid (none = zap s.data.toList) := by have := HSZ.out; show _ = _; unfold zap; rw [if_pos (.inl (by omega))]
  have i2 : (s.size : Int) < 2 := by omega
  have t2 : decide ((s.size : Int) < 2) = true := by simpa using i2
  go_enter Tryz.func87, Tryz.ntmps87
  go_wp2
  go_ret2
  exact ⟨zaJ HN.out, Below.refl _ _⟩
 ·have i2 : (2 : Int) <= s.size := by omega
  have t2 : decide ((s.size : Int) < 2) = false := by simp; omega
  have i3 : (1 : Int) <= (s.size : Int) - 1 := by omega
  have g0 := zc3 (s := s) (i := 0) (by omega)
  have g1 := zc3 (s := s) (i := s.size - 1) (by omega)
  have n1 : ∀ b : UInt8, b ≠ 34 ↔ b.toNat ≠ 34 := fun b => ⟨fun h h' => h (UInt8.toNat_inj.1 h'), fun h h' => h (by rw [h']; rfl)⟩
  by_cases q : s[0].toNat = 34 /\ s[s.size - 1].toNat = 34
  ·have t0 : ((s[0].toNat : Int) != 34) = false := by rw [bne_eq_false_iff_eq]; omega
   have t1 : ((s[s.size - 1].toNat : Int) != 34) = false := by rw [bne_eq_false_iff_eq]; omega
   have hU : zap s.data.toList = match zcv ((s.data.toList.drop 1).take (s.size - 1 - 1)) with
    | none => none
    | some t => if zau t = s.data.toList then some t else none := by
    unfold zap
    rw [if_neg, <- HSZ.out]
    rw [<- HSZ.out, g0, g1, n1, n1]; omega
   have hx : (s.extract 1 (s.size - 1)).data.toList = (s.data.toList.drop 1).take (s.size - 1 - 1) := Lib.extract_data s 1 (s.size - 1)
   have hx2 : (s.extract 1 (s.size - 1)).size <= s.size := by rw [ByteArray.size_extract]; omega
   have cU := unescape_any (s.extract 1 (s.size - 1)) (by omega) ev w h0 hG hev
   rw [hx] at cU
   rw [<- hx] at hU
   have hl : (s.extract 1 (s.size - 1)).data.toList.length <= s.size := by rw [<- Lib.size_eq]; exact hx2
   clear g0 g1 n1 q
   rw [<- hx] at cU
   cases hu : zcv (s.extract 1 (s.size - 1)).data.toList with
   | none =>
     have CU := zh (cU.mono (R' := fun e w' => e = .returned (.tuple #[.string ⟨#[]⟩, .bool false]) /\ Below w.heap.size w w') (fun e w' ⟨h, hb⟩ => ⟨by rw [hu] at h; exact h, hb⟩))
     have HN : Hid (none = zap s.data.toList) := by show _ = _; rw [hU, hu]
     clear cU hu hU hx hx2 hl
     go_enter Tryz.func87, Tryz.ntmps87
     go_wp2_with (go_at_call 110; refine CU.out.mono ?_; rintro e w1 ⟨rfl, hb⟩)
     go_ret2
     exact ⟨zaJ HN.out, hb⟩
   | some t =>
     have CU := zh (cU.mono (R' := fun e w' => e = .returned (.tuple #[.string ⟨t.toArray⟩, .bool true]) /\ Below w.heap.size w w') (fun e w' ⟨h, hb⟩ => ⟨by rw [hu] at h; exact h, hb⟩))
     have ht : t.length <= 4 * s.size := by
      have := zcm _ _ _ _ hu
      omega
     have CQ := zh (fun W => quote_any ⟨t.toArray⟩ W (by rw [Lib.size_eq]; show t.length <= _; omega))
     rw [hu] at hU
     dsimp only at hU
     clear cU hu hx hx2 hl ht
     by_cases hq : zau t = s.data.toList
     ·rw [if_pos hq] at hU
      have HU := zh hU.symm
      have tq : (zau t == s.toList) = true := by rw [beq_iff_eq, Lib.toList_data]; exact hq
      clear hU hq
      go_enter Tryz.func87, Tryz.ntmps87
      go_wp2_with (go_at_call 110; refine CU.out.mono ?_; rintro e w1 ⟨rfl, hb⟩)
      go_wp2_with (go_at_call 103; refine (CQ.out _).mono ?_; rintro e w2 ⟨rfl, hb2⟩)
      go_ret2
      exact ⟨zet HU.out, hb.trans (hb2.mono hb.size)⟩
     ·rw [if_neg hq] at hU
      have HU := zh hU.symm
      have tq : (zau t == s.toList) = false := by rw [beq_eq_false_iff_ne, Lib.toList_data]; exact hq
      clear hU hq
      go_enter Tryz.func87, Tryz.ntmps87
      go_wp2_with (go_at_call 110; refine CU.out.mono ?_; rintro e w1 ⟨rfl, hb⟩)
      go_wp2_with (go_at_call 103; refine (CQ.out _).mono ?_; rintro e w2 ⟨rfl, hb2⟩)
      go_ret2
      exact ⟨zaJ HU.out, hb.trans (hb2.mono hb.size)⟩
  ·have HN : Hid (none = zap s.data.toList) := by
    show _ = _
    unfold zap
    rw [if_pos]
    rw [<- HSZ.out, g0, g1, n1, n1]; omega
   have t0 : ((s[0].toNat : Int) != 34) = true \/ (((s[0].toNat : Int) != 34) = false /\ ((s[s.size - 1].toNat : Int) != 34) = true) := by
    simp only [bne_iff_ne, bne_eq_false_iff_eq]; omega
   clear g0 g1 n1 q
   go_enter Tryz.func87, Tryz.ntmps87
   rcases t0 with t | ⟨t, t'⟩
   all_goals
    go_wp2
    go_ret2
    exact ⟨zaJ HN.out, Below.refl _ _⟩
end Go.Proofs.YtbcemjhaecelnaaGreatDoor
end
section
namespace Go.Proofs.YtbcemjhaecelnaaGreatDoor
open Go.RowKit
theorem zfS : ∀ n, n < 16 -> hexv (hexd n).toNat = some n := by decide
theorem zfT (c : UInt8) (hc : c.toNat < 128) (l : List UInt8) : Lib.decodeL (c :: l) = (c.toNat, 1) := by
 rw [Lib.decodeL_N]
 unfold Lib.decodeN
 rw [if_pos (by simpa using hc)]; rfl
theorem zd7 (f k : Nat) (c : UInt8) (hc : c.toNat < 128) (u : List UInt8) : zax (f + 1) (k + 1) (c :: u) = zax f k u := by
 rw [zax, if_neg (by simp), if_pos (by omega), zfT c hc]; simp
theorem zgT (f : Nat) (u : List UInt8) (c n : Nat) (he : escL (92 :: u) = (c, n)) (hn : n ≠ 0) : zax (f + 1) 0 (92 :: u) = (zax f (n - 1) u).map (c.toUInt8 :: ·) := by
 rw [zax, if_neg (by simp), if_neg (by omega), zfT 92 (by decide), he]
 dsimp only
 rw [if_neg (by decide), if_neg hn]; simp
theorem un_chunk (t u : List UInt8) (hne : t ≠ []) (f : Nat) (hf : (zar t ++ u).length <= f) : ∃ f', u.length <= f' /\ zax f 0 (zar t ++ u) = pre (head t) (zax f' 0 u) := by
 rcases zbK t hne with ⟨_, hc, hh⟩ | ⟨_, hc, hh⟩ | ⟨_, hc, hh⟩ | ⟨_, _, hc, hh⟩ | ⟨⟨k1, k2, _⟩, k4, hc, hh⟩
 ·rw [hc] at hf ⊢; rw [hh]
  obtain ⟨f, rfl⟩ : ∃ g, f = g + 2 := ⟨f - 2, by simp at hf; omega⟩
  refine ⟨f, by simp at hf; omega, ?_⟩
  show zax (f + 1 + 1) 0 (92 :: 34 :: u) = _
  rw [zgT _ _ 34 2 (by simp [escL]) (by decide), zd7 _ _ _ (by decide)]; rfl
 ·rw [hc] at hf ⊢; rw [hh]
  obtain ⟨f, rfl⟩ : ∃ g, f = g + 2 := ⟨f - 2, by simp at hf; omega⟩
  refine ⟨f, by simp at hf; omega, ?_⟩
  show zax (f + 1 + 1) 0 (92 :: 92 :: u) = _
  rw [zgT _ _ 92 2 (by simp [escL]) (by decide), zd7 _ _ _ (by decide)]; rfl
 ·rw [hc] at hf ⊢; rw [hh]
  obtain ⟨f, rfl⟩ : ∃ g, f = g + 2 := ⟨f - 2, by simp at hf; omega⟩
  refine ⟨f, by simp at hf; omega, ?_⟩
  show zax (f + 1 + 1) 0 (92 :: 110 :: u) = _
  rw [zgT _ _ 10 2 (by simp [escL]) (by decide), zd7 _ _ _ (by decide)]; rfl
 ·rw [hc] at hf ⊢; rw [hh]
  obtain ⟨f, rfl⟩ : ∃ g, f = g + 4 := ⟨f - 4, by simp at hf; omega⟩
  refine ⟨f, by simp at hf; omega, ?_⟩
  have hb := (t.getD 0 0).toNat_lt
  generalize t.getD 0 0 = c at hb ⊢
  have e1 := zfS (c.toNat / 16) (by omega)
  have e2 := zfS (c.toNat % 16) (by omega)
  have s1 := zeO (c.toNat / 16) (by omega)
  have s2 := zeO (c.toNat % 16) (by omega)
  show zax (f + 1 + 1 + 1 + 1) 0 (92 :: 120 :: hexd (c.toNat / 16) :: hexd (c.toNat % 16) :: u) = _
  have hE : escL (92 :: 120 :: hexd (c.toNat / 16) :: hexd (c.toNat % 16) :: u) = (c.toNat, 4) := by
   have hX : zbL 0 [hexd (c.toNat / 16), hexd (c.toNat % 16)] = some c.toNat := by
    unfold zbL; rw [e1]; dsimp only
    unfold zbL; rw [e2]; dsimp only
    unfold zbL
    congr 1; omega
   unfold escL escX
   rw [if_neg (by simp), if_neg (by simp), if_neg (by simp), if_pos (by simp), if_neg (by simp)]
   simp only [List.drop_succ_cons, List.drop_zero, List.take_succ_cons, List.take_zero]
   rw [hX]
  rw [zgT _ _ _ _ hE (by decide), zd7 _ _ _ (by decide), zd7 _ _ _ s1, zd7 _ _ _ s2]
  simp [pre]
 ·have hw := Lib.decodeL_width t
  have hwl := Lib.decodeL_le t hne
  have hh2 : head t = t.take (Lib.decodeL t).2 := rfl
  have hd1 : Lib.decodeL (head t) = Lib.decodeL t := zc0 t _ hne (Nat.le_refl _)
  have hne2 : head t ≠ [] := by
   intro h
   have := congrArg List.length h
   rw [hh2, List.length_take] at this; rw [List.length_nil] at this; omega
  have hd2 : Lib.decodeL (head t ++ u) = Lib.decodeL t := by
   rw [zer (head t) u hne2 (by rw [hd1]; exact k4), hd1]
  have hlen : (head t).length = (Lib.decodeL t).2 := by rw [hh2, List.length_take]; omega
  rw [hc, <- hh] at hf ⊢
  obtain ⟨f, rfl⟩ : ∃ g, f = g + 1 := ⟨f - 1, by rw [List.length_append] at hf; omega⟩
  refine ⟨f, by rw [List.length_append] at hf; omega, ?_⟩
  rw [zax, if_neg (show ¬ (head t ++ u = []) by simp [hne2]), if_neg (Nat.lt_irrefl 0), hd2, if_pos k2, <- hlen, List.drop_left, <- hh]; rfl
theorem un_body (l : List UInt8) : ∀ f, (zbA l).length <= f -> zax f 0 (zbA l) = some l := by
 induction l using zaC with
 | h0 => intro f _; cases f <;> simp [zbA, zdl, zax]
 | h1 l hne ih =>
   intro f hf
   rw [zcH l hne] at hf ⊢
   obtain ⟨f1, h1, e1⟩ := un_chunk l _ hne f hf
   rw [e1, ih f1 h1]
   simp [pre, zfP]
theorem zgU (t : List UInt8) : ((zau t).drop 1).take ((zau t).length - 1 - 1) = zbA t := by
 unfold zau
 simp
theorem zgV (t : List UInt8) : ¬ ((zau t).length < 2 \/ (zau t).getD 0 0 ≠ 34 \/ (zau t).getD ((zau t).length - 1) 0 ≠ 34) := by
 unfold zau
 simp [List.getD]
theorem zcW (t : List UInt8) : zap (zau t) = some t := by
 unfold zap
 rw [if_neg (zgV t), zgU]
 unfold zcv
 rw [un_body t _ (Nat.le_refl _)]
 simp
theorem zcn {q t : List UInt8} (h : zap q = some t) : zau t = q := by
 unfold zap at h
 split at h
 ·cases h
 ·split at h
  ·cases h
  ·split at h
   ·cases h; assumption
   ·cases h
end Go.Proofs.YtbcemjhaecelnaaGreatDoor
end
end
