/- Walks: the document's own Pick. -/
import Derived.Test.YtbdnonphkobkoaaGreatZat
import Derived.Test.YtbdnonphkobkoaaGreatGf
import Derived.Deep.QuietTactic
import Derived.Deep.RegionLaw
namespace Go.Proofs.YtbdnonphkobkoaaGreat
open Go.RowKit Go.Lib

def pickP (ns : List ByteArray) (inn : Bool) (x : Lab) : Bool := Lib.containsS ns x.1 == inn
theorem pick_in (ns : List ByteArray) (xs : List Lab) : xs.filter (pickP ns true) = xs.filter (inB ns) := by
  congr 1; funext x; unfold pickP inB; cases Lib.containsS ns x.1 <;> rfl
theorem pick_out (ns : List ByteArray) (xs : List Lab) : xs.filter (pickP ns false) = xs.filter (outB ns) := by
  congr 1; funext x; unfold pickP outB; cases Lib.containsS ns x.1 <;> rfl
theorem has_step {ns : List ByteArray} {k : Nat} {y : ByteArray} (x : ByteArray) (hy : ns[k]? = some y) : Lib.containsS (ns.take (k + 1)) x = (Lib.containsS (ns.take k) x || (y.toList == x.toList)) := by
  have e : ns.take (k + 1) = ns.take k ++ [y] := by
    rw [List.take_add_one, hy]; rfl
  rw [Bool.eq_iff_iff, Bool.or_eq_true, containsS_iff, containsS_iff, e, List.mem_append, List.mem_singleton, beq_iff_eq, ByteArray.toList_eq, ByteArray.toList_eq]
  exact ⟨fun h => h.imp id fun h => by rw [h], fun h => h.imp id fun h => (bytes_ext h).symm⟩

set_option maxHeartbeats 8000000 in
set_option maxRecDepth 100000 in
theorem rpick_any (o on : Option Addr) (cap cn : Nat) (xs : List Lab) (ns : List ByteArray) (inn : Bool) (w : World) (hm : xs.length ≤ 1000000) (hmn : ns.length ≤ 1000000) (hS : SeesO w o xs) (hT : Txt.SeesT w on ns) :
    Calls Tryz.prog 54 #[.slice o xs.length cap, .slice on ns.length cn, .bool inn] w fun e w' => (∃ v, e = .returned v ∧ w'.ownsRow w.heap.size 62 2 v (xs.filter (pickP ns inn)).length (flatL (xs.filter (pickP ns inn)))) ∧ Below w.heap.size w w' := by
  obtain ⟨i0, hi, hz0, hz1, hz2⟩ := info_parts info38
  obtain ⟨n, hn⟩ : ∃ n, xs.length = n := ⟨_, rfl⟩
  obtain ⟨m, hm'⟩ : ∃ m, ns.length = m := ⟨_, rfl⟩
  have HN := Lib.hid hn
  have HM := Lib.hid hm'
  rw [hn] at hm ⊢
  rw [hm'] at hmn ⊢
  clear hn hm'
  have HSO := Lib.hid hS
  have HTO := Lib.hid hT
  clear hS hT
  go_enter Tryz.func54, Tryz.ntmps54
  go_wp2
  go_loopw [7, 8] (fun v7 v8 wr => ∃ (k : Nat) (ys : List Lab), v8 = .int .i64 k ∧ k ≤ n ∧ ys.length ≤ k ∧ Hid (ys = (xs.take k).filter (pickP ns inn)) ∧ wr.ownsRow w.heap.size 62 2 v7 ys.length (flatL ys) ∧ Hid (Below w.heap.size w wr)) (fun _ v8 _ => n - (Go.RowKit.intOf v8).toNat)
  case atStart => exact ⟨0, [], rfl, Nat.zero_le _, Nat.zero_le _, rfl, World.ownsRow_nil _ _ _ _, Below.refl _ _⟩
  case round =>
    obtain ⟨k, ys, rfl, hk, hyk, HY, hown, HB⟩ := hrel
    by_cases hkn : k < n
    · have j1 : (k : Int) < n := by omega
      obtain ⟨x, hx⟩ := get_lt HN.out hkn
      obtain ⟨b, off, rfl, hS0⟩ := (HSO.out.below (Below.refl _ _)).at hx
      have HC := Lib.hid (fun W (h : Below w.heap.size w W) => (show W.cell? ⟨b, off + k * 2, none⟩ = some (.string x.1) ∧ W.cell? ⟨b, off + k * 2 + 1, none⟩ = some (.string x.2) by
        obtain ⟨b', off', e, hc⟩ := (HSO.out.below h).at hx
        cases e; exact ⟨hc.at0 k x hx, hc.at1 k x hx⟩))
      have HX := Lib.hid hx
      have HO := Lib.hid hown
      clear hS0 hx hown
      obtain ⟨wo, rfl⟩ : ∃ wo : World, wo = wr := ⟨_, rfl⟩
      go_wp2
      go_loopw [9, 10] (fun v9 v10 wi => ∃ q : Nat, v10 = .int .i64 q ∧ q ≤ m ∧ v9 = .bool (Lib.containsS (ns.take q) x.1) ∧ Hid (∃ d, wi = wo.drewN d)) (fun _ v10 _ => m - (Go.RowKit.intOf v10).toNat)
      case atStart => exact ⟨0, rfl, Nat.zero_le _, rfl, Lib.hid ⟨0, rfl⟩⟩
      case round =>
        obtain ⟨q, rfl, hq, rfl, HW⟩ := hrel
        have HWB := Lib.hid (show Below wo.heap.size wo wr by obtain ⟨d, rfl⟩ := HW.out; exact Txt.drewN_below wo d)
        have HB1 := Lib.hid (HB.out.trans (HWB.out.mono HB.out.size))
        have c0 := (HC.out _ HB1.out).1
        have c1 := (HC.out _ HB1.out).2
        obtain ⟨z, hz⟩ : ∃ z, Lib.containsS (ns.take q) x.1 = z := ⟨_, rfl⟩
        rw [hz]
        have HZ := Lib.hid hz
        clear hz
        by_cases hqm : q < m
        · have j2 : (q : Int) < m := by omega
          obtain ⟨y, hy⟩ := Txt.get_at HM.out hqm
          obtain ⟨b2, off2, rfl, d0⟩ := (HTO.out.below HB1.out).at hy
          have HS := Lib.hid (has_step x.1 hy)
          clear hy
          cases z with
          | true =>
            have H2 := Lib.hid (show true = Lib.containsS (ns.take (q + 1)) x.1 by rw [HS.out, HZ.out]; rfl)
            go_wp2_with fail
            go_quiet (fail)
            go_wp2
            go_roundw
            case rel => exact ⟨q + 1, by go_num, by omega, by rw [← H2.out], Lib.hid (by obtain ⟨d, rfl⟩ := HW.out; exact ⟨_, drewN_two _ _ _⟩)⟩
            case measure => simp [Go.RowKit.intOf]; omega
          | false =>
            have H2 := Lib.hid (show (y.toList == x.1.toList) = Lib.containsS (ns.take (q + 1)) x.1 by rw [HS.out, HZ.out]; rfl)
            go_wp2_with fail
            go_quiet (fail)
            go_wp2
            go_roundw
            case rel => exact ⟨q + 1, by go_num, by omega, by rw [← H2.out], Lib.hid (by obtain ⟨d, rfl⟩ := HW.out; exact ⟨_, drewN_two _ _ _⟩)⟩
            case measure => simp [Go.RowKit.intOf]; omega
        · have j2 : (m : Int) ≤ q := by omega
          have HP := Lib.hid (show pickP ns inn x = (z == inn) by
            unfold pickP
            rw [← HZ.out, List.take_of_length_le (by rw [HM.out]; omega)])
          have HOq := Lib.hid (own_grown HO.out HWB.out)
          have hOq := HOq.out
          have hsz := HB1.out.size
          cases z <;> cases inn
          case' false.false => have t9 : ((false : Bool) == false) = true := rfl
          case' true.true => have t9 : ((true : Bool) == true) = true := rfl
          case' false.true => have t9 : ((false : Bool) == true) = false := rfl
          case' true.false => have t9 : ((true : Bool) == false) = false := rfl
          case false.true | true.false =>
            have H2 := Lib.hid (show ys = (xs.take (k + 1)).filter (pickP ns _) by rw [filter_step HY.out HX.out, HP.out]; simp)
            clear hOq t9
            go_wp2
            go_roundw
            case rel => exact ⟨k + 1, ys, by go_num, by omega, by omega, H2, HOq.out, HB1⟩
            case measure => simp [Go.RowKit.intOf]; omega
          case false.false | true.true =>
            have H2 := Lib.hid (show ys ++ [x] = (xs.take (k + 1)).filter (pickP ns _) by rw [filter_step HY.out HX.out, HP.out]; simp)
            clear t9
            go_wp2_with (at_builtin; go_must (refine wpList_append_own _ rfl _ _ 50 rfl w.heap.size 62 i0 (.agg #[.string ⟨#[]⟩, .string ⟨#[]⟩]) 2 32 Tryz.underlying50 hi hz0 hz1 hz2 rfl (by decide) _ _ _ rfl (hOq.alloc _) ⟨wr.heap.size, 0, none⟩ 1 1 [.string x.1, .string x.2] rfl rfl (cells_2 _ _ _ _) (one_2 _ _) (by unfold maxLen; omega) (by omega) (by simp; omega) ?_); intro v' w3 hown' hgrow3 hnil3)
            have hB3 : Below w.heap.size w w3 := Below.grown (HB1.out.alloc (by omega) _) hgrow3 (by simp; omega) (fun j hj => by have := (hOq.lt _ hj).1; omega)
            have hO3 : w3.ownsRow w.heap.size 62 2 v' (ys ++ [x]).length (flatL (ys ++ [x])) := by
              rw [List.length_append, flatL_snoc]; exact hown'
            have HB3 := Lib.hid hB3
            clear hown' hgrow3 hnil3 hOq hB3 hsz
            go_roundw
            case rel => exact ⟨k + 1, ys ++ [x], by go_num, by omega, by simp; omega, H2, hO3, HB3⟩
            case measure => simp [Go.RowKit.intOf]; omega
    · have j1 : (n : Int) ≤ k := by omega
      have H2 := Lib.hid (show ys = xs.filter (pickP ns inn) by rw [HY.out, List.take_of_length_le (by rw [HN.out]; omega)])
      go_wp2
      go_ret
      refine ⟨?_, HB.out⟩
      rw [← H2.out]
      exact ⟨_, rfl, hown⟩
end Go.Proofs.YtbdnonphkobkoaaGreat
