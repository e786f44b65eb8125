/- Walks: sums and means of numbers. -/
import Derived.Test.YtbdnonphkobkoaaGreatGb
import Derived.Laws.Cover1
import Derived.LoopTactic
namespace Go.Proofs.YtbdnonphkobkoaaGreat.Fix
open Go.RowKit

/-- A slice that reads as these numbers. -/
def SeesI (w : World) (o : Option Addr) (zs : List Int) : Prop := zs = [] ∨ ∃ b off, o = some ⟨b, off, none⟩ ∧ b < w.heap.size ∧ ∀ (j : Nat) (x : Int), zs[j]? = some x → w.cell? ⟨b, off + j, none⟩ = some (.int .i64 x)
theorem SeesI.below {w w' : World} {o : Option Addr} {zs : List Int} (h : SeesI w o zs) (hb : Below w.heap.size w w') : SeesI w' o zs :=
  h.imp id fun ⟨b, off, e, hl, hc⟩ => ⟨b, off, e, Nat.lt_of_lt_of_le hl hb.size, fun j x hx => (hb.cell (p := ⟨b, off + j, none⟩) hl).trans (hc j x hx)⟩
theorem SeesI.at {w : World} {o : Option Addr} {zs : List Int} (h : SeesI w o zs) {k : Nat} {x : Int} (hx : zs[k]? = some x) : ∃ b off, o = some ⟨b, off, none⟩ ∧ w.cell? ⟨b, off + k, none⟩ = some (.int .i64 x) := by
  rcases h with rfl | ⟨b, off, e, _, hc⟩
  · simp at hx
  · exact ⟨b, off, e, hc k x hx⟩
theorem get_lt {xs : List Int} {n k : Nat} (hn : xs.length = n) (hk : k < n) : ∃ x, xs[k]? = some x := ⟨xs[k]'(by omega), List.getElem?_eq_getElem _⟩
theorem take_at {xs : List Int} {k : Nat} {x : Int} (h : xs[k]? = some x) : xs.take (k + 1) = xs.take k ++ [x] := by
  obtain ⟨hk, e⟩ := List.getElem?_eq_some_iff.1 h
  rw [List.take_succ_eq_append_getElem hk, e]

/-- The sum of numbers, if all may be, and there are not too many. -/
def totalF (zs : List Int) : Int × Int := if zs.length ≤ 2000 ∧ (∀ z ∈ zs, rgt z) then (zs.sum, 0) else (0, 1)
def sumF (zs : List Int) : Int × Int := if zs.length ≤ 2000 ∧ (∀ z ∈ zs, rgt z) then withinF zs.sum else (0, 1)
def meanF (zs : List Int) : Int × Int := if zs = [] then (0, 7) else if zs.length ≤ 2000 ∧ (∀ z ∈ zs, rgt z) then (zs.sum.tdiv zs.length, 0) else (0, 1)

theorem sum_bound : ∀ (zs : List Int), (∀ z ∈ zs, rgt z) → -(1000000000000 * (zs.length : Int)) ≤ zs.sum ∧ zs.sum ≤ 1000000000000 * (zs.length : Int)
  | [], _ => by simp
  | z :: zs, h => by
    have h1 := sum_bound zs (fun x hx => h x (by simp [hx]))
    have h2 := h z (by simp)
    unfold rgt at h2
    rw [List.sum_cons, List.length_cons]
    omega

set_option maxHeartbeats 1000000 in
set_option maxRecDepth 100000 in
theorem total_any (o : Option Addr) (cap : Nat) (zs : List Int) (w : World) (hm : zs.length ≤ maxLen) (hS : SeesI w o zs) :
    Calls Tryz.prog 193 #[.slice o zs.length cap] w fun e w' => e = .returned (.tuple #[.int .i64 (totalF zs).1, .int .i64 (totalF zs).2]) ∧ w = w' := by
  obtain ⟨n, hn⟩ : ∃ n, zs.length = n := ⟨_, rfl⟩
  have HN := Lib.hid hn
  unfold maxLen at hm
  rw [hn] at hm ⊢
  have HE := Lib.hid (show totalF zs = if n ≤ 2000 ∧ (∀ z ∈ zs, rgt z) then (zs.sum, 0) else (0, 1) by unfold totalF; rw [hn])
  clear hn
  by_cases h8 : 2000 < n
  · have i1 : (2000 : Int) < n := by omega
    rw [HE.out, if_neg (fun h => by omega)]
    go_enter Tryz.func193, Tryz.ntmps193
    go_wp2
    go_ret2
    exact ⟨rfl, rfl⟩
  have i1 : (n : Int) ≤ 2000 := by omega
  have HS := Lib.hid hS
  have HR := Lib.hid (fun v W => right_any v W)
  clear hS h8
  obtain ⟨R, hR⟩ : ∃ R, totalF zs = R := ⟨_, rfl⟩
  rw [hR]
  have HRR := Lib.hid (HE.out.symm.trans hR)
  clear hR HE
  go_enter Tryz.func193, Tryz.ntmps193
  go_wp2
  go_loop [4, 12] (fun v4 v12 => ∃ k : Nat, v12 = .int .i64 k ∧ k ≤ n ∧ v4 = .int .i64 (zs.take k).sum ∧ Hid (∀ z ∈ zs.take k, rgt z)) (fun _ v12 => n - (intOf v12).toNat)
  case atStart => exact ⟨0, rfl, Nat.zero_le _, by simp, Lib.hid (fun z hz => by simp at hz)⟩
  case round =>
    obtain ⟨k, rfl, hk, rfl, H⟩ := hrel
    obtain ⟨b1, b2⟩ := sum_bound _ H.out
    rw [List.length_take, HN.out, Nat.min_eq_left hk] at b1 b2
    by_cases hkn : k < n
    · have j1 : (k : Int) < n := by omega
      obtain ⟨x, hx⟩ := get_lt HN.out hkn
      obtain ⟨b, off, rfl, hc⟩ := HS.out.at hx
      have HX := Lib.hid hx
      have hsum := Lib.hid (show (zs.take (k + 1)).sum = (zs.take k).sum + x by rw [take_at HX.out]; simp)
      clear hx
      by_cases hr : rgt x
      · have HV := Lib.hid (fun W => right_yes x W hr)
        have H2 := Lib.hid (show ∀ z ∈ zs.take (k + 1), rgt z by
          intro z hz; rw [take_at HX.out] at hz
          rcases List.mem_append.1 hz with h | h
          · exact H.out z h
          · rw [List.mem_singleton.1 h]; exact hr)
        obtain ⟨r1, r2⟩ := hr
        generalize (zs.take k).sum = t at b1 b2 hsum ⊢
        go_wp2_with fail
        refine (HV.out _).mono ?_
        rintro e w' ⟨rfl, rfl⟩
        go_wp2
        go_round
        case rel => exact ⟨k + 1, by go_num, by omega, by rw [hsum.out], H2⟩
        case measure => simp [intOf]; omega
      · have HV := Lib.hid (fun W => right_no x W hr)
        have H2 := Lib.hid (show ((0 : Int), (1 : Int)) = R by
          rw [← HRR.out, if_neg (fun h => hr (h.2 x (List.mem_of_getElem? HX.out)))])
        clear hr
        generalize (zs.take k).sum = t at b1 b2 hsum ⊢
        go_wp2_with fail
        refine (HV.out _).mono ?_
        rintro e w' ⟨rfl, rfl⟩
        go_wp2
        go_ret2
        exact ⟨by rw [← H2.out]; rfl, rfl⟩
    · obtain rfl : k = n := by omega
      have H2 := Lib.hid (show (zs.sum, (0 : Int)) = R by
        have e : zs.take k = zs := List.take_of_length_le (by rw [HN.out]; exact Nat.le_refl _)
        have h := H.out
        rw [e] at h
        rw [← HRR.out, if_pos ⟨by omega, h⟩])
      have H3 := Lib.hid (show (zs.take k).sum = zs.sum by rw [List.take_of_length_le (by rw [HN.out]; exact Nat.le_refl _)])
      clear b1 b2
      go_wp2
      go_ret2
      exact ⟨by rw [← H2.out, ← H3.out]; rfl, rfl⟩

set_option maxHeartbeats 1000000 in
theorem sum_any (o : Option Addr) (cap : Nat) (zs : List Int) (w : World) (hm : zs.length ≤ maxLen) (hS : SeesI w o zs) :
    Calls Tryz.prog 163 #[.slice o zs.length cap] w fun e w' => e = .returned (.tuple #[.int .i64 (sumF zs).1, .int .i64 (sumF zs).2]) ∧ w = w' := by
  have HT := Lib.hid (total_any o cap zs w hm hS)
  clear hS
  generalize zs.length = n at HT ⊢
  unfold maxLen at hm
  by_cases hr : zs.length ≤ 2000 ∧ (∀ z ∈ zs, rgt z)
  · have e1 : totalF zs = (zs.sum, 0) := by unfold totalF; rw [if_pos hr]
    have e2 : sumF zs = withinF zs.sum := by unfold sumF; rw [if_pos hr]
    rw [e1] at HT
    rw [e2]
    clear e1 e2 hr hm
    have HW := Lib.hid (fun W => within_any zs.sum W)
    generalize zs.sum = t at HT HW ⊢
    generalize withinF t = R at HW ⊢
    go_enter Tryz.func163, Tryz.ntmps163
    go_wp2_with fail
    refine HT.out.mono ?_
    rintro e w' ⟨rfl, rfl⟩
    go_wp2_with fail
    refine (HW.out _).mono ?_
    rintro e w' ⟨rfl, rfl⟩
    go_wp2
    go_ret2
    exact ⟨rfl, rfl⟩
  · have e1 : totalF zs = (0, 1) := by unfold totalF; rw [if_neg hr]
    have e2 : sumF zs = (0, 1) := by unfold sumF; rw [if_neg hr]
    rw [e1] at HT
    rw [e2]
    clear e1 e2 hr hm
    go_enter Tryz.func163, Tryz.ntmps163
    go_wp2_with fail
    refine HT.out.mono ?_
    rintro e w' ⟨rfl, rfl⟩
    go_wp2
    go_ret2
    exact ⟨rfl, rfl⟩

set_option maxHeartbeats 1000000 in
theorem mean_any (o : Option Addr) (cap : Nat) (zs : List Int) (w : World) (hm : zs.length ≤ maxLen) (hS : SeesI w o zs) :
    Calls Tryz.prog 164 #[.slice o zs.length cap] w fun e w' => e = .returned (.tuple #[.int .i64 (meanF zs).1, .int .i64 (meanF zs).2]) ∧ w = w' := by
  by_cases h0 : zs = []
  · subst h0
    go_enter Tryz.func164, Tryz.ntmps164
    go_wp2
    go_ret2
    exact ⟨rfl, rfl⟩
  have HT := Lib.hid (total_any o cap zs w hm hS)
  clear hS
  obtain ⟨n, hn⟩ : ∃ n, zs.length = n := ⟨_, rfl⟩
  have HN := Lib.hid hn
  unfold maxLen at hm
  rw [hn] at hm HT ⊢
  have hn0 : n ≠ 0 := by rw [← hn]; exact fun h => h0 (List.length_eq_zero_iff.1 h)
  have t0 : ((n : Int) == 0) = false := beq_eq_false_iff_ne.2 (by omega)
  by_cases hr : n ≤ 2000 ∧ (∀ z ∈ zs, rgt z)
  · have e1 : totalF zs = (zs.sum, 0) := by unfold totalF; rw [hn, if_pos hr]
    have e2 : meanF zs = (zs.sum.tdiv n, 0) := by unfold meanF; rw [if_neg h0, hn, if_pos hr]
    have hb := sum_bound zs hr.2
    rw [hn] at hb
    obtain ⟨b1, b2⟩ := hb
    have hn2 : n ≤ 2000 := hr.1
    rw [e1] at HT
    rw [e2]
    clear e1 e2 hr h0 hn
    generalize zs.sum = t at HT b1 b2 ⊢
    have i2 : (1 : Int) ≤ n := by omega
    have r1 : -2000000000000000 ≤ t.tdiv n := by have := Int.natAbs_tdiv_le_natAbs t n; omega
    have r2 : t.tdiv n ≤ 2000000000000000 := by have := Int.natAbs_tdiv_le_natAbs t n; omega
    go_enter Tryz.func164, Tryz.ntmps164
    go_wp2_with fail
    refine HT.out.mono ?_
    rintro e w' ⟨rfl, rfl⟩
    go_wp2
    go_ret2
    exact ⟨rfl, rfl⟩
  · have e1 : totalF zs = (0, 1) := by unfold totalF; rw [hn, if_neg hr]
    have e2 : meanF zs = (0, 1) := by unfold meanF; rw [if_neg h0, hn, if_neg hr]
    rw [e1] at HT
    rw [e2]
    clear e1 e2 hr h0 hn hn0
    go_enter Tryz.func164, Tryz.ntmps164
    go_wp2_with fail
    refine HT.out.mono ?_
    rintro e w' ⟨rfl, rfl⟩
    go_wp2
    go_ret2
    exact ⟨rfl, rfl⟩
end Go.Proofs.YtbdnonphkobkoaaGreat.Fix
