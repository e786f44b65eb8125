/- The walk of the law on sums of parts. -/
import Derived.Test.YtooibjanlmlidaaKb
namespace Go.Proofs.Ytooibjanlmlidaa
open Go.RowKit

/-- Numbers that are small. -/
def small (v : Int) : Prop := -1000000000 ≤ v ∧ v ≤ 1000000000
theorem small_rgt {v : Int} (h : small v) : rgt v := by unfold small at h; unfold rgt; omega
theorem small_sum : ∀ (zs : List Int), (∀ z ∈ zs, small z) → -(1000000000 * (zs.length : Int)) ≤ zs.sum ∧ zs.sum ≤ 1000000000 * (zs.length : Int)
  | [], _ => by simp
  | z :: zs, h => by
    have h1 := small_sum zs (fun x hx => h x (by simp [hx]))
    have h2 := h z (by simp)
    unfold small at h2
    rw [List.sum_cons, List.length_cons]
    omega
theorem sum_small {zs : List Int} (h : ∀ z ∈ zs, small z) (hl : zs.length ≤ 100) : sumF zs = (zs.sum, 0) := by
  obtain ⟨h1, h2⟩ := small_sum zs h
  unfold sumF
  rw [if_pos ⟨by omega, fun z hz => small_rgt (h z hz)⟩]
  unfold withinF
  rw [if_pos (by unfold rgt; omega)]
theorem mean_small {zs : List Int} (hne : zs ≠ []) (h : ∀ z ∈ zs, small z) (hl : zs.length ≤ 100) : meanF zs = (zs.sum.tdiv zs.length, 0) := by
  unfold meanF
  rw [if_neg hne, if_pos ⟨by omega, fun z hz => small_rgt (h z hz)⟩]
theorem sum_between (l h : Int) : ∀ (zs : List Int), (∀ z ∈ zs, l ≤ z ∧ z ≤ h) → l * (zs.length : Int) ≤ zs.sum ∧ zs.sum ≤ h * (zs.length : Int)
  | [], _ => by simp
  | z :: zs, k => by
    have h1 := sum_between l h zs (fun x hx => k x (by simp [hx]))
    have h2 := k z (by simp)
    rw [List.sum_cons, List.length_cons, Int.natCast_add, Int.mul_add, Int.mul_add]
    omega
theorem tdiv_between {l h s n : Int} (hn : 0 < n) (h1 : l * n ≤ s) (h2 : s ≤ h * n) : l - 1 ≤ s.tdiv n ∧ s.tdiv n ≤ h + 1 := by
  have e := Int.tdiv_mul_add_tmod s n
  have b1 : (s.tmod n).natAbs < n.natAbs := by rw [Int.natAbs_tmod]; exact Nat.mod_lt _ (by omega)
  refine ⟨?_, ?_⟩
  · refine Int.le_of_mul_le_mul_right (a := n) ?_ hn
    rw [Int.sub_mul]; omega
  · refine Int.le_of_mul_le_mul_right (a := n) ?_ hn
    rw [Int.add_mul]; omega
theorem SeesI.take {w : World} {o : Option Addr} {zs : List Int} (h : SeesI w o zs) (k : Nat) : SeesI w o (zs.take k) := by
  rcases h with rfl | ⟨b, off, e, hl, hc⟩
  · exact .inl (by simp)
  · refine .inr ⟨b, off, e, hl, fun j x hx => hc j x ?_⟩
    rw [List.getElem?_take] at hx
    split at hx
    · exact hx
    · simp at hx
theorem SeesI.drop {w : World} {b off : Nat} {zs : List Int} (h : SeesI w (some ⟨b, off, none⟩) zs) (k : Nat) : SeesI w (some ⟨b, off + k, none⟩) (zs.drop k) := by
  rcases h with rfl | ⟨b', off', e, hl, hc⟩
  · exact .inl (by simp)
  · cases e
    refine .inr ⟨b, off + k, rfl, hl, fun j x hx => ?_⟩
    rw [List.getElem?_drop] at hx
    have := hc (k + j) x hx
    rwa [← Nat.add_assoc] at this
theorem sum_call {x : Int} {o : Option Addr} {cap n : Nat} {zs : List Int} {w0 : World} (hn : zs.length = n) (hm : n ≤ 1000) (hS : SeesI w0 o zs) (h : sumF zs = (x, 0)) (W : World) (hb : Hid (Below w0.heap.size w0 W)) :
    Calls Try.prog 17 #[.slice o n cap] W fun e w' => e = .returned (.tuple #[.int .i64 x, .int .i64 0]) ∧ W = w' := by
  subst hn
  have := sum_any o cap zs W (by unfold maxLen; omega) (hS.below hb.out)
  rw [h] at this
  exact this
theorem mean_call {x : Int} {o : Option Addr} {cap n : Nat} {zs : List Int} {w0 : World} (hn : zs.length = n) (hm : n ≤ 1000) (hS : SeesI w0 o zs) (h : meanF zs = (x, 0)) (W : World) (hb : Hid (Below w0.heap.size w0 W)) :
    Calls Try.prog 19 #[.slice o n cap] W fun e w' => e = .returned (.tuple #[.int .i64 x, .int .i64 0]) ∧ W = w' := by
  subst hn
  have := mean_any o cap zs W (by unfold maxLen; omega) (hS.below hb.out)
  rw [h] at this
  exact this

set_option maxHeartbeats 8000000 in
set_option maxRecDepth 100000 in
theorem sums_none (o : Option Addr) (cap n : Nat) (cut : Int) (hm : n ≤ maxLen) (h : n = 0 ∨ 100 < n) (w : World) : Calls Try.prog 8 #[.slice o n cap, .int .i64 cut] w fun e w' => e = .returned (.bool true) ∧ Below w.heap.size w w' := by
  have HAL := Lib.hid (fun W => alive_any W)
  unfold maxLen at hm
  by_cases h0 : n = 0
  · subst h0
    clear h
    go_enter Try.func8, Try.ntmps8
    go_wp2_with fail
    refine (HAL.out _).mono ?_
    rintro e w1 ⟨rfl, b1⟩
    have HB1 := Lib.hid b1
    clear b1
    go_wp2
    go_ret
    exact ⟨rfl, HB1.out⟩
  have t0 : ((n : Int) == 0) = false := beq_eq_false_iff_ne.2 (by omega)
  have i1 : (100 : Int) < n := by omega
  clear h h0
  go_enter Try.func8, Try.ntmps8
  go_wp2_with fail
  refine (HAL.out _).mono ?_
  rintro e w1 ⟨rfl, b1⟩
  have HB1 := Lib.hid b1
  clear b1
  go_wp2
  go_ret
  exact ⟨rfl, HB1.out⟩

set_option maxHeartbeats 8000000 in
set_option maxRecDepth 100000 in
theorem sums_all (o : Option Addr) (cap : Nat) (zs : List Int) (cut : Int) (w : World) (hS : SeesI w o zs) (hne : zs ≠ []) (hcap : zs.length ≤ cap) (_hcapm : cap ≤ maxLen) (h1 : zs.length ≤ 100) :
    Calls Try.prog 8 #[.slice o zs.length cap, .int .i64 cut] w fun e w' => e = .returned (.bool true) ∧ Below w.heap.size w w' := by
  have HAL := Lib.hid (fun W => alive_any W)
  obtain ⟨n, hn⟩ : ∃ n, zs.length = n := ⟨_, rfl⟩
  have HN := Lib.hid hn
  have hn1 : 1 ≤ n := by rw [← hn]; exact List.length_pos_iff.2 hne
  have HNE := Lib.hid hne
  rw [hn] at h1 hcap ⊢
  unfold maxLen at _hcapm
  have t0 : ((n : Int) == 0) = false := beq_eq_false_iff_ne.2 (by omega)
  have i1 : (n : Int) ≤ 100 := by omega
  have i2 : (1 : Int) ≤ n := by omega
  have HS := Lib.hid hS
  obtain ⟨b, off, rfl, _, hc⟩ := hS.resolve_left hne
  clear hS hc hn hne
  go_enter Try.func8, Try.ntmps8
  go_wp2_with fail
  refine (HAL.out _).mono ?_
  rintro e w1 ⟨rfl, b1⟩
  have HB1 := Lib.hid b1
  clear b1
  go_wp2_with fail
  go_loop [5] (fun v5 => ∃ k : Nat, v5 = .int .i64 k ∧ k ≤ n ∧ Hid (∀ z ∈ zs.take k, small z)) (fun v5 => n - (intOf v5).toNat)
  case atStart => exact ⟨0, rfl, Nat.zero_le _, Lib.hid (fun z hz => by simp at hz)⟩
  case round =>
    obtain ⟨k, rfl, hk, H⟩ := hrel
    by_cases hkn : k < n
    · have j1 : (k : Int) < n := by omega
      obtain ⟨x, hx⟩ := get_lt HN.out hkn
      have c1 : w1.cell? ⟨b, off + k, none⟩ = some (.int .i64 x) := by
        obtain ⟨b', off', e, hc⟩ := (HS.out.below HB1.out).at hx
        cases e; exact hc
      have HX := Lib.hid hx
      clear hx
      by_cases x1 : 1000000000 < x
      · go_wp2
        go_ret
        exact ⟨rfl, HB1.out⟩
      by_cases x2 : x < -1000000000
      · have x3 : x ≤ 1000000000 := by omega
        clear x1
        go_wp2
        go_ret
        exact ⟨rfl, HB1.out⟩
      have x3 : x ≤ 1000000000 := by omega
      have x4 : -1000000000 ≤ x := by omega
      clear x1 x2
      have H2 := Lib.hid (show ∀ z ∈ zs.take (k + 1), small z by
        intro z hz; rw [take_at HX.out] at hz
        rcases List.mem_append.1 hz with h | h
        · exact H.out z h
        · rw [List.mem_singleton.1 h]; exact ⟨x4, x3⟩)
      go_wp2
      go_round
      case rel => exact ⟨k + 1, by go_num, by omega, H2⟩
      case measure => simp [intOf]; omega
    · obtain rfl : k = n := by omega
      have hall : ∀ z ∈ zs, small z := by
        have := H.out
        rwa [List.take_of_length_le (by rw [HN.out]; exact Nat.le_refl _)] at this
      obtain ⟨r, hr⟩ : ∃ r, cut.tmod ((k : Int) + 1) = r := ⟨_, rfl⟩
      have hr1 : -(k : Int) ≤ r ∧ r ≤ k := by
        have : (cut.tmod ((k : Int) + 1)).natAbs < ((k : Int) + 1).natAbs := by rw [Int.natAbs_tmod]; exact Nat.mod_lt _ (by omega)
        omega
      obtain ⟨K, hK⟩ : ∃ K : Nat, (r + (k : Int) + 1) % ((k : Int) + 1) = K := ⟨((r + (k : Int) + 1) % ((k : Int) + 1)).toNat, by have := Int.emod_nonneg (r + (k : Int) + 1) (show (k : Int) + 1 ≠ 0 by omega); omega⟩
      have hK2 : (K : Int) ≤ k := by
        have := Int.emod_lt_of_pos (r + (k : Int) + 1) (show 0 < (k : Int) + 1 by omega)
        omega
      obtain ⟨r1, r2⟩ := hr1
      have hKn : K ≤ k := by omega
      have s1 := sum_small (zs := zs.take K) (fun z hz => hall z (List.mem_of_mem_take hz)) (by rw [List.length_take]; omega)
      have s2 := sum_small (zs := zs.drop K) (fun z hz => hall z (List.mem_of_mem_drop hz)) (by rw [List.length_drop, HN.out]; omega)
      have s3 := sum_small hall (by rw [HN.out]; exact h1)
      have s4 := mean_small HNE.out hall (by rw [HN.out]; exact h1)
      have hsum : (zs.take K).sum + (zs.drop K).sum = zs.sum := by rw [← List.sum_append, List.take_append_drop]
      obtain ⟨b1, b2⟩ := small_sum zs hall
      obtain ⟨b3, b4⟩ := small_sum (zs.take K) (fun z hz => hall z (List.mem_of_mem_take hz))
      obtain ⟨b5, b6⟩ := small_sum (zs.drop K) (fun z hz => hall z (List.mem_of_mem_drop hz))
      obtain ⟨z, hz⟩ : ∃ z, zs[0]? = some z := get_lt HN.out (by omega)
      have hzm := List.mem_of_getElem? hz
      have e0 : rankF 0 zs = (zs.foldl min z, true) := by rw [rank_is HNE.out (by omega) (by omega), place_zero, least_is HNE.out hzm]
      have e1 : rankF 100 zs = (zs.foldl max z, true) := by rw [rank_is HNE.out (by omega) (by omega), place_full (by rw [HN.out]; exact hn1), most_is HNE.out hzm]
      obtain ⟨_, m1, m2⟩ := foldl_min_le zs z
      obtain ⟨_, m3, m4⟩ := foldl_max_le zs z
      have l1 : small (zs.foldl min z) := by rcases m2 with m2 | m2; rw [m2]; exact hall z hzm; exact hall _ m2
      have l2 : small (zs.foldl max z) := by rcases m4 with m4 | m4; rw [m4]; exact hall z hzm; exact hall _ m4
      have hb2 := sum_between _ _ zs (fun x hx => ⟨m1 x hx, m3 x hx⟩)
      rw [HN.out] at hb2 s4 b1 b2
      rw [List.length_take, HN.out] at b3 b4
      rw [List.length_drop, HN.out] at b5 b6
      obtain ⟨g1, g2⟩ := tdiv_between (by omega) hb2.1 hb2.2
      have H1 := Lib.hid (sum_call (cap := cap) (o := some ⟨b, off, none⟩) (n := K) (w0 := w) (by rw [List.length_take, HN.out]; omega) (by omega) (HS.out.take K) s1)
      have H2 := Lib.hid (fun (o : Option Addr) (c : Nat) (h : SeesI w o (zs.drop K)) => sum_call (cap := c) (n := k - K) (w0 := w) (by rw [List.length_drop, HN.out]) (by omega) h s2)
      have H3 := Lib.hid (sum_call (cap := cap) HN.out (by omega) HS.out s3)
      have H4 := Lib.hid (mean_call (cap := cap) HN.out (by omega) HS.out s4)
      have H5 := Lib.hid (rank_call (cap := cap) HN.out (by omega) HS.out e0)
      have H6 := Lib.hid (rank_call (cap := cap) HN.out (by omega) HS.out e1)
      have HDR := Lib.hid (show SeesI w (some ⟨b, off + K, none⟩) (zs.drop K) from HS.out.drop K)
      have HD0 := Lib.hid (fun (h : K = k) => (show SeesI w (some ⟨b, off, none⟩) (zs.drop K) from .inl (List.drop_eq_nil_of_le (by rw [HN.out, h]; exact Nat.le_refl _))))
      clear s1 s2 s3 s4 e0 e1 m1 m2 m3 m4 hb2 hall hz hzm H
      generalize zs.sum = sm at *
      generalize (zs.take K).sum = sa at *
      generalize (zs.drop K).sum = sb at *
      generalize zs.foldl min z = lo at *
      generalize zs.foldl max z = hi at *
      generalize hqd : sm.tdiv (k : Int) = md at *
      obtain ⟨l1, l3⟩ := l1
      obtain ⟨l2, l4⟩ := l2
      have t1 : (sa + sb == sm) = true := by simpa using hsum
      have y1 : -200000000000 ≤ sa + sb := by omega
      have y2 : sa + sb ≤ 200000000000 := by omega
      have HSUM := Lib.hid hsum
      clear hsum
      go_wp2_with fail
      refine (H1.out _ HB1).mono ?_
      rintro e w' ⟨rfl, rfl⟩
      go_wp2_with fail
      all_goals
        first
        | (subst h; refine (H2.out _ _ (HD0.out (by omega)) _ HB1).mono ?_)
        | refine (H2.out _ _ HDR.out _ HB1).mono ?_
        rintro e w' ⟨rfl, rfl⟩
        go_wp2_with fail
        refine (H3.out _ HB1).mono ?_
        rintro e w' ⟨rfl, rfl⟩
        go_wp2_with fail
        refine (H4.out _ HB1).mono ?_
        rintro e w' ⟨rfl, rfl⟩
        go_wp2_with fail
        refine (H5.out _ HB1).mono ?_
        rintro e w2 ⟨rfl, b2⟩
        have HB2 := Lib.hid (HB1.out.trans (b2.mono HB1.out.size))
        clear b2
        go_wp2_with fail
        refine (H6.out _ HB2).mono ?_
        rintro e w3 ⟨rfl, b3⟩
        have HB3 := Lib.hid (HB2.out.trans (b3.mono HB2.out.size))
        clear b3
        go_wp2
        go_ret
        exact ⟨by first | rfl | simp, HB3.out⟩
end Go.Proofs.Ytooibjanlmlidaa
