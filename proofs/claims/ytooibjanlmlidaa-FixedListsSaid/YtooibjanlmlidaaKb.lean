/- The walk of the law on numbers at places. -/
import Derived.Test.YtooibjanlmlidaaKa
import Derived.Deep.QuietTactic
import Derived.BigQuiet
import Derived.Deep.DeepMust
namespace Go.Proofs.Ytooibjanlmlidaa
open Go.RowKit

theorem drewN_below (w : World) (n : Nat) : Below w.heap.size w (w.drewN n) := ⟨rfl, rfl, rfl, Nat.le_refl _, fun _ _ => rfl⟩
/-- A call of Rank whose answer is known. -/
theorem rank_call {p x : Int} {o : Option Addr} {cap n : Nat} {zs : List Int} {w0 : World} (hn : zs.length = n) (hm : n ≤ 1000) (hS : SeesI w0 o zs) (h : rankF p zs = (x, true)) (W : World) (hb : Hid (Below w0.heap.size w0 W)) :
    Calls Try.prog 22 #[.int .i64 p, .slice o n cap] W fun e w' => e = .returned (.tuple #[.int .i64 x, .bool true]) ∧ Below W.heap.size W w' := by
  subst hn
  have := rank_any p o cap zs W hm (hS.below hb.out)
  rw [h] at this
  exact this

set_option maxHeartbeats 8000000 in
set_option maxRecDepth 100000 in
theorem ranks_none (o : Option Addr) (cap n : Nat) (p q : Int) (hm : n ≤ maxLen) (h : n = 0 ∨ 200 < n ∨ p < 0 ∨ q < p ∨ 100 < q) (w : World) : Calls Try.prog 6 #[.slice o n cap, .int .i64 p, .int .i64 q] w fun e w' => e = .returned (.bool true) ∧ Below w.heap.size w w' := by
  have HAL := Lib.hid (fun W => alive_any W)
  unfold maxLen at hm
  by_cases h0 : n = 0
  · subst h0
    clear h
    go_enter Try.func6, Try.ntmps6
    go_wp2_with fail
    refine (HAL.out _).mono ?_
    rintro e w1 ⟨rfl, b1⟩
    have HB1 := Lib.hid b1
    clear b1
    go_wp2
    go_ret
    exact ⟨rfl, HB1.out⟩
  have t0 : ((n : Int) == 0) = false := beq_eq_false_iff_ne.2 (by omega)
  by_cases h1 : 200 < n
  · have i1 : (200 : Int) < n := by omega
    clear h h0 h1
    go_enter Try.func6, Try.ntmps6
    go_wp2_with fail
    refine (HAL.out _).mono ?_
    rintro e w1 ⟨rfl, b1⟩
    have HB1 := Lib.hid b1
    clear b1
    go_wp2
    go_ret
    exact ⟨rfl, HB1.out⟩
  have i1 : (n : Int) ≤ 200 := by omega
  by_cases h2 : p < 0
  · clear h h0 h1
    go_enter Try.func6, Try.ntmps6
    go_wp2_with fail
    refine (HAL.out _).mono ?_
    rintro e w1 ⟨rfl, b1⟩
    have HB1 := Lib.hid b1
    clear b1
    go_wp2
    go_ret
    exact ⟨rfl, HB1.out⟩
  have i2 : 0 ≤ p := by omega
  by_cases h3 : q < p
  · clear h h0 h1 h2
    go_enter Try.func6, Try.ntmps6
    go_wp2_with fail
    refine (HAL.out _).mono ?_
    rintro e w1 ⟨rfl, b1⟩
    have HB1 := Lib.hid b1
    clear b1
    go_wp2
    go_ret
    exact ⟨rfl, HB1.out⟩
  have i3 : p ≤ q := by omega
  have i4 : 100 < q := by omega
  clear h h0 h1 h2 h3
  go_enter Try.func6, Try.ntmps6
  go_wp2_with fail
  refine (HAL.out _).mono ?_
  rintro e w1 ⟨rfl, b1⟩
  have HB1 := Lib.hid b1
  clear b1
  go_wp2
  go_ret
  exact ⟨rfl, HB1.out⟩

set_option maxHeartbeats 8000000 in
set_option maxRecDepth 100000 in
theorem ranks_all (o : Option Addr) (cap : Nat) (zs : List Int) (p q : Int) (w : World) (hS : SeesI w o zs) (hne : zs ≠ []) (h1 : zs.length ≤ 200) (h2 : 0 ≤ p) (h3 : p ≤ q) (h4 : q ≤ 100) :
    Calls Try.prog 6 #[.slice o zs.length cap, .int .i64 p, .int .i64 q] w fun e w' => e = .returned (.bool true) ∧ Below w.heap.size w w' := by
  have HAL := Lib.hid (fun W => alive_any W)
  obtain ⟨n, hn⟩ : ∃ n, zs.length = n := ⟨_, rfl⟩
  have HN := Lib.hid hn
  obtain ⟨z, hz⟩ : ∃ z, zs[0]? = some z := get_lt hn (by have := List.length_pos_iff.2 hne; omega)
  have hzm := List.mem_of_getElem? hz
  have e0 : rankF 0 zs = (zs.foldl min z, true) := by rw [rank_is hne (by omega) (by omega), place_zero, least_is hne hzm]
  have e1 : rankF 100 zs = (zs.foldl max z, true) := by rw [rank_is hne (by omega) (by omega), place_full (List.length_pos_iff.2 hne), most_is hne hzm]
  have hmem := rank_mem (p := p) hne h2 (by omega)
  have hmono := rank_mono hne h2 h3 h4
  have hcount := count_place (p := p) hne h2 (by omega)
  obtain ⟨A, hA⟩ : ∃ A, rankF p zs = (A, true) := ⟨_, rank_is hne h2 (by omega)⟩
  obtain ⟨B, hB⟩ : ∃ B, rankF q zs = (B, true) := ⟨_, rank_is hne (by omega) h4⟩
  rw [hA] at hmem hmono hcount
  rw [hB] at hmono
  rw [hn] at hcount h1 ⊢
  dsimp only at hmem hmono hcount
  have H1 := Lib.hid (rank_call (cap := cap) hn (by omega) hS hA)
  have H2 := Lib.hid (rank_call (cap := cap) hn (by omega) hS hB)
  have H3 := Lib.hid (rank_call (cap := cap) hn (by omega) hS e0)
  have H4 := Lib.hid (rank_call (cap := cap) hn (by omega) hS e1)
  have hn1 : 1 ≤ n := by rw [← hn]; exact List.length_pos_iff.2 hne
  have t0 : ((n : Int) == 0) = false := beq_eq_false_iff_ne.2 (by omega)
  have i1 : (n : Int) ≤ 200 := by omega
  have hqn : 0 ≤ p * n ∧ p * n ≤ 20000 := by
    obtain ⟨u, rfl⟩ : ∃ u : Nat, p = u := ⟨p.toNat, by omega⟩
    have hu : ((u * n : Nat) : Int) = (u : Int) * n := Int.natCast_mul u n
    have := Nat.mul_le_mul (show u ≤ 100 by omega) h1
    omega
  obtain ⟨q1, q2⟩ := hqn
  have HMEM := Lib.hid hmem
  have HCNT := Lib.hid hcount
  have HS := Lib.hid hS
  obtain ⟨b, off, rfl, _, hc⟩ := hS.resolve_left hne
  have HZ := Lib.hid hz
  clear hn hz hzm e0 e1 hmem hcount hA hB hS hne hc
  go_enter Try.func6, Try.ntmps6
  go_wp2_with fail
  refine (HAL.out _).mono ?_
  rintro e w1 ⟨rfl, b1⟩
  have HB1 := Lib.hid b1
  clear b1
  go_wp2_with fail
  refine (H1.out _ HB1).mono ?_
  rintro e w2 ⟨rfl, b2⟩
  have HB2 := Lib.hid (HB1.out.trans (b2.mono HB1.out.size))
  clear b2
  go_wp2_with fail
  refine (H2.out _ HB2).mono ?_
  rintro e w3 ⟨rfl, b3⟩
  have HB3 := Lib.hid (HB2.out.trans (b3.mono HB2.out.size))
  clear b3
  go_wp2_with fail
  refine (H3.out _ HB3).mono ?_
  rintro e w4 ⟨rfl, b4⟩
  have HB4 := Lib.hid (HB3.out.trans (b4.mono HB3.out.size))
  clear b4
  go_wp2_with fail
  refine (H4.out _ HB4).mono ?_
  rintro e w5 ⟨rfl, b5⟩
  have HB5 := Lib.hid (HB4.out.trans (b5.mono HB4.out.size))
  clear b5
  have c0 : w5.cell? ⟨b, off, none⟩ = some (.int .i64 z) := by
    obtain ⟨b', off', e, hc⟩ := (HS.out.below HB5.out).at HZ.out
    cases e; exact hc
  go_wp2_with fail
  go_quiet (fail)
  have HB6 := Lib.hid (show Below w.heap.size w (w5.drewN nq) from HB5.out.trans ((drewN_below w5 nq).mono HB5.out.size))
  clear c0 HB1 HB2 HB3 HB4 HB5 H1 H2 H3 H4 HAL
  go_wp2_with fail
  go_loopw [15, 16, 17, 18, 19] (fun v15 v16 v17 v18 v19 wr => ∃ (k : Nat) (lo hi : Int) (ib : Bool) (c : Nat), v19 = .int .i64 k ∧ k ≤ n ∧ v15 = .int .i64 lo ∧ v16 = .int .i64 hi ∧ v17 = .bool ib ∧ v18 = .int .i64 c ∧ c ≤ k ∧ Hid (lo = (zs.take k).foldl min z ∧ hi = (zs.take k).foldl max z ∧ ib = (zs.take k).any (fun x => x == A) ∧ c = (zs.take k).countP (fun x => decide (x ≤ A))) ∧ Hid (Below w.heap.size w wr)) (fun _ _ _ _ v19 _ => n - (intOf v19).toNat)
  case atStart => exact ⟨0, z, z, false, 0, rfl, Nat.zero_le _, rfl, rfl, rfl, rfl, Nat.le_refl _, ⟨by simp, by simp, by simp, by simp⟩, HB6⟩
  case round =>
    obtain ⟨k, lo, hi, ib, c, rfl, hk, rfl, rfl, rfl, rfl, hck, H, HB⟩ := hrel
    by_cases hkn : k < n
    · have j1 : (k : Int) < n := by omega
      have j0 : (0 : Int) ≤ k := by omega
      obtain ⟨x, hx⟩ := get_lt HN.out hkn
      have c1 : wr.cell? ⟨b, off + k, none⟩ = some (.int .i64 x) := by
        obtain ⟨b', off', e, hc⟩ := (HS.out.below HB.out).at hx
        cases e; exact hc
      have HT := Lib.hid (take_at hx)
      clear hx
      have HR := Lib.hid (show min lo x = (zs.take (k + 1)).foldl min z ∧ max hi x = (zs.take (k + 1)).foldl max z ∧ (ib || x == A) = (zs.take (k + 1)).any (fun x => x == A) ∧ (if x ≤ A then c + 1 else c) = (zs.take (k + 1)).countP (fun x => decide (x ≤ A)) by
        obtain ⟨h1, h2, h3, h4⟩ := H.out
        rw [HT.out]
        refine ⟨by rw [h1]; simp, by rw [h2]; simp, by rw [h3]; simp, ?_⟩
        rw [h4, List.countP_append]
        by_cases h : x ≤ A <;> simp [h])
      go_wp2_with fail
      go_quiet (fail)
      have HBq := Lib.hid (show Below w.heap.size w (wr.drewN nq) from HB.out.trans ((drewN_below wr nq).mono HB.out.size))
      clear H HT
      rcases Int.lt_trichotomy x A with hxa | hxa | hxa
      · have u1 : (x == A) = false := by simp; omega
        have u2 : decide (x ≤ A) = true := by simp; omega
        rw [if_pos (by omega)] at HR
        rw [u1, Bool.or_false] at HR
        cases ib
        all_goals
          go_wp2
          go_roundw
          case rel => exact ⟨k + 1, _, _, _, c + 1, by go_num, by omega, rfl, rfl, rfl, by first | rfl | go_num, by omega, HR, HBq⟩
          case measure => simp [intOf]; omega
      · subst hxa
        rw [if_pos (by omega)] at HR
        rw [show (x == x) = true by simp, Bool.or_true] at HR
        cases ib
        all_goals
          go_wp2
          go_roundw
          case rel => exact ⟨k + 1, _, _, true, c + 1, by go_num, by omega, rfl, rfl, rfl, by first | rfl | go_num, by omega, HR, HBq⟩
          case measure => simp [intOf]; omega
      · have u1 : (x == A) = false := by simp; omega
        have u2 : decide (x ≤ A) = false := by simp; omega
        rw [if_neg (by omega)] at HR
        rw [u1, Bool.or_false] at HR
        cases ib
        all_goals
          go_wp2
          go_roundw
          case rel => exact ⟨k + 1, _, _, _, c, by go_num, by omega, rfl, rfl, rfl, by first | rfl | go_num, by omega, HR, HBq⟩
          case measure => simp [intOf]; omega
    · obtain rfl : k = n := by omega
      have e : zs.take k = zs := List.take_of_length_le (by rw [HN.out]; exact Nat.le_refl _)
      have hH := H.out
      rw [e] at hH
      obtain ⟨rfl, rfl, rfl, rfl⟩ := hH
      have hin : (zs.any fun x => x == A) = true := List.any_eq_true.2 ⟨A, HMEM.out, by simp⟩
      have hct := HCNT.out
      rw [hin]
      clear hin e H
      generalize zs.countP (fun x => decide (x ≤ A)) = c at hct hck ⊢
      generalize zs.foldl min z = lo
      generalize zs.foldl max z = hi
      go_wp2
      go_ret
      exact ⟨by first | rfl | simp, HB.out⟩
end Go.Proofs.Ytooibjanlmlidaa
