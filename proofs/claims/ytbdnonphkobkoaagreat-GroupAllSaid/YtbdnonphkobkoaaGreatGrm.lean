/- The least and the greatest of numbers. -/
import Derived.Test.YtbdnonphkobkoaaGreatFf
namespace Go.Proofs.YtbdnonphkobkoaaGreat.Win
open Go.RowKit Go.Lib Fix
def minL : List Int → Int
  | [] => 0
  | x :: xs => xs.foldl min x
def maxL : List Int → Int
  | [] => 0
  | x :: xs => xs.foldl max x
theorem foldl_min : ∀ (xs : List Int) (a : Int), xs.foldl min a ≤ a ∧ (∀ x ∈ xs, xs.foldl min a ≤ x) ∧ (xs.foldl min a = a ∨ xs.foldl min a ∈ xs)
  | [], a => by simp
  | y :: ys, a => by
    obtain ⟨h1, h2, h3⟩ := foldl_min ys (min a y)
    rw [List.foldl_cons]
    refine ⟨by omega, fun x hx => ?_, ?_⟩
    · rcases List.mem_cons.1 hx with rfl | hx
      · omega
      · exact h2 x hx
    · rcases h3 with h3 | h3
      · rw [h3]
        by_cases h : a ≤ y
        · exact .inl (by omega)
        · exact .inr (List.mem_cons.2 (.inl (by omega)))
      · exact .inr (List.mem_cons_of_mem _ h3)
theorem foldl_max : ∀ (xs : List Int) (a : Int), a ≤ xs.foldl max a ∧ (∀ x ∈ xs, x ≤ xs.foldl max a) ∧ (xs.foldl max a = a ∨ xs.foldl max a ∈ xs)
  | [], a => by simp
  | y :: ys, a => by
    obtain ⟨h1, h2, h3⟩ := foldl_max ys (max a y)
    rw [List.foldl_cons]
    refine ⟨by omega, fun x hx => ?_, ?_⟩
    · rcases List.mem_cons.1 hx with rfl | hx
      · omega
      · exact h2 x hx
    · rcases h3 with h3 | h3
      · rw [h3]
        by_cases h : y ≤ a
        · exact .inl (by omega)
        · exact .inr (List.mem_cons.2 (.inl (by omega)))
      · exact .inr (List.mem_cons_of_mem _ h3)
theorem min_le {l : List Int} : ∀ x ∈ l, minL l ≤ x := by
  cases l with
  | nil => intro x hx; simp at hx
  | cons y ys =>
    intro x hx
    obtain ⟨h1, h2, _⟩ := foldl_min ys y
    rcases List.mem_cons.1 hx with rfl | hx
    · exact h1
    · exact h2 x hx
theorem le_max {l : List Int} : ∀ x ∈ l, x ≤ maxL l := by
  cases l with
  | nil => intro x hx; simp at hx
  | cons y ys =>
    intro x hx
    obtain ⟨h1, h2, _⟩ := foldl_max ys y
    rcases List.mem_cons.1 hx with rfl | hx
    · exact h1
    · exact h2 x hx
theorem min_mem {l : List Int} (h : l ≠ []) : minL l ∈ l := by
  cases l with
  | nil => exact absurd rfl h
  | cons y ys =>
    obtain ⟨_, _, h3⟩ := foldl_min ys y
    show ys.foldl min y ∈ y :: ys
    rcases h3 with h3 | h3
    · rw [h3]; exact List.mem_cons_self
    · exact List.mem_cons_of_mem _ h3
theorem max_mem {l : List Int} (h : l ≠ []) : maxL l ∈ l := by
  cases l with
  | nil => exact absurd rfl h
  | cons y ys =>
    obtain ⟨_, _, h3⟩ := foldl_max ys y
    show ys.foldl max y ∈ y :: ys
    rcases h3 with h3 | h3
    · rw [h3]; exact List.mem_cons_self
    · exact List.mem_cons_of_mem _ h3
theorem minL_snoc {l : List Int} (x : Int) (h : l ≠ []) : minL (l ++ [x]) = min (minL l) x := by
  cases l with
  | nil => exact absurd rfl h
  | cons y ys => simp [minL, List.foldl_append]
theorem maxL_snoc {l : List Int} (x : Int) (h : l ≠ []) : maxL (l ++ [x]) = max (maxL l) x := by
  cases l with
  | nil => exact absurd rfl h
  | cons y ys => simp [maxL, List.foldl_append]
theorem take_ne {zs : List Int} {k : Nat} {x : Int} (h : zs[k]? = some x) (hk : 0 < k) : zs.take k ≠ [] := by
  intro e
  rcases List.take_eq_nil_iff.1 e with e | e
  · omega
  · rw [e] at h; simp at h
theorem minL_step {zs : List Int} {k : Nat} {x : Int} (h : zs[k]? = some x) (hk : 0 < k) : minL (zs.take (k + 1)) = min (minL (zs.take k)) x := by
  rw [take_at h]; exact minL_snoc x (take_ne h hk)
theorem maxL_step {zs : List Int} {k : Nat} {x : Int} (h : zs[k]? = some x) (hk : 0 < k) : maxL (zs.take (k + 1)) = max (maxL (zs.take k)) x := by
  rw [take_at h]; exact maxL_snoc x (take_ne h hk)
theorem minL_one {zs : List Int} {x : Int} (h : zs[0]? = some x) : minL (zs.take 1) = x := by
  cases zs with
  | nil => simp at h
  | cons y ys => simp at h; subst h; rfl
theorem maxL_one {zs : List Int} {x : Int} (h : zs[0]? = some x) : maxL (zs.take 1) = x := by
  cases zs with
  | nil => simp at h
  | cons y ys => simp at h; subst h; rfl

set_option maxHeartbeats 1000000 in
set_option maxRecDepth 100000 in
theorem min_any (o : Option Addr) (cap : Nat) (zs : List Int) (w : World) (hm : zs.length ≤ maxLen) (h0 : zs ≠ []) (hS : SeesI w o zs) :
    Calls Tryz.prog 165 #[.slice o zs.length cap] w fun e w' => e = .returned (.int .i64 (minL zs)) ∧ w' = w := by
  obtain ⟨n, hn⟩ : ∃ n, zs.length = n := ⟨_, rfl⟩
  have HN := Lib.hid hn
  unfold maxLen at hm
  have hn0 : 0 < n := by rw [← hn]; exact List.length_pos_iff.2 h0
  rw [hn] at hm ⊢
  have i1 : ¬ ((n : Int) < 1) := by omega
  have HS := Lib.hid hS
  obtain ⟨x0, hx0⟩ := Fix.get_lt hn hn0
  obtain ⟨b, off, rfl, c0⟩ := hS.at hx0
  rw [Nat.add_zero] at c0
  have H0 := Lib.hid (minL_one hx0)
  clear hS hn h0 hx0
  go_enter Tryz.func165, Tryz.ntmps165
  go_wp2
  go_loop [3, 4] (fun v3 v4 => ∃ k : Nat, v4 = .int .i64 k ∧ 0 < k ∧ k ≤ n ∧ v3 = .int .i64 (minL (zs.take k))) (fun _ v4 => n - (intOf v4).toNat)
  case atStart => exact ⟨1, rfl, Nat.one_pos, hn0, by rw [H0.out]⟩
  case round =>
    obtain ⟨k, rfl, hk0, hk, rfl⟩ := hrel
    by_cases hkn : k < n
    · have j1 : (k : Int) < n := by omega
      obtain ⟨x, hx⟩ := Fix.get_lt HN.out hkn
      obtain ⟨b', off', e, hc⟩ := HS.out.at hx
      cases e
      have HX := Lib.hid (minL_step hx hk0)
      clear hx
      go_wp2
      go_round
      case rel => exact ⟨k + 1, by go_num, by omega, by omega, by rw [HX.out]; congr 1; split <;> omega⟩
      case measure => simp [intOf]; omega
    · obtain rfl : k = n := by omega
      have H2 := Lib.hid (show minL (zs.take k) = minL zs by rw [List.take_of_length_le (by rw [HN.out]; exact Nat.le_refl _)])
      go_wp2
      go_ret
      exact ⟨ret_int H2.out, rfl⟩

set_option maxHeartbeats 1000000 in
set_option maxRecDepth 100000 in
theorem max_any (o : Option Addr) (cap : Nat) (zs : List Int) (w : World) (hm : zs.length ≤ maxLen) (h0 : zs ≠ []) (hS : SeesI w o zs) :
    Calls Tryz.prog 166 #[.slice o zs.length cap] w fun e w' => e = .returned (.int .i64 (maxL zs)) ∧ w' = w := by
  obtain ⟨n, hn⟩ : ∃ n, zs.length = n := ⟨_, rfl⟩
  have HN := Lib.hid hn
  unfold maxLen at hm
  have hn0 : 0 < n := by rw [← hn]; exact List.length_pos_iff.2 h0
  rw [hn] at hm ⊢
  have i1 : ¬ ((n : Int) < 1) := by omega
  have HS := Lib.hid hS
  obtain ⟨x0, hx0⟩ := Fix.get_lt hn hn0
  obtain ⟨b, off, rfl, c0⟩ := hS.at hx0
  rw [Nat.add_zero] at c0
  have H0 := Lib.hid (maxL_one hx0)
  clear hS hn h0 hx0
  go_enter Tryz.func166, Tryz.ntmps166
  go_wp2
  go_loop [3, 4] (fun v3 v4 => ∃ k : Nat, v4 = .int .i64 k ∧ 0 < k ∧ k ≤ n ∧ v3 = .int .i64 (maxL (zs.take k))) (fun _ v4 => n - (intOf v4).toNat)
  case atStart => exact ⟨1, rfl, Nat.one_pos, hn0, by rw [H0.out]⟩
  case round =>
    obtain ⟨k, rfl, hk0, hk, rfl⟩ := hrel
    by_cases hkn : k < n
    · have j1 : (k : Int) < n := by omega
      obtain ⟨x, hx⟩ := Fix.get_lt HN.out hkn
      obtain ⟨b', off', e, hc⟩ := HS.out.at hx
      cases e
      have HX := Lib.hid (maxL_step hx hk0)
      clear hx
      go_wp2
      go_round
      case rel => exact ⟨k + 1, by go_num, by omega, by omega, by rw [HX.out]; congr 1; split <;> omega⟩
      case measure => simp [intOf]; omega
    · obtain rfl : k = n := by omega
      have H2 := Lib.hid (show maxL (zs.take k) = maxL zs by rw [List.take_of_length_le (by rw [HN.out]; exact Nat.le_refl _)])
      go_wp2
      go_ret
      exact ⟨ret_int H2.out, rfl⟩


end Go.Proofs.YtbdnonphkobkoaaGreat.Win
