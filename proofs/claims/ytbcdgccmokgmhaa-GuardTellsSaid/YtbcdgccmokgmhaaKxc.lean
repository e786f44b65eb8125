/- The book of lists, third part: a copy of a list; are two lists alike. -/
import Derived.Test.YtbcdgccmokgmhaaKxb
import Derived.BigQuiet
import Derived.Deep.QuietTactic
namespace Go.Proofs.Ytbcdgccmokgmhaa.BkX
open Go.RowKit

set_option maxHeartbeats 2000000 in
set_option maxRecDepth 100000 in
theorem copyRunes_any (v : Value) (B : Nat) (xs : List El) (hx : xs.length ≤ 1000000000) (w : World) (h : w.ownsRow B 9 1 v xs.length (flatE xs)) :
    Calls Try.prog 25 #[v] w fun e w' => Spelt w.heap.size xs e w' ∧ Below w.heap.size w w' := by
  obtain ⟨i0, hi, hz0, hz1, hz2⟩ := info_parts infoE
  rcases own_open h with ⟨rfl, h0, _⟩ | ⟨g, cap, rfl, _, hg, hc, hm, hcell⟩
  · have h0 : xs = [] := List.eq_nil_of_length_eq_zero h0
    subst h0
    go_enter Try.func25, Try.ntmps25
    go_wp2
    go_ret
    exact ⟨⟨_, rfl, World.ownsRow_nil _ _ _ _⟩, Below.refl _ _⟩
  · have hone := flatE_cells xs
    have hnews : ∀ j u, (flatE xs)[j]? = some u → w.cell? ((⟨g, 0, none⟩ : Addr).add j) = some u := by
      intro j u hu
      have e : ((⟨g, 0, none⟩ : Addr).add j) = ⟨g, j, none⟩ := by simp [Addr.add]; intro h; exact h.symm
      rw [e]; exact hcell j u hu
    clear hcell
    go_enter Try.func25, Try.ntmps25
    go_wp2_with (at_builtin; go_must (refine wpList_append_own _ rfl _ _ 31 rfl w.heap.size 9 i0 (.string ⟨#[]⟩) 1 16 Try.underlying31 hi hz0 hz1 hz2 rfl (by decide) _ 0 [] rfl (World.ownsRow_nil _ _ _ _) ⟨g, 0, none⟩ xs.length cap (flatE xs) rfl (flatE_len xs) hnews hone (by unfold maxLen; omega) (by omega) (Nat.le_refl _) ?_); intro v' w3 hown' hgrow3 hnil3)
    have hg3 : w.grownBy w3 none := hgrow3
    clear hnil3 hgrow3
    go_ret
    refine ⟨⟨_, rfl, ?_⟩, Below.grown (Below.refl _ _) hg3 (Nat.le_refl _) (fun j hj => by cases hj)⟩
    simpa using hown'

set_option maxHeartbeats 2000000 in
set_option maxRecDepth 100000 in
theorem sameRunes_any (va vb : Value) (B C : Nat) (xs : List El) (hxm : xs.length ≤ 1000000000) (w : World) (ha : w.ownsRow B 9 1 va xs.length (flatE xs)) (hb : w.ownsRow C 9 1 vb xs.length (flatE xs)) :
    Calls Try.prog 17 #[va, vb] w fun e w' => e = .returned (.bool true) ∧ ∃ m, w' = w.drewN m := by
  rcases own_open ha with ⟨rfl, h0, _⟩ | ⟨g, cap, rfl, _, _, _, _, hca⟩
  · have h0 : xs = [] := List.eq_nil_of_length_eq_zero h0
    subst h0
    have hvb : ∃ o c, vb = .slice o 0 c := by
      rcases own_open hb with ⟨rfl, _, _⟩ | ⟨g, cap, rfl, _, _, _, _, _⟩
      · exact ⟨_, _, rfl⟩
      · exact ⟨_, _, rfl⟩
    obtain ⟨o, c, rfl⟩ := hvb
    clear ha hb
    go_enter Try.func17, Try.ntmps17
    go_wp2
    go_loopw [5] (fun vi wr => vi = .int .i64 0 ∧ wr = w) (fun _ _ => 0)
    case atStart => exact ⟨rfl, rfl⟩
    case round =>
      obtain ⟨rfl, rfl⟩ := hrel
      go_wp2
      go_ret
      exact ⟨rfl, 0, rfl⟩
  · rcases own_open hb with ⟨rfl, h0, _⟩ | ⟨g2, cap2, rfl, _, _, _, _, hcb⟩
    · have h0 : xs = [] := List.eq_nil_of_length_eq_zero h0
      subst h0
      clear ha hb hca
      go_enter Try.func17, Try.ntmps17
      go_wp2
      go_loopw [5] (fun vi wr => vi = .int .i64 0 ∧ wr = w) (fun _ _ => 0)
      case atStart => exact ⟨rfl, rfl⟩
      case round =>
        obtain ⟨rfl, rfl⟩ := hrel
        go_wp2
        go_ret
        exact ⟨rfl, 0, rfl⟩
    · obtain ⟨n, hn⟩ : ∃ n, xs.length = n := ⟨_, rfl⟩
      have HN := Lib.hid hn
      rw [hn] at hxm ⊢
      clear hn ha hb
      go_enter Try.func17, Try.ntmps17
      go_wp2
      go_loopw [5] (fun vi wr => ∃ (k m : Nat), vi = .int .i64 k ∧ wr = w.drewN m ∧ k ≤ n) (fun vi _ => n - (intOf vi).toNat)
      case atStart => exact ⟨0, 0, rfl, rfl, Nat.zero_le _⟩
      case round =>
        obtain ⟨k, m, rfl, rfl, hk⟩ := hrel
        by_cases hkn : k < n
        · have i1 : (k : Int) < n := by omega
          obtain ⟨x, hx⟩ : ∃ x, xs[k]? = some x := ⟨_, List.getElem?_eq_getElem (by have := HN.out; omega)⟩
          have a0 : ∀ n, (w.drewN n).cell? ⟨g, k, none⟩ = some (.string x) := fun n => hca _ _ (by have hh := flatE_at xs k x hx 0 _ rfl; rwa [Nat.mul_one, Nat.add_zero] at hh)
          have b0 : ∀ n, (w.drewN n).cell? ⟨g2, k, none⟩ = some (.string x) := fun n => hcb _ _ (by have hh := flatE_at xs k x hx 0 _ rfl; rwa [Nat.mul_one, Nat.add_zero] at hh)
          clear hx hca hcb
          go_wp2_with fail
          have hq : True := trivial
          have hS : True := trivial
          have hp : True := trivial
          have hr : (x.toList == x.toList) = true := beq_self_eq_true _
          go_quiet (fail)
          clear hq hS hp hr
          go_wp2
          go_roundw
          case rel => exact ⟨k + 1, _, by go_num, rfl, by omega⟩
          case measure => simp [intOf]; omega
        · have i1 : (n : Int) ≤ k := by omega
          go_wp2
          go_ret
          exact ⟨rfl, m, rfl⟩
end Go.Proofs.Ytbcdgccmokgmhaa.BkX
