/- The book of lists, third part: a copy of a list; are two lists alike. -/
import Derived.Test.YtjeenanoboaaeaaGreatDoorBb
import Derived.BigQuiet
import Derived.Deep.QuietTactic
namespace Go.Proofs.YtjeenanoboaaeaaGreatDoor
open Go.RowKit

/-- A slice that the call owns, opened: its value and where its cells lie. -/
theorem own_open {B e n : Nat} {v : Value} {xs : List Value} {w : World} (h : w.ownsRow B e 1 v n xs) : (v = .slice none 0 0 ∧ n = 0 ∧ xs = []) ∨ ∃ g cap, v = .slice (some ⟨g, 0, none⟩) n cap ∧ B ≤ g ∧ g < w.heap.size ∧ n ≤ cap ∧ cap ≤ maxLen ∧ ∀ j u, xs[j]? = some u → w.cell? ⟨g, j, none⟩ = some u := by
  have hl := h.1
  rcases h.2 with ⟨rfl, h0⟩ | ⟨g, cap, cur, rfl, hg, hh, hn, hcap, hsz, htake⟩
  · subst h0
    exact .inl ⟨rfl, rfl, List.eq_nil_of_length_eq_zero (by simpa using hl)⟩
  · refine .inr ⟨g, cap, rfl, hg, (Array.getElem?_eq_some_iff.1 hh).1, hn, hcap, fun j u hu => ?_⟩
    have hj : j < xs.length := (List.getElem?_eq_some_iff.1 hu).1
    rw [h.cellAt j (by omega), hu]

set_option maxHeartbeats 2000000 in
set_option maxRecDepth 100000 in
theorem copyRunes_any (v : Value) (B : Nat) (xs : List Int) (hx : xs.length ≤ 1000000000) (w : World) (h : w.ownsRow B 21 1 v xs.length (xs.map (Value.int .i32))) :
    Calls Tryz.prog 19 #[v] w fun e w' => Spelt w.heap.size xs e w' ∧ Below w.heap.size w w' := by
  obtain ⟨i0, hi, hz0, hz1, hz2⟩ := info_parts tryd_info21
  rcases own_open h with ⟨rfl, h0, _⟩ | ⟨g, cap, rfl, _, hg, hc, hm, hcell⟩
  · have h0 : xs = [] := List.eq_nil_of_length_eq_zero h0
    subst h0
    go_enter Tryz.func19, Tryz.ntmps19
    go_wp2
    go_ret
    exact ⟨⟨_, rfl, World.ownsRow_nil _ _ _ _⟩, Below.refl _ _⟩
  · have hone : ∀ u ∈ xs.map (Value.int .i32), u.oneCell' = true := by
      intro u hu; obtain ⟨x, _, rfl⟩ := List.mem_map.1 hu; rfl
    have hnews : ∀ j u, (xs.map (Value.int .i32))[j]? = some u → w.cell? ((⟨g, 0, none⟩ : Addr).add j) = some u := by
      intro j u hu
      have e : ((⟨g, 0, none⟩ : Addr).add j) = ⟨g, j, none⟩ := by simp [Addr.add]; intro h; exact h.symm
      rw [e]; exact hcell j u hu
    clear hcell
    go_enter Tryz.func19, Tryz.ntmps19
    go_wp2_with (at_builtin; go_must (refine wpList_append_own _ rfl _ _ 23 rfl w.heap.size 21 i0 (.int .i32 0) 1 4 Tryz.underlying23 hi hz0 hz1 hz2 rfl (by decide) _ 0 [] rfl (World.ownsRow_nil _ _ _ _) ⟨g, 0, none⟩ xs.length cap (xs.map (Value.int .i32)) rfl (by simp) hnews hone (by unfold maxLen; omega) (by omega) (Nat.le_refl _) ?_); intro v' w3 hown' hgrow3 hnil3)
    have hg3 : w.grownBy w3 none := hgrow3
    clear hnil3 hgrow3
    go_ret
    refine ⟨⟨_, rfl, ?_⟩, Below.grown (Below.refl _ _) hg3 (Nat.le_refl _) (fun j hj => by cases hj)⟩
    simpa using hown'

set_option maxHeartbeats 2000000 in
set_option maxRecDepth 100000 in
theorem sameRunes_any (va vb : Value) (B C : Nat) (xs : List Int) (hxm : xs.length ≤ 1000000000) (w : World) (ha : w.ownsRow B 21 1 va xs.length (xs.map (Value.int .i32))) (hb : w.ownsRow C 21 1 vb xs.length (xs.map (Value.int .i32))) :
    Calls Tryz.prog 14 #[va, vb] w fun e w' => e = .returned (.bool true) ∧ ∃ m, w' = w.drewN m := by
  rcases own_open ha with ⟨rfl, h0, _⟩ | ⟨g, cap, rfl, _, _, _, _, hca⟩
  · have h0 : xs = [] := List.eq_nil_of_length_eq_zero h0
    subst h0
    have hvb : ∃ o c, vb = .slice o 0 c := by
      rcases own_open hb with ⟨rfl, _, _⟩ | ⟨g, cap, rfl, _, _, _, _, _⟩
      · exact ⟨_, _, rfl⟩
      · exact ⟨_, _, rfl⟩
    obtain ⟨o, c, rfl⟩ := hvb
    clear ha hb
    go_enter Tryz.func14, Tryz.ntmps14
    go_wp2
    go_loopw [5] (fun vi wr => vi = .int .i64 0 ∧ wr = w) (fun _ _ => 0)
    case atStart => exact ⟨rfl, rfl⟩
    case round =>
      obtain ⟨rfl, rfl⟩ := hrel
      go_wp2
      go_ret
      exact ⟨rfl, 0, rfl⟩
  · rcases own_open hb with ⟨rfl, h0, _⟩ | ⟨g2, cap2, rfl, _, _, _, _, hcb⟩
    · have h0 : xs = [] := List.eq_nil_of_length_eq_zero h0
      subst h0
      clear ha hb hca
      go_enter Tryz.func14, Tryz.ntmps14
      go_wp2
      go_loopw [5] (fun vi wr => vi = .int .i64 0 ∧ wr = w) (fun _ _ => 0)
      case atStart => exact ⟨rfl, rfl⟩
      case round =>
        obtain ⟨rfl, rfl⟩ := hrel
        go_wp2
        go_ret
        exact ⟨rfl, 0, rfl⟩
    · obtain ⟨n, hn⟩ : ∃ n, xs.length = n := ⟨_, rfl⟩
      have HN := Lib.hid hn
      rw [hn] at hxm ⊢
      clear hn ha hb
      go_enter Tryz.func14, Tryz.ntmps14
      go_wp2
      go_loopw [5] (fun vi wr => ∃ (k m : Nat), vi = .int .i64 k ∧ wr = w.drewN m ∧ k ≤ n) (fun vi _ => n - (intOf vi).toNat)
      case atStart => exact ⟨0, 0, rfl, rfl, Nat.zero_le _⟩
      case round =>
        obtain ⟨k, m, rfl, rfl, hk⟩ := hrel
        by_cases hkn : k < n
        · have i1 : (k : Int) < n := by omega
          have hkX : xs[k]? = some (xs.getD k 0) := by have := HN.out; simp [List.getD, show k < xs.length by omega]
          have c1 : ∀ n, (w.drewN n).cell? ⟨g, k, none⟩ = some (.int .i32 (xs.getD k 0)) := fun n => hca k _ (by rw [List.getElem?_map, hkX]; rfl)
          have c2 : ∀ n, (w.drewN n).cell? ⟨g2, k, none⟩ = some (.int .i32 (xs.getD k 0)) := fun n => hcb k _ (by rw [List.getElem?_map, hkX]; rfl)
          generalize xs.getD k 0 = c at c1 c2
          clear hkX hca hcb
          go_wp2_with fail
          go_quiet (fail)
          go_wp2
          go_roundw
          case rel => exact ⟨k + 1, _, by go_num, rfl, by omega⟩
          case measure => simp [intOf]; omega
        · have i1 : (n : Int) ≤ k := by omega
          go_wp2
          go_ret
          exact ⟨rfl, m, rfl⟩
end Go.Proofs.YtjeenanoboaaeaaGreatDoor
