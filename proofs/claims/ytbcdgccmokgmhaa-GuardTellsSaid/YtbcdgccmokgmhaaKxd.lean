/- The book of texts, fourth part: what it holds of one kind; it still holds it. -/
import Derived.Test.YtbcdgccmokgmhaaKxc
namespace Go.Proofs.Ytbcdgccmokgmhaa.BkX
open Go.RowKit

/-- A list of lists, all of the call's own, no two in one block. -/
structure Kept (B : Nat) (w : World) (R : Value) (L : List (Value × List El)) : Prop where
  row : w.ownsRow B 31 1 R L.length (L.map (·.1))
  each : ∀ (i : Nat) (v : Value) (xs : List El), L[i]? = some (v, xs) → w.ownsRow B 9 1 v xs.length (flatE xs) ∧ xs.length ≤ 100000
  apart : ∀ (i j : Nat) (p q : Value × List El), i ≠ j → L[i]? = some p → L[j]? = some q → p.1.ownBlock = none ∨ p.1.ownBlock ≠ q.1.ownBlock
  few : L.length ≤ 250

theorem Kept.drewN {B : Nat} {w : World} {R : Value} {L : List (Value × List El)} (h : Kept B w R L) (n : Nat) : Kept B (w.drewN n) R L := ⟨h.row, h.each, h.apart, h.few⟩
/-- The list of lists, opened at one place. -/
theorem Kept.at {B : Nat} {w : World} {R : Value} {L : List (Value × List El)} (h : Kept B w R L) {k : Nat} (hk : k < L.length) : ∃ g cap v xs, R = .slice (some ⟨g, 0, none⟩) L.length cap ∧ L[k]? = some (v, xs) ∧ w.cell? ⟨g, k, none⟩ = some v ∧ w.ownsRow B 9 1 v xs.length (flatE xs) ∧ xs.length ≤ 100000 := by
  rcases own_open h.row with ⟨_, h0, _⟩ | ⟨g, cap, hR, _, _, _, _, hc⟩
  · omega
  · refine ⟨g, cap, L[k].1, L[k].2, hR, by simp [hk], hc k _ (by simp [hk]), ?_⟩
    exact h.each k _ _ (by simp [hk])

set_option maxHeartbeats 2000000 in
set_option maxRecDepth 100000 in
theorem stillRunes_any (B bk : Nat) (R R' : Value) (L L' : List (Value × List El)) (hLL : L.map (·.2) = L'.map (·.2)) (w : World) (h : Kept B w R L) (h' : Kept B w R' L')
    (h4 : w.cell? ⟨bk, 0, none⟩ = some R) (h5 : w.cell? ⟨bk, 1, none⟩ = some R') :
    Calls Try.prog 26 #[.pointer (some ⟨bk, 0, none⟩)] w fun e w' => e = .returned (.bool true) ∧ ∃ m, w' = w.drewN m := by
  have hlen : L'.length = L.length := by have := congrArg List.length hLL; simpa using this.symm
  obtain ⟨nL, hnL⟩ : ∃ n, L.length = n := ⟨_, rfl⟩
  have hR : ∃ o c, R = .slice o nL c := by
    rcases own_open h.row with ⟨rfl, h0, _⟩ | ⟨g, cap, rfl, _⟩
    · exact ⟨none, 0, by rw [← hnL, h0]⟩
    · exact ⟨_, cap, by rw [hnL]⟩
  have hR' : ∃ o c, R' = .slice o nL c := by
    rcases own_open h'.row with ⟨rfl, h0, _⟩ | ⟨g, cap, rfl, _⟩
    · exact ⟨none, 0, by rw [← hnL, ← hlen, h0]⟩
    · exact ⟨_, cap, by rw [hlen, hnL]⟩
  obtain ⟨o, c, rfl⟩ := hR
  obtain ⟨o', c', rfl⟩ := hR'
  have hfew := h.few
  rw [hnL] at hfew
  have HN := Lib.hid hnL
  have HN' := Lib.hid (hlen.trans hnL)
  have HK := Lib.hid h
  have HK' := Lib.hid h'
  have HL := Lib.hid hLL
  have h4n : ∀ n, (w.drewN n).cell? ⟨bk, 0, none⟩ = some (.slice o nL c) := fun _ => h4
  have h5n : ∀ n, (w.drewN n).cell? ⟨bk, 1, none⟩ = some (.slice o' nL c') := fun _ => h5
  have H4 := Lib.hid h4n
  have H5 := Lib.hid h5n
  clear h h' hlen hnL hLL h4n h5n h4 h5
  go_enter Try.func26, Try.ntmps26
  go_wp2
  go_loopw [3] (fun vi wr => ∃ (k : Nat), vi = .int .i64 k ∧ Hid (∃ m, wr = w.drewN m) ∧ k ≤ nL) (fun vi _ => nL - (intOf vi).toNat)
  case atStart => exact ⟨0, rfl, ⟨0, rfl⟩, Nat.zero_le _⟩
  case round =>
    obtain ⟨k, rfl, HW, hk⟩ := hrel
    have f4 : ∀ n, (wr.drewN n).cell? ⟨bk, 0, none⟩ = some (.slice o nL c) := fun n => by obtain ⟨m, rfl⟩ := HW.out; exact H4.out 0
    have f5 : ∀ n, (wr.drewN n).cell? ⟨bk, 1, none⟩ = some (.slice o' nL c') := fun n => by obtain ⟨m, rfl⟩ := HW.out; exact H5.out 0
    have f40 : wr.cell? ⟨bk, 0, none⟩ = some (.slice o nL c) := f4 0
    by_cases hkn : k < nL
    · have i1 : (k : Int) < nL := by omega
      obtain ⟨g, cap, v, xs, hR, hv, hcv, hown, hx⟩ := HK.out.at (k := k) (by rw [HN.out]; exact hkn)
      obtain ⟨g', cap', v', xs', hR', hv', hcv', hown', hx'⟩ := HK'.out.at (k := k) (by rw [HN'.out]; exact hkn)
      have hxx : xs = xs' := by
        have h1 := congrArg (fun l : List (List El) => l[k]?) HL.out
        simp only [List.getElem?_map, hv, hv', Option.map_some] at h1
        exact Option.some.inj h1
      subst hxx
      injection hR with hR _ _
      injection hR' with hR' _ _
      subst hR
      subst hR'
      have c1 : ∀ n, (wr.drewN n).cell? ⟨g, k, none⟩ = some v := fun n => by obtain ⟨m, rfl⟩ := HW.out; exact hcv
      have c2 : ∀ n, (wr.drewN n).cell? ⟨g', k, none⟩ = some v' := fun n => by obtain ⟨m, rfl⟩ := HW.out; exact hcv'
      have C := Lib.hid (fun n => sameRunes_any v v' B B xs (by omega) (wr.drewN n) (by obtain ⟨m, rfl⟩ := HW.out; exact hown) (by obtain ⟨m, rfl⟩ := HW.out; exact hown'))
      clear hv hcv hown hv' hcv' hown' hx hx'
      go_wp2_with fail
      go_quiet ((go_at_call 17; exact Calls.quiet_of (C.out _)))
      go_wp2
      go_roundw
      case rel => exact ⟨k + 1, by go_num, (by obtain ⟨m, rfl⟩ := HW.out; exact ⟨_, drewN_drewN _ _ _⟩), by omega⟩
      case measure => simp [intOf]; omega
    · have i1 : (nL : Int) ≤ k := by omega
      go_wp2
      go_ret
      exact ⟨rfl, HW.out⟩
end Go.Proofs.Ytbcdgccmokgmhaa.BkX
