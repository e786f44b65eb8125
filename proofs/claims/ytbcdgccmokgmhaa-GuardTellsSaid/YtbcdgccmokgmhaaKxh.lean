/- The book of lists, eighth part: lists that are marked. -/
import Derived.Test.YtbcdgccmokgmhaaKxg
namespace Go.Proofs.Ytbcdgccmokgmhaa.BkX
open Go.RowKit

/-- A list of lists that can be read. -/
structure Views (C B : Nat) (w : World) (R : Value) (V : List (Value × List El)) : Prop where
  row : w.ownsRow C 31 1 R V.length (V.map (·.1))
  each : ∀ (i : Nat) (v : Value) (xs : List El), V[i]? = some (v, xs) → w.ownsRow B 9 1 v xs.length (flatE xs) ∧ xs.length ≤ 200000
  few : V.length ≤ 250
theorem Views.below {C B : Nat} {w w' : World} {R : Value} {V : List (Value × List El)} (h : Views C B w R V) (hb : Below w.heap.size w w') : Views C B w' R V :=
  ⟨own_grown h.row hb, fun i v xs hi => ⟨own_grown (h.each i v xs hi).1 hb, (h.each i v xs hi).2⟩, h.few⟩
theorem Views.at {C B : Nat} {w : World} {R : Value} {L : List (Value × List El)} (h : Views C B w R L) {k : Nat} (hk : k < L.length) : ∃ g cap v xs, R = .slice (some ⟨g, 0, none⟩) L.length cap ∧ g < w.heap.size ∧ L[k]? = some (v, xs) ∧ w.cell? ⟨g, k, none⟩ = some v ∧ w.ownsRow B 9 1 v xs.length (flatE xs) ∧ xs.length ≤ 200000 := by
  rcases own_open h.row with ⟨_, h0, _⟩ | ⟨g, cap, hR, _, hg, _, _, hc⟩
  · omega
  · refine ⟨g, cap, L[k].1, L[k].2, hR, hg, by simp [hk], hc k _ (by simp [hk]), ?_⟩
    exact h.each k _ _ (by simp [hk])

set_option maxHeartbeats 8000000 in
set_option maxRecDepth 100000 in
theorem markedRunes_any (C B : Nat) (R : Value) (L : List (Value × List El)) (w : World) (h : Views C B w R L) (hmk : ∀ i v xs, L[i]? = some (v, xs) → xs = marksR i 0 xs.length) :
    Calls Try.prog 56 #[R] w fun e w' => e = .returned (.bool true) ∧ Below w.heap.size w w' := by
  obtain ⟨nL, hnL⟩ : ∃ n, L.length = n := ⟨_, rfl⟩
  have hR : ∃ o c, R = .slice o nL c := by
    rcases own_open h.row with ⟨rfl, h0, _⟩ | ⟨g, cap, rfl, _⟩
    · exact ⟨none, 0, by rw [← hnL, h0]⟩
    · exact ⟨_, cap, by rw [hnL]⟩
  obtain ⟨o, c, rfl⟩ := hR
  have hfew := h.few
  rw [hnL] at hfew
  have HN := Lib.hid hnL
  have HK := Lib.hid h
  have HM := Lib.hid hmk
  clear h hnL hmk
  go_enter Try.func56, Try.ntmps56
  go_wp2
  go_loopw [3] (fun vi wr => ∃ (k : Nat), vi = .int .i64 k ∧ k ≤ nL ∧ Hid (Below w.heap.size w wr)) (fun vi _ => nL - (intOf vi).toNat)
  case atStart => exact ⟨0, rfl, Nat.zero_le _, Below.refl _ _⟩
  case round =>
    obtain ⟨k, rfl, hk, H⟩ := hrel
    by_cases hkn : k < nL
    · have i1 : (k : Int) < nL := by omega
      obtain ⟨g, cap, v, xs, hR, hg, hv, hcv, hown, hx⟩ := (HK.out.below H.out).at (k := k) (by rw [HN.out]; exact hkn)
      injection hR with hR x2 x3
      clear x2 x3
      subst hR
      obtain ⟨n, hn⟩ : ∃ n, xs.length = n := ⟨_, rfl⟩
      have hxm := HM.out _ _ _ hv
      rw [hn] at hxm hx hown
      have hvs : ∃ o c, v = .slice o n c := by
        rcases own_open hown with ⟨rfl, h0, _⟩ | ⟨g, cap, rfl, _⟩
        · exact ⟨none, 0, by rw [h0]⟩
        · exact ⟨_, cap, rfl⟩
      obtain ⟨ov, cv, rfl⟩ := hvs
      rw [hxm] at hown
      have hml := marksR_length k 0 n
      have hown2 : wr.ownsRow B 9 1 (.slice ov n cv) (marksR k 0 n).length (flatE (marksR k 0 n)) := by rw [hml]; exact hown
      have HO := Lib.hid hown2
      have HML := Lib.hid hml
      have HC := Lib.hid hcv
      have c1 : ∀ n', (wr.drewN n').cell? ⟨g, k, none⟩ = some (.slice ov n cv) := fun _ => hcv
      have c0 : wr.cell? ⟨g, k, none⟩ = some (.slice ov n cv) := hcv
      clear hown hown2 hv hn hxm hml hcv
      have CM := Lib.hid (fun W => markRunes_any k 0 n (by omega) (by omega) (by omega) W)
      go_wp2_with fail
      go_region_with (first
        | (go_at_call 78
           refine (CM.out _).mono ?_
           rintro e w1 ⟨⟨vm, rfl, hm⟩, hb1⟩
           have c2 : w1.cell? ⟨g, k, none⟩ = some (.slice ov n cv) := (hb1.cell (p := ⟨g, k, none⟩) hg).trans HC.out
           have HMM := Lib.hid hm
           have HBB := Lib.hid (show Below wr.heap.size wr w1 from ⟨hb1.os, hb1.tape, hb1.output, hb1.size, hb1.block⟩)
           clear hm hb1)
        | (go_at_call 17
           refine (sameRunes_any _ _ B _ (marksR k 0 n) (by have := HML.out; omega) _ (own_grown HO.out HBB.out) HMM.out).mono ?_
           rintro e w2 ⟨rfl, m2, hw2⟩
           have hbz := HBB.out
           have HBZ := Lib.hid (show Below wr.heap.size wr w2 by rw [hw2]; exact ⟨hbz.os, hbz.tape, hbz.output, hbz.size, hbz.block⟩)
           clear hw2 hbz))
      all_goals
        go_wp2
        go_roundw
        case rel => exact ⟨k + 1, by go_num, by omega, H.out.trans (HBZ.out.mono H.out.size)⟩
        case measure => simp [intOf]; omega
    · have i1 : (nL : Int) ≤ k := by omega
      go_wp2
      go_ret
      exact ⟨rfl, H.out⟩
end Go.Proofs.Ytbcdgccmokgmhaa.BkX
