/- The document's patterns read: Compile, but for classes. -/
import Derived.Test.YtmidpekkomhogaaDf
import Derived.Test.YtmidpekkomhogaaMg06
namespace Go.Proofs.Ytmidpekkomhogaa.Dpt
open Go.RowKit Go.Lib
open Go.Proofs.Ytmidpekkomhogaa Go.Proofs.Ytmidpekkomhogaa.Pat

theorem spelt_open {B : Nat} {xs : List Int} {e : Ending} {w : World} (h : Spelt B xs e w) : ∃ (oa : Option Addr) (cap : Nat), e = .returned (.slice oa xs.length cap) ∧ xs.length ≤ cap ∧ ((oa = none ∧ xs = []) ∨ ∃ g, oa = some ⟨g, 0, none⟩ ∧ g < w.heap.size ∧ ∀ j x, xs[j]? = some x → w.cell? ⟨g, j, none⟩ = some (.int .i32 x)) := by
  obtain ⟨v, rfl, hl, h2⟩ := h
  rcases h2 with ⟨rfl, h0⟩ | ⟨g, cap, cur, rfl, hg, hh, hn, hcap, hsz, htake⟩
  · have : xs = [] := by simpa using h0
    subst this
    exact ⟨none, 0, rfl, by simp, .inl ⟨rfl, rfl⟩⟩
  · refine ⟨some ⟨g, 0, none⟩, cap, rfl, hn, .inr ⟨g, rfl, (Array.getElem?_eq_some_iff.1 hh).1, fun j x hx => ?_⟩⟩
    have hj : j < xs.length := (List.getElem?_eq_some_iff.1 hx).1
    have hown : w.ownsRow B 21 1 (.slice (some ⟨g, 0, none⟩) xs.length cap) xs.length (xs.map (Value.int .i32)) := ⟨hl, .inr ⟨g, cap, cur, rfl, hg, hh, hn, hcap, hsz, htake⟩⟩
    rw [hown.cellAt j (by omega)]
    simp [hx]

set_option maxHeartbeats 4000000 in
set_option maxRecDepth 100000 in
theorem compile_d (s : ByteArray) (w : World) (hs : s.size ≤ 1000000) (hl : (spell s.data.toList).length ≤ 1000) (HC : ∀ bp, ClOK bp (spell s.data.toList)) :
    Calls Try.prog 13 #[.string s] w fun e w' => (∃ o : Option Addr, e = .returned (.pointer o) ∧ (o = none ↔ rawP (spell s.data.toList) = none)) ∧ Below w.heap.size w w' := by
  obtain ⟨rs, hrs⟩ : ∃ rs, spell s.data.toList = rs := ⟨_, rfl⟩
  have HSP := Lib.hid (spell_any s w (by omega))
  rw [hrs] at hl HC HSP ⊢
  have HCC := Lib.hid HC
  clear HC hrs
  go_enter Try.func13, Try.ntmps13
  go_wp2_with fail
  refine HSP.out.mono ?_
  rintro e w1 ⟨hsp, hb1⟩
  obtain ⟨oa, cap, rfl, hcap, hrow⟩ := spelt_open hsp
  obtain ⟨W2, hW2⟩ : ∃ W2, w1.alloc (Obj.cells #[.slice none 0 0, .int .i64 0, .slice oa rs.length cap, .int .i64 0, .bool false] 73) = W2 := ⟨_, rfl⟩
  have hbW : Below w1.heap.size w1 W2 := by rw [← hW2]; exact (Below.refl _ _).alloc (Nat.le_refl _) _
  have h1 : W2.heap[w1.heap.size]? = some (.cells #[.slice none 0 0, .int .i64 0, .slice oa rs.length cap, .int .i64 0, .bool false] 73 (0, 0)) := by rw [← hW2]; exact Array.getElem?_push_size
  have hd2 : DP W2 w1.heap.size rs 0 false 0 := by
    refine ⟨_, 0, oa, cap, 0, [], h1, ?_, World.ownsRow_nil _ _ _ _, Nat.le_refl _⟩
    rcases hrow with ⟨_, h⟩ | ⟨g, h2, h3, h4⟩
    · exact .inl h
    · refine .inr ⟨g, 0, h2, h3, fun j r hj => ?_⟩
      rw [Nat.zero_add]
      exact (World.cell?_of_block (a := ⟨g, j, none⟩) (hbW.block g h3)).trans (h4 j r hj)
  have HEI := Lib.hid (whole_ok w1.heap.size rs hl (HCC.out _) 0 W2 hd2 (by omega))
  have HB2 := Lib.hid (show Below w.heap.size w W2 from hb1.trans (hbW.mono hb1.size))
  have HSZ := Lib.hid hb1.size
  have HW2 := Lib.hid hW2
  clear hsp hb1 hrow hbW h1 hd2 hW2
  go_wp2_with fail
  rw [HW2.out]
  refine HEI.out.mono ?_
  rintro e w3 ⟨v3, a3, b3, k3, rfl, hd3, hb3, htop, hiff⟩
  have HB3 := Lib.hid (HB2.out.trans (hb3.mono HSZ.out))
  have HF := Lib.hid hiff
  obtain ⟨vp, root, o, c, N, xs, h1, -⟩ := hd3
  obtain ⟨L, hL⟩ : ∃ L, rs.length = L := ⟨_, rfl⟩
  have HL := Lib.hid hL
  rw [hL] at h1 hl
  obtain ⟨⟨c0, c1, c2, c3, c4⟩, f0, f1, f2, f3, f4⟩ := cells5 h1
  have HB4 := Lib.hid (below_set HB3.out HSZ.out 1 (.int .i64 v3))
  clear h1 hb3 hiff hL c0 f0 f2 f3 f4
  cases b3 with
  | true =>
    go_wp2_with fail
    go_quiet (fail)
    go_wp2
    go_ret
    exact ⟨⟨none, rfl, fun _ => HF.out.1 (.inl (by first | trivial | rfl)), fun _ => rfl⟩, HB4.out.os, HB4.out.tape, HB4.out.output, HB4.out.size, HB4.out.block⟩
  | false =>
    by_cases hlt : a3 < L
    · have j1 : (a3 : Int) < L := by omega
      go_wp2_with fail
      go_quiet (fail)
      go_wp2
      go_ret
      exact ⟨⟨none, rfl, fun _ => HF.out.1 (.inr (by rw [HL.out]; exact hlt)), fun _ => rfl⟩, HB4.out.os, HB4.out.tape, HB4.out.output, HB4.out.size, HB4.out.block⟩
    · have j1 : ¬ (a3 : Int) < L := by omega
      go_wp2_with fail
      go_quiet (fail)
      go_wp2
      go_ret
      have HNO : rawP rs ≠ none := fun h => by
        have h2 := HF.out.2 h
        rw [HL.out] at h2
        simp at h2
        omega
      exact ⟨⟨some ⟨w1.heap.size, 0, none⟩, rfl, by constructor; (intro h; cases h); (intro h; exact absurd h HNO)⟩, HB4.out.os, HB4.out.tape, HB4.out.output, HB4.out.size, HB4.out.block⟩
end Go.Proofs.Ytmidpekkomhogaa.Dpt
