import Derived.Test.YthjifpdiekoomaaGreatGj
import Derived.Test.YthjifpdiekoomaaGreatGi
import Derived.Deep.QuietTactic
import Derived.Laws.AppendOwnNone
section
/- The document's Tidy of rows; light rows; the walks. -/

namespace Go.Proofs.YthjifpdiekoomaaGreat.Vec
open Go.RowKit

/-- Are rows few and short enough? -/
def lightR (xs : List Rw) : Bool := (xs.take 100).all (fun x => lightB x.1) && decide ((xs.length : Int) ≤ 60)
theorem light_sml {l : Labs} (h : lightB l = true) : SmL l := by
  unfold lightB at h
  rw [Bool.and_eq_true, List.all_eq_true] at h
  obtain ⟨h1, h2⟩ := h
  have h3 : l.length ≤ 20 := by simp at h2; omega
  refine ⟨by omega, fun y hy => ?_⟩
  have := h1 y (by rw [List.take_of_length_le (by omega)]; exact hy)
  unfold shortB at this
  simp at this
  omega
theorem lightR_mk {xs : List Rw} (h : lightR xs = true) : xs.length ≤ 60 ∧ SmR xs := by
  unfold lightR at h
  rw [Bool.and_eq_true, List.all_eq_true] at h
  obtain ⟨h1, h2⟩ := h
  have h3 : xs.length ≤ 60 := by simp at h2; omega
  refine ⟨h3, fun x hx => light_sml (h1 x (by rw [List.take_of_length_le (by omega)]; exact hx))⟩
end Go.Proofs.YthjifpdiekoomaaGreat.Vec
end

section
/- The statements' own vectors: rows that may be, in order; light rows. -/

namespace Go.Proofs.YthjifpdiekoomaaGreat.Vec
open Go.RowKit

end Go.Proofs.YthjifpdiekoomaaGreat.Vec
end

section
/- Rows compared; light rows: the walks. -/

namespace Go.Proofs.YthjifpdiekoomaaGreat.Vec
open Go.RowKit

/-- Are two rows alike? -/
def eqR (x y : Rw) : Bool := Go.Proofs.YthjifpdiekoomaaGreat.sameL x.1 y.1 && (x.2 == y.2)
def sameR : List Rw → List Rw → Bool
  | [], [] => true
  | x :: xs, y :: ys => eqR x y && sameR xs ys
  | _, _ => false

theorem sameR_iff : ∀ (xs ys : List Rw), sameR xs ys = true ↔ xs = ys
  | [], [] => by simp [sameR]
  | [], y :: ys => by simp [sameR]
  | x :: xs, [] => by simp [sameR]
  | x :: xs, y :: ys => by
    rw [sameR, Bool.and_eq_true, sameR_iff xs ys, eqR, Bool.and_eq_true, sameL_iff, beq_iff_eq, List.cons.injEq]
    constructor
    · rintro ⟨⟨h1, h2⟩, h3⟩; exact ⟨Prod.ext h1 h2, h3⟩
    · rintro ⟨rfl, rfl⟩; exact ⟨⟨rfl, rfl⟩, rfl⟩

set_option maxHeartbeats 4000000 in
set_option maxRecDepth 100000 in
theorem lightR_any (o : Option Addr) (n c : Nat) (xs : List Rw) (w : World) (B : Nat) (hn : xs.length = n) (hS : RowsS w B o xs) :
    Calls Tryz.prog 5 #[.slice o n c] w fun e w' => e = .returned (.bool (lightR xs)) ∧ Below w.heap.size w w' := by
  have HN := Lib.hid hn
  have HS := Lib.hid hS
  clear hn hS
  have HE := Lib.hid (show lightR xs = ((xs.take 100).all (fun x => lightB x.1) && decide ((n : Int) ≤ 60)) by unfold lightR; rw [HN.out])
  go_enter Tryz.func5, Tryz.ntmps5
  go_wp2
  go_loopw [3] (fun v3 wr => ∃ k : Nat, v3 = .int .i64 k ∧ k ≤ n ∧ k ≤ 100 ∧ Hid (Below w.heap.size w wr) ∧ Hid ((xs.take k).all (fun x => lightB x.1) = true)) (fun v3 _ => n - (Go.RowKit.intOf v3).toNat)
  case atStart => exact ⟨0, rfl, Nat.zero_le _, Nat.zero_le _, Below.refl _ _, rfl⟩
  case round =>
    obtain ⟨k, rfl, hk, hk100, HB, H⟩ := hrel
    by_cases hkn : k < n
    · have j1 : (k : Int) < n := by omega
      by_cases h100 : k < 100
      · have j2 : (k : Int) < 100 := by omega
        obtain ⟨x, hx⟩ := get_ltG HN.out hkn
        obtain ⟨b, off, rfl, hR⟩ := (HS.out.below frow HB.out).at hx
        obtain ⟨oL, cL, c0, c1, hL, lL⟩ := row_at hR hx
        have HX := Lib.hid (take_atG hx)
        have HMem := Lib.hid (show x ∈ xs.take 100 from by
          obtain ⟨h1, h2⟩ := List.getElem?_eq_some_iff.1 hx
          rw [← h2]; exact List.mem_iff_getElem.2 ⟨k, by rw [List.length_take]; omega, List.getElem_take⟩)
        obtain ⟨nL, hnL⟩ : ∃ nL, x.1.length = nL := ⟨_, rfl⟩
        have HLt := Lib.hid (light_any oL cL x.1 wr lL hL.sees)
        rw [hnL] at c0 HLt
        obtain ⟨g, hg⟩ : ∃ g, lightB x.1 = g := ⟨_, rfl⟩
        have HG := Lib.hid hg
        rw [hg] at HLt
        clear hR hx hL lL hnL hg c1
        cases g with
        | false =>
          have H2 := Lib.hid (show lightR xs = false by
            rw [HE.out, show (xs.take 100).all (fun x => lightB x.1) = false by rw [List.all_eq_false]; exact ⟨x, HMem.out, by rw [HG.out]; simp⟩, Bool.false_and])
          go_wp2_with fail
          refine HLt.out.mono ?_
          rintro e w2 ⟨rfl, b2⟩
          have HB2 := Lib.hid (HB.out.trans (b2.mono HB.out.size))
          clear b2
          go_wp2
          go_ret
          exact ⟨ret_bool H2.out.symm, HB2.out⟩
        | true =>
          have H2 := Lib.hid (show (xs.take (k + 1)).all (fun x => lightB x.1) = true by
            rw [HX.out, List.all_append, H.out]; simp [HG.out])
          go_wp2_with fail
          refine HLt.out.mono ?_
          rintro e w2 ⟨rfl, b2⟩
          have HB2 := Lib.hid (HB.out.trans (b2.mono HB.out.size))
          clear b2
          go_wp2
          go_roundw
          case rel => exact ⟨k + 1, by go_num, by omega, by omega, HB2, H2⟩
          case measure => simp [Go.RowKit.intOf]; omega
      · have j2 : ¬ (k : Int) < 100 := by omega
        have H2 := Lib.hid (show lightR xs = decide ((n : Int) ≤ 60) by
          have e : k = 100 := by omega
          have h := H.out
          rw [e] at h
          rw [HE.out, h, Bool.true_and])
        go_wp2
        go_ret
        exact ⟨ret_bool H2.out.symm, HB.out⟩
    · have j1 : ¬ (k : Int) < n := by omega
      have H2 := Lib.hid (show lightR xs = decide ((n : Int) ≤ 60) by
        have e : xs.take 100 = xs.take k := by
          rw [List.take_of_length_le (by rw [HN.out]; omega), List.take_of_length_le (by rw [HN.out]; omega)]
        rw [HE.out, e, H.out, Bool.true_and])
      go_wp2
      go_ret
      exact ⟨ret_bool H2.out.symm, HB.out⟩
end Go.Proofs.YthjifpdiekoomaaGreat.Vec
end

section
/- A first call whose answer the document fixes. -/

namespace Go.Proofs.YthjifpdiekoomaaGreat.Vec
open Go.RowKit

end Go.Proofs.YthjifpdiekoomaaGreat.Vec
end

section
/- Lists of the call's own put behind each other; what comparisons come to. -/

namespace Go.Proofs.YthjifpdiekoomaaGreat.Vec
open Go.RowKit

theorem grown_refl (w : World) (r : Option Nat) : w.grownBy w r := ⟨rfl, rfl, rfl, Nat.le_refl _, fun _ _ _ => rfl⟩
end Go.Proofs.YthjifpdiekoomaaGreat.Vec
end
