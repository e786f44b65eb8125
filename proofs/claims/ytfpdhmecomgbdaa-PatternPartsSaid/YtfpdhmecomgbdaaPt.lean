/- Patterns: read, and told. -/
import Derived.Test.YtfpdhmecomgbdaaPs
import Derived.Test.YtfpdhmecomgbdaaQd
namespace Go.Proofs.Ytfpdhmecomgbdaa
open Go.RowKit

theorem countOf_len (l : List UInt8) : countOf l = (spell l).length := by unfold countOf spell; rw [List.length_map]

set_option maxHeartbeats 4000000 in
set_option maxRecDepth 100000 in
theorem whole_any (bp : Nat) (ps : ByteArray) (p : Eg × Gr) (s : ByteArray) (w : World) (h : PatAt w bp ps p) (hok : PatOk p) (hs : s.size ≤ 1099511627776) :
    Calls Try.prog 13 #[.pointer (some ⟨bp, 0, none⟩), .string s] w fun e w' => e = .returned (.bool (wholeF p (spell s.data.toList))) ∧ Below w.heap.size w w' := by
  have HB := Lib.hid (begins_any bp ps p s w h hok hs)
  have HC := Lib.hid (fun W => count_any s W (by unfold maxLen; omega))
  obtain ⟨B, hB⟩ : ∃ B, begF p (spell s.data.toList) = B := ⟨_, rfl⟩
  obtain ⟨C, hC⟩ : ∃ C, countOf s.data.toList = C := ⟨_, rfl⟩
  have hw : wholeF p (spell s.data.toList) = (B == (C : Int)) := by unfold wholeF; rw [hB, ← countOf_len, hC]
  rw [hB] at HB
  rw [hC] at HC
  rw [hw]
  clear h hok hB hC hw hs
  go_enter Try.func13, Try.ntmps13
  go_wp2_with fail
  refine HB.out.mono ?_
  rintro e w1 ⟨rfl, b1⟩
  have HB1 := Lib.hid b1
  clear b1
  go_wp2_with fail
  refine (HC.out w1).mono ?_
  rintro e w2 ⟨rfl, b2⟩
  have HB2 := Lib.hid (HB1.out.trans (b2.mono HB1.out.size))
  clear b2
  go_wp2
  go_ret
  exact ⟨rfl, HB2.out⟩

set_option maxHeartbeats 4000000 in
set_option maxRecDepth 100000 in
theorem clone_any (s : ByteArray) (w : World) (hs : s.size ≤ 281474976710656) :
    Calls Try.prog 18 #[.string s] w fun e w' => e = .returned (.string s) ∧ Below w.heap.size w w' := by
  go_enter Try.func18, Try.ntmps18
  go_wp2_with (go_at_call 24; refine (Try.stringslite_Clone _ _ hs).mono ?_; rintro e w1 ⟨rfl, b1⟩)
  go_ret
  exact ⟨rfl, b1⟩
set_option maxHeartbeats 4000000 in
set_option maxRecDepth 100000 in
theorem text_any (bp : Nat) (ps : ByteArray) (p : Eg × Gr) (w : World) (h : PatAt w bp ps p) (hs : ps.size ≤ 1000000) :
    Calls Try.prog 15 #[.pointer (some ⟨bp, 0, none⟩)] w fun e w' => e = .returned (.string ps) ∧ Below w.heap.size w w' := by
  obtain ⟨_, _, _, q0⟩ := GrAt.tail h
  have HC := Lib.hid (fun W => clone_any ps W (by omega))
  clear h
  go_enter Try.func15, Try.ntmps15
  go_wp2_with fail
  refine (HC.out w).mono ?_
  rintro e w1 ⟨rfl, b1⟩
  go_wp2
  go_ret
  exact ⟨rfl, b1⟩

set_option maxHeartbeats 4000000 in
set_option maxRecDepth 100000 in
theorem compile_long (s : ByteArray) (w : World) (hs : s.size ≤ 1000000) (h : 40 < (spell s.data.toList).length) :
    Calls Try.prog 12 #[.string s] w fun e w' => e = .returned (.tuple #[.pointer none, .int .i64 1]) ∧ Below w.heap.size w w' := by
  have HC := Lib.hid (count_any s w (by unfold maxLen; omega))
  rw [← countOf_len] at h
  obtain ⟨C, hC⟩ : ∃ C, countOf s.data.toList = C := ⟨_, rfl⟩
  rw [hC] at HC h
  have i1 : (40 : Int) < C := by omega
  clear hC
  go_enter Try.func12, Try.ntmps12
  go_wp2_with fail
  refine HC.out.mono ?_
  rintro e w1 ⟨rfl, b1⟩
  go_wp2
  go_ret2
  exact ⟨rfl, b1⟩
set_option maxHeartbeats 4000000 in
set_option maxRecDepth 100000 in
theorem compile_form (s : ByteArray) (w : World) (hs : s.size ≤ 1000000) (h : ¬ 40 < (spell s.data.toList).length) (hr : readP (spell s.data.toList) = none) :
    Calls Try.prog 12 #[.string s] w fun e w' => e = .returned (.tuple #[.pointer none, .int .i64 2]) ∧ Below w.heap.size w w' := by
  have HC := Lib.hid (count_any s w (by unfold maxLen; omega))
  have HRD := Lib.hid (fun W => read_any s W hs)
  rw [hr] at HRD
  rw [← countOf_len] at h
  obtain ⟨C, hC⟩ : ∃ C, countOf s.data.toList = C := ⟨_, rfl⟩
  rw [hC] at HC h
  have i1 : (C : Int) ≤ 40 := by omega
  clear hC hr
  go_enter Try.func12, Try.ntmps12
  go_wp2_with fail
  refine HC.out.mono ?_
  rintro e w1 ⟨rfl, b1⟩
  have HB1 := Lib.hid b1
  clear b1
  go_wp2_with fail
  refine (HRD.out w1).mono ?_
  rintro e w2 ⟨v, rfl, b2⟩
  have HB2 := Lib.hid (HB1.out.trans (b2.mono HB1.out.size))
  clear b2
  go_wp2
  go_ret2
  exact ⟨rfl, HB2.out⟩
theorem fresh_pat (w : World) (s : ByteArray) : GrAt (w.alloc (Obj.cells #[.string s, .slice none 0 0, .slice none 0 0, .bool false, .int .u64 0, .int .u64 0] 51)) w.heap.size (.string s) (.bool false) (.int .u64 0) (.int .u64 0) ⟨[], []⟩ :=
  ⟨_, _, [], Array.getElem?_push_size, World.ownsRow_nil _ _ _ _, World.ownsRow_nil _ _ _ _, fun j u x h => by simp at h⟩
theorem GrAt.frees {w : World} {bp : Nat} {t a b c : Value} {g : Gr} (h : GrAt w bp t a b c g) : w.cell? ⟨bp, 3, none⟩ = some a ∧ w.cell? ⟨bp, 4, none⟩ = some b ∧ w.cell? ⟨bp, 5, none⟩ = some c ∧ w.frozen? ⟨bp, 3, none⟩ = false ∧ w.frozen? ⟨bp, 4, none⟩ = false ∧ w.frozen? ⟨bp, 5, none⟩ = false := by
  obtain ⟨va, vt, vs, hp, _⟩ := h
  unfold Pat at hp
  refine ⟨?_, ?_, ?_, ?_, ?_, ?_⟩ <;> simp [World.cell?, World.frozen?, hp]
theorem GrRow.setPat {w : World} {bp i : Nat} {va vt u : Value} {vs : List Value} {g : Gr} (h : GrRow w bp va vt vs g) : GrRow (w.setCell ⟨bp, i, none⟩ u) bp va vt vs g :=
  ⟨ownsRow_setCell_below h.atoms (a := ⟨bp, i, none⟩) (Nat.lt_succ_self bp) u, ownsRow_setCell_below h.links (a := ⟨bp, i, none⟩) (Nat.lt_succ_self bp) u, fun j uu y hu hy => (h.kids j uu y hu hy).keep fun b hb _ => ⟨heap_setCell_other _ _ _ _ (by show b ≠ bp; omega), hb⟩⟩
theorem put_all {w : World} {bp : Nat} {t a b c p q r : Value} {g : Gr} (h : GrAt w bp t a b c g) : GrAt (((w.setCell ⟨bp, 3, none⟩ p).setCell ⟨bp, 4, none⟩ q).setCell ⟨bp, 5, none⟩ r) bp t p q r g := by
  obtain ⟨va, vt, vs, hp, hr⟩ := h
  refine ⟨va, vt, vs, ?_, hr.setPat.setPat.setPat⟩
  have e1 := heap_setCell_same w bp 3 _ 51 p hp
  have e2 := heap_setCell_same _ bp 4 _ 51 q e1
  exact heap_setCell_same _ bp 5 _ 51 r e2
/-- A pattern that was read. -/
def Comp (w : World) (s : ByteArray) (p : Eg × Gr) (e : Ending) (w' : World) : Prop := ∃ bp, e = .returned (.tuple #[.pointer (some ⟨bp, 0, none⟩), .int .i64 0]) ∧ PatAt w' bp s p ∧ Below w.heap.size w w'
theorem readP_ok {rs : List Int} {x : Pt} (h : readP rs = some x) (hl : ¬ 40 < rs.length) : PatOk (layF x ⟨[], []⟩) := by
  have hsz := readP_size h
  have hok : GrOk ⟨[], []⟩ := ⟨rfl, fun t ht => by simp at ht⟩
  obtain ⟨h1, h2, h3, h4⟩ := layF_ok x ⟨[], []⟩ hok
  have e : ((⟨[], []⟩ : Gr).atoms.length + x.size) = x.size := by simp
  rw [e] at h2 h3 h4
  exact ⟨h1, by omega, pow_mono h3 (by omega), pow_mono h4 (by omega)⟩
set_option maxHeartbeats 4000000 in
set_option maxRecDepth 100000 in
theorem compile_ok (s : ByteArray) (x : Pt) (w : World) (hs : s.size ≤ 1000000) (h : ¬ 40 < (spell s.data.toList).length) (hr : readP (spell s.data.toList) = some x) :
    Calls Try.prog 12 #[.string s] w (Comp w s (layF x ⟨[], []⟩)) := by
  have HC := Lib.hid (count_any s w (by unfold maxLen; omega))
  have HRD := Lib.hid (fun W => read_any s W hs)
  have hsz := readP_size hr
  rw [hr] at HRD
  rw [← countOf_len] at h
  obtain ⟨C, hC⟩ : ∃ C, countOf s.data.toList = C := ⟨_, rfl⟩
  rw [← countOf_len, hC] at hsz
  rw [hC] at HC h
  have i1 : (C : Int) ≤ 40 := by omega
  obtain ⟨T, hT⟩ : ∃ T, layF x ⟨[], []⟩ = T := ⟨_, rfl⟩
  rw [hT]
  have HL := Lib.hid (fun W bp (v : Value) (h1 : GrAt W bp (.string s) (.bool false) (.int .u64 0) (.int .u64 0) ⟨[], []⟩) (h2 : Tree W (fun k => k < bp) v x) => (show Calls Try.prog 19 #[.pointer (some ⟨bp, 1, none⟩), v] W (LayRes W bp (.string s) (.bool false) (.int .u64 0) (.int .u64 0) T) by
    rw [← hT]; exact lay_any x W bp _ _ _ _ v ⟨[], []⟩ h1 h2 (by simp; omega) ⟨rfl, fun t ht => by simp at ht⟩))
  have HCL := Lib.hid (fun W => clone_any s W (by omega))
  clear hC hr hT hsz h
  go_enter Try.func12, Try.ntmps12
  go_wp2_with fail
  refine HC.out.mono ?_
  rintro e w1 ⟨rfl, b1⟩
  have HB1 := Lib.hid b1
  clear b1
  go_wp2_with fail
  refine (HRD.out w1).mono ?_
  rintro e w2 ⟨v, rfl, ht2, b2⟩
  have HB2 := Lib.hid (HB1.out.trans (b2.mono HB1.out.size))
  have HT2 := Lib.hid ht2
  clear b2 ht2
  go_wp2_with fail
  refine (HCL.out w2).mono ?_
  rintro e w3 ⟨rfl, b3⟩
  have HB3 := Lib.hid (HB2.out.trans (b3.mono HB2.out.size))
  have HT3 := Lib.hid (HT2.out.stays b3)
  clear b3
  go_wp2_with fail
  refine (HL.out _ w3.heap.size v (fresh_pat w3 s) (HT3.out.keep fun b _ hl => ⟨Below.heap_alloc _ _ _ hl, hl⟩)).mono ?_
  rintro e w4 ⟨rfl, hg4, hb4, _⟩
  obtain ⟨q3, q4, q5, f3, f4, f5⟩ := hg4.frees
  have HG4 := Lib.hid hg4
  have HB4 := Lib.hid (show Below w.heap.size w w4 from (HB3.out.trans (((Below.refl _ _).alloc (Nat.le_refl _) _).mono HB3.out.size)).trans (hb4.mono HB3.out.size))
  have hsz := HB3.out.size
  clear hg4 hb4
  go_wp2_with fail
  go_ret2
  exact ⟨_, rfl, put_all HG4.out, ((HB4.out.setCell hsz _).setCell hsz _).setCell hsz _⟩
end Go.Proofs.Ytfpdhmecomgbdaa
