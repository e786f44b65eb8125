import Derived.Test.YtmidpekkomhogaaMg05
import Derived.Test.YtmidpekkomhogaaShelf
import Derived.Lib.MapLaws
import Derived.Laws.Cover4
import Derived.Laws.IdiomStrings
import Derived.Deep.LoopGhost
import Derived.Test.YtmidpekkomhogaaMg01
import Derived.Laws.OwnMore
import Derived.Deep.DeepMust
section
/- Patterns: the runes that are an atom only behind a backslash. -/

namespace Go.Proofs.Ytmidpekkomhogaa.Pat
open Go.RowKit

def marks : ByteArray := ⟨#[42, 43, 63, 124, 40, 41, 91, 93]⟩
theorem valid_of {r : Int} (h : okR r) : Lib.validRune r = true := by
  unfold Lib.validRune okR at *
  simp
  omega
theorem encode_shape {r : Int} (h0 : 128 ≤ r) (hok : okR r) : ∃ c : UInt8, 128 ≤ c.toNat ∧ ((∃ a, Utf8.encode r = ⟨#[a, c]⟩) ∨ (∃ a b, Utf8.encode r = ⟨#[a, b, c]⟩) ∨ (∃ a b d, Utf8.encode r = ⟨#[a, b, d, c]⟩)) := by
  have hv : Utf8.valid r = true := by unfold Utf8.valid; unfold okR at hok; simp; omega
  unfold Utf8.encode
  simp only [hv, if_true]
  rw [if_neg (by omega)]
  split
  · exact ⟨_, by simp; omega, .inl ⟨_, rfl⟩⟩
  · split
    · exact ⟨_, by simp; omega, .inr (.inl ⟨_, _, rfl⟩)⟩
    · exact ⟨_, by simp; omega, .inr (.inr ⟨_, _, _, rfl⟩)⟩
theorem drewN_below (w : World) (n : Nat) : Below w.heap.size w (w.drewN n) := ⟨rfl, rfl, rfl, Nat.le_refl _, fun _ _ => rfl⟩
theorem index_none : ∀ (l : List UInt8) (c : UInt8), 128 ≤ c.toNat → (∀ x ∈ l, x.toNat < 128) → Lib.indexByte l c = -1
  | [], _, _, _ => rfl
  | x :: l, c, hc, h => by
    have hx := h x List.mem_cons_self
    have hne : (x == c) = false := by
      simp only [beq_eq_false_iff_ne, ne_eq]
      rintro rfl
      omega
    rw [Lib.indexByte, hne, index_none l c hc (fun y hy => h y (List.mem_cons_of_mem _ hy))]
    rfl
theorem index_far2_call (a c : UInt8) (hc : 128 ≤ c.toNat) (W : World) :
    Calls Try.prog 89 #[.string ((⟨#[42, 43, 63, 124, 40, 41, 91, 93]⟩ : ByteArray).extract 2 8), .int .u8 ((((⟨#[a, c]⟩ : ByteArray)[1]'(by show 1 < 2; omega)).toNat : Nat) : Int)] W fun e w' => e = .returned (.int .i64 (-1)) ∧ w' = W := by
  refine (Try.strings_IndexByte _ _ W).mono fun e w' q => ⟨?_, q.2⟩
  rw [q.1]
  have e1 : ((⟨#[42, 43, 63, 124, 40, 41, 91, 93]⟩ : ByteArray).extract 2 8).data.toList = [63, 124, 40, 41, 91, 93] := by decide +kernel
  have e2 : (((((⟨#[a, c]⟩ : ByteArray)[1]'(by show 1 < 2; omega)).toNat : Nat) : Int)).toNat.toUInt8 = c := by
    show ((c.toNat : Int)).toNat.toUInt8 = c
    simp
  rw [e1, e2]
  congr 2
  exact index_none _ c hc (by decide)
set_option maxHeartbeats 2000000 in
set_option maxRecDepth 100000 in
theorem index_far2 (r : Int) (w : World) (h0 : 128 ≤ r) (hok : okR r) (hne : r ≠ 65533) (a c : UInt8) (hc : 128 ≤ c.toNat) (hE : Utf8.encode r = ⟨#[a, c]⟩) :
    Calls Try.prog 88 #[.string ⟨#[42, 43, 63, 124, 40, 41, 91, 93]⟩, .int .i32 r] w fun e w' => e = .returned (.int .i64 (-1)) ∧ Below w.heap.size w w' := by
  have h1 : (0 : Int) ≤ r := by omega
  have d1 : decide (r < 128) = false := by simp; omega
  have d2 : (r == 65533) = false := by simpa using hne
  have HV := Lib.hid (show Calls Try.prog 90 #[.int .i32 r] w fun e w' => e = .returned (.bool true) ∧ w = w' from (Try.utf8_ValidRune r w).mono fun _ _ q => ⟨by rw [q.1, valid_of hok], q.2.symm⟩)
  have HX := Lib.hid (index_far2_call a c hc)
  clear hok hne
  go_enter Try.func88, Try.ntmps88
  go_wp2_with fail
  refine HV.out.mono ?_
  rintro e w' ⟨rfl, rfl⟩
  go_wp2_with fail
  go_step3
  go_wp2_with fail
  go_loopg [9] 1 (fun k v9 wr => k = 1 ∧ v9 = .int .i64 1 ∧ Hid (w = wr))
  case atStart => exact ⟨rfl, rfl, rfl⟩
  case round =>
    obtain ⟨rfl, rfl, HW⟩ := hrel
    obtain rfl := HW.out
    have q2 : (((⟨#[42, 43, 63, 124, 40, 41, 91, 93]⟩ : ByteArray)[1].toNat : Int) != (((⟨#[a, c]⟩ : ByteArray)[1]'(by show 1 < 2; omega)).toNat : Int)) = true := by
      show ((43 : Int) != (c.toNat : Int)) = true
      simp; omega
    go_wp2_with fail
    go_step3
    go_wp2_with fail
    go_quiet (fail)
    go_wp2_with fail
    obtain ⟨W, hW⟩ : ∃ W, w.drewN nq = W := ⟨_, rfl⟩
    have HB := Lib.hid (show Below w.heap.size w W by rw [← hW]; exact drewN_below w nq)
    rw [hW]
    clear hW q2
    have HB2 := Lib.hid (fun n => (show Below w.heap.size w (W.drewN n) from HB.out.trans ((drewN_below W n).mono HB.out.size)))
    have hw : IntKind.i64.wrap 2 = 2 := by rw [IntKind.wrap_i64]; rfl
    go_quiet ((go_at_call 89; exact Calls.quiet_of_same (HX.out _)))
    clear hw
    go_wp2
    rw [Exit.noGoto_ret]
    go_wp2
    rw [Exit.noGoto_ret]
    go_wp2
    go_ret
    exact ⟨rfl, HB2.out _⟩
theorem index_far3_call (a b c : UInt8) (hc : 128 ≤ c.toNat) (W : World) :
    Calls Try.prog 89 #[.string ((⟨#[42, 43, 63, 124, 40, 41, 91, 93]⟩ : ByteArray).extract 3 8), .int .u8 ((((⟨#[a, b, c]⟩ : ByteArray)[2]'(by show 2 < 3; omega)).toNat : Nat) : Int)] W fun e w' => e = .returned (.int .i64 (-1)) ∧ w' = W := by
  refine (Try.strings_IndexByte _ _ W).mono fun e w' q => ⟨?_, q.2⟩
  rw [q.1]
  have e1 : ((⟨#[42, 43, 63, 124, 40, 41, 91, 93]⟩ : ByteArray).extract 3 8).data.toList = [124, 40, 41, 91, 93] := by decide +kernel
  have e2 : (((((⟨#[a, b, c]⟩ : ByteArray)[2]'(by show 2 < 3; omega)).toNat : Nat) : Int)).toNat.toUInt8 = c := by
    show ((c.toNat : Int)).toNat.toUInt8 = c
    simp
  rw [e1, e2]
  congr 2
  exact index_none _ c hc (by decide)
set_option maxHeartbeats 2000000 in
set_option maxRecDepth 100000 in
theorem index_far3 (r : Int) (w : World) (h0 : 128 ≤ r) (hok : okR r) (hne : r ≠ 65533) (a b c : UInt8) (hc : 128 ≤ c.toNat) (hE : Utf8.encode r = ⟨#[a, b, c]⟩) :
    Calls Try.prog 88 #[.string ⟨#[42, 43, 63, 124, 40, 41, 91, 93]⟩, .int .i32 r] w fun e w' => e = .returned (.int .i64 (-1)) ∧ Below w.heap.size w w' := by
  have h1 : (0 : Int) ≤ r := by omega
  have d1 : decide (r < 128) = false := by simp; omega
  have d2 : (r == 65533) = false := by simpa using hne
  have HV := Lib.hid (show Calls Try.prog 90 #[.int .i32 r] w fun e w' => e = .returned (.bool true) ∧ w = w' from (Try.utf8_ValidRune r w).mono fun _ _ q => ⟨by rw [q.1, valid_of hok], q.2.symm⟩)
  have HX := Lib.hid (index_far3_call a b c hc)
  clear hok hne
  go_enter Try.func88, Try.ntmps88
  go_wp2_with fail
  refine HV.out.mono ?_
  rintro e w' ⟨rfl, rfl⟩
  go_wp2_with fail
  go_step3
  go_wp2_with fail
  go_loopg [9] 1 (fun k v9 wr => k = 1 ∧ v9 = .int .i64 2 ∧ Hid (w = wr))
  case atStart => exact ⟨rfl, rfl, rfl⟩
  case round =>
    obtain ⟨rfl, rfl, HW⟩ := hrel
    obtain rfl := HW.out
    have q2 : (((⟨#[42, 43, 63, 124, 40, 41, 91, 93]⟩ : ByteArray)[2].toNat : Int) != (((⟨#[a, b, c]⟩ : ByteArray)[2]'(by show 2 < 3; omega)).toNat : Int)) = true := by
      show ((63 : Int) != (c.toNat : Int)) = true
      simp; omega
    go_wp2_with fail
    go_step3
    go_wp2_with fail
    go_quiet (fail)
    go_wp2_with fail
    obtain ⟨W, hW⟩ : ∃ W, w.drewN nq = W := ⟨_, rfl⟩
    have HB := Lib.hid (show Below w.heap.size w W by rw [← hW]; exact drewN_below w nq)
    rw [hW]
    clear hW q2
    have HB2 := Lib.hid (fun n => (show Below w.heap.size w (W.drewN n) from HB.out.trans ((drewN_below W n).mono HB.out.size)))
    have hw : IntKind.i64.wrap 3 = 3 := by rw [IntKind.wrap_i64]; rfl
    go_quiet ((go_at_call 89; exact Calls.quiet_of_same (HX.out _)))
    clear hw
    go_wp2
    rw [Exit.noGoto_ret]
    go_wp2
    rw [Exit.noGoto_ret]
    go_wp2
    go_ret
    exact ⟨rfl, HB2.out _⟩
theorem index_far4_call (a b d c : UInt8) (hc : 128 ≤ c.toNat) (W : World) :
    Calls Try.prog 89 #[.string ((⟨#[42, 43, 63, 124, 40, 41, 91, 93]⟩ : ByteArray).extract 4 8), .int .u8 ((((⟨#[a, b, d, c]⟩ : ByteArray)[3]'(by show 3 < 4; omega)).toNat : Nat) : Int)] W fun e w' => e = .returned (.int .i64 (-1)) ∧ w' = W := by
  refine (Try.strings_IndexByte _ _ W).mono fun e w' q => ⟨?_, q.2⟩
  rw [q.1]
  have e1 : ((⟨#[42, 43, 63, 124, 40, 41, 91, 93]⟩ : ByteArray).extract 4 8).data.toList = [40, 41, 91, 93] := by decide +kernel
  have e2 : (((((⟨#[a, b, d, c]⟩ : ByteArray)[3]'(by show 3 < 4; omega)).toNat : Nat) : Int)).toNat.toUInt8 = c := by
    show ((c.toNat : Int)).toNat.toUInt8 = c
    simp
  rw [e1, e2]
  congr 2
  exact index_none _ c hc (by decide)
set_option maxHeartbeats 2000000 in
set_option maxRecDepth 100000 in
theorem index_far4 (r : Int) (w : World) (h0 : 128 ≤ r) (hok : okR r) (hne : r ≠ 65533) (a b d c : UInt8) (hc : 128 ≤ c.toNat) (hE : Utf8.encode r = ⟨#[a, b, d, c]⟩) :
    Calls Try.prog 88 #[.string ⟨#[42, 43, 63, 124, 40, 41, 91, 93]⟩, .int .i32 r] w fun e w' => e = .returned (.int .i64 (-1)) ∧ Below w.heap.size w w' := by
  have h1 : (0 : Int) ≤ r := by omega
  have d1 : decide (r < 128) = false := by simp; omega
  have d2 : (r == 65533) = false := by simpa using hne
  have HV := Lib.hid (show Calls Try.prog 90 #[.int .i32 r] w fun e w' => e = .returned (.bool true) ∧ w = w' from (Try.utf8_ValidRune r w).mono fun _ _ q => ⟨by rw [q.1, valid_of hok], q.2.symm⟩)
  have HX := Lib.hid (index_far4_call a b d c hc)
  clear hok hne
  go_enter Try.func88, Try.ntmps88
  go_wp2_with fail
  refine HV.out.mono ?_
  rintro e w' ⟨rfl, rfl⟩
  go_wp2_with fail
  go_step3
  go_wp2_with fail
  go_loopg [9] 1 (fun k v9 wr => k = 1 ∧ v9 = .int .i64 3 ∧ Hid (w = wr))
  case atStart => exact ⟨rfl, rfl, rfl⟩
  case round =>
    obtain ⟨rfl, rfl, HW⟩ := hrel
    obtain rfl := HW.out
    have q2 : (((⟨#[42, 43, 63, 124, 40, 41, 91, 93]⟩ : ByteArray)[3].toNat : Int) != (((⟨#[a, b, d, c]⟩ : ByteArray)[3]'(by show 3 < 4; omega)).toNat : Int)) = true := by
      show ((124 : Int) != (c.toNat : Int)) = true
      simp; omega
    go_wp2_with fail
    go_step3
    go_wp2_with fail
    go_quiet (fail)
    go_wp2_with fail
    obtain ⟨W, hW⟩ : ∃ W, w.drewN nq = W := ⟨_, rfl⟩
    have HB := Lib.hid (show Below w.heap.size w W by rw [← hW]; exact drewN_below w nq)
    rw [hW]
    clear hW q2
    have HB2 := Lib.hid (fun n => (show Below w.heap.size w (W.drewN n) from HB.out.trans ((drewN_below W n).mono HB.out.size)))
    have hw : IntKind.i64.wrap 4 = 4 := by rw [IntKind.wrap_i64]; rfl
    go_quiet ((go_at_call 89; exact Calls.quiet_of_same (HX.out _)))
    clear hw
    go_wp2
    rw [Exit.noGoto_ret]
    go_wp2
    rw [Exit.noGoto_ret]
    go_wp2
    go_ret
    exact ⟨rfl, HB2.out _⟩

/-- The runes that are an atom only behind a backslash. -/
theorem marks_dec (pos : Nat) (h : pos < 8) : (Utf8.decode marks pos).1 < 128 ∧ (Utf8.decode marks pos).2 = 1 := by
  have : ∀ p : Fin 8, (Utf8.decode marks p.1).1 < 128 ∧ (Utf8.decode marks p.1).2 = 1 := by decide +kernel
  exact this ⟨pos, h⟩
set_option maxHeartbeats 2000000 in
set_option maxRecDepth 100000 in
theorem index_err (w : World) : Calls Try.prog 88 #[.string ⟨#[42, 43, 63, 124, 40, 41, 91, 93]⟩, .int .i32 65533] w fun e w' => e = .returned (.int .i64 (-1)) ∧ Below w.heap.size w w' := by
  show Calls Try.prog 88 #[.string marks, .int .i32 65533] w fun e w' => e = .returned (.int .i64 (-1)) ∧ Below w.heap.size w w'
  have HM := Lib.hid (show marks.size = 8 from rfl)
  have HD := Lib.hid marks_dec
  generalize marks = s at HM HD
  go_enter Try.func88, Try.ntmps88
  go_wp2
  go_loopw [6] (fun _ wr => ∃ (pos : Nat), wr.heap[w.heap.size]? = some (.stringIter s pos) ∧ Below w.heap.size w wr) (fun _ wr => s.size - wr.iterPos w.heap.size)
  case atStart => exact ⟨0, World.iter_heap w s 0, (Below.refl _ _).alloc (Nat.le_refl _) _⟩
  case round =>
    obtain ⟨pos, hit, hbw⟩ := hrel
    have hpos0 := iterPos_of hit
    by_cases hp : pos < s.size
    · have hnx : ∀ ty, (Instr.next (.pointer (some ⟨w.heap.size, 0, none⟩)) true ty).run Try.prog wr = _ := fun ty => Lib.run_next_any_at wr w.heap.size s pos ty hit hp
      have hit2 := Lib.iterAt_heap wr w.heap.size s pos (pos + (Utf8.decode s pos).2) hit
      have hbw2 := Lib.below_iterAt hbw (k := w.heap.size) (Nat.le_refl _) s (pos + (Utf8.decode s pos).2)
      have hd := HD.out pos (by rw [← HM.out]; exact hp)
      have hne : (((Utf8.decode s pos).1 : Int) == 65533) = false := by
        have := hd.1
        simp only [beq_eq_false_iff_ne, ne_eq]; omega
      have hw := Lib.hid hd.2
      clear hd
      go_wp2
      go_roundw
      case rel => exact ⟨pos + (Utf8.decode s pos).2, hit2, hbw2⟩
      case measure => rw [iterPos_of hit2, hpos0, hw.out]; omega
    · have hnx : ∀ ty, (Instr.next (.pointer (some ⟨w.heap.size, 0, none⟩)) true ty).run Try.prog wr = _ := fun ty => Lib.run_next_end_at wr w.heap.size s pos ty hit hp
      go_wp2
      go_ret
      exact ⟨rfl, hbw⟩
theorem index_marks (r : Int) (w : World) (hok : okR r) (h : 128 ≤ r) :
    Calls Try.prog 88 #[.string ⟨#[42, 43, 63, 124, 40, 41, 91, 93]⟩, .int .i32 r] w fun e w' => e = .returned (.int .i64 (-1)) ∧ Below w.heap.size w w' := by
  by_cases h2 : r = 65533
  · subst h2; exact index_err w
  · obtain ⟨c, hc, ⟨a, hE⟩ | ⟨a, b, hE⟩ | ⟨a, b, d, hE⟩⟩ := encode_shape h hok
    · exact index_far2 r w h hok h2 a c hc hE
    · exact index_far3 r w h hok h2 a b c hc hE
    · exact index_far4 r w h hok h2 a b d c hc hE
theorem marks_ascii (r : Int) (h0 : 0 ≤ r) (h1 : r < 128) : decide (0 ≤ Lib.indexByte marks.data.toList r.toNat.toUInt8) = markB r := by
  have : ∀ p : Fin 128, decide (0 ≤ Lib.indexByte marks.data.toList p.1.toUInt8) = markB (p.1 : Int) := by decide +kernel
  obtain ⟨n, rfl⟩ := Int.eq_ofNat_of_zero_le h0
  exact this ⟨n, by omega⟩
set_option maxHeartbeats 2000000 in
set_option maxRecDepth 100000 in
theorem contains_any (r : Int) (hok : okR r) (w : World) :
    Calls Try.prog 86 #[.string ⟨#[42, 43, 63, 124, 40, 41, 91, 93]⟩, .int .i32 r] w fun e w' => e = .returned (.bool (markB r)) ∧ Below w.heap.size w w' := by
  have h0 : 0 ≤ r := by unfold okR at hok; omega
  by_cases h : r < 128
  · refine (Try.strings_ContainsRune_ascii _ r w h0 h).mono fun e w' q => ?_
    obtain ⟨q1, rfl⟩ := q
    exact ⟨by rw [q1, ← marks_ascii r h0 h]; rfl, Below.refl _ _⟩
  · have HI := Lib.hid (index_marks r w hok (by omega))
    have hm : markB r = false := by unfold markB; simp; omega
    rw [hm]
    clear hm hok
    go_enter Try.func86, Try.ntmps86
    go_wp2_with fail
    refine HI.out.mono ?_
    rintro e w1 ⟨rfl, b1⟩
    go_wp2
    go_ret
    exact ⟨rfl, b1⟩
end Go.Proofs.Ytmidpekkomhogaa.Pat
end

section
/- Patterns: rows of parts; alternatives. -/

namespace Go.Proofs.Ytmidpekkomhogaa.Pat
open Go.RowKit

theorem info38 : (Try.prog.info? 102).map (fun i => (i.zero, i.size, i.bytes)) = some (some .nilIface, 1, 16) := by kernel_rfl
/-- A row of the call's own that holds parts, none of them in the row's own block. -/
def Kids (w0 w : World) (v : Value) (l : List Pt) : Prop := ∃ vs, w.ownsRow w0.heap.size 102 1 v l.length vs ∧ ∀ (j : Nat) u x, vs[j]? = some u → l[j]? = some x → Tree w (fun b => w0.heap.size ≤ b ∧ some b ≠ v.ownBlock) u x
theorem Kids.start (w0 w : World) : Kids w0 w (.slice none 0 0) [] := ⟨[], World.ownsRow_nil _ _ _ _, fun j u x h => by simp at h⟩
theorem Kids.grown {w0 w w' : World} {v : Value} {l : List Pt} {bd : Nat} (h : Kids w0 w v l) (hg : w.grownBy w' (some bd)) (hb : bd < w0.heap.size) : Kids w0 w' v l := by
  obtain ⟨vs, h1, h2⟩ := h
  refine ⟨vs, h1.kept hg ?_, fun j u x hu hx => (h2 j u x hu hx).grown hg (fun b hb2 => by omega)⟩
  cases ho : v.ownBlock with
  | none => exact .inl rfl
  | some g =>
    have := (h1.lt g ho).1
    exact .inr (by simp; omega)
theorem Kids.alloc {w0 w : World} {v : Value} {l : List Pt} (h : Kids w0 w v l) (o : Obj) : Kids w0 (w.alloc o) v l := by
  obtain ⟨vs, h1, h2⟩ := h
  exact ⟨vs, h1.alloc o, fun j u x hu hx => (h2 j u x hu hx).keep fun b hb hl => ⟨Below.heap_alloc _ _ _ hl, hb⟩⟩
theorem Kids.block {w0 w : World} {v : Value} {l : List Pt} (h : Kids w0 w v l) : ∀ k, v.ownBlock = some k → w0.heap.size ≤ k ∧ k < w.heap.size := by
  obtain ⟨vs, h1, _⟩ := h; exact h1.lt
theorem Kids.length {w0 w : World} {v : Value} {l : List Pt} (h : Kids w0 w v l) : ∃ o c, v = .slice o l.length c := by
  obtain ⟨vs, h1, _⟩ := h; exact own_shape h1
/-- One part more. -/
theorem Kids.push {w0 w w' : World} {v v' u : Value} {l : List Pt} {x : Pt} {vs : List Value} (h : w.ownsRow w0.heap.size 102 1 v l.length vs ∧ ∀ (j : Nat) u x, vs[j]? = some u → l[j]? = some x → Tree w (fun b => w0.heap.size ≤ b ∧ some b ≠ v.ownBlock) u x)
    (hu : Tree w (fun b => w0.heap.size ≤ b ∧ some b ≠ v.ownBlock) u x) (ho : w'.ownsRow w0.heap.size 102 1 v' (l.length + 1) (vs ++ [u])) (hg : w.grownBy w' v.ownBlock) (hv : v'.ownBlock = v.ownBlock ∨ v'.ownBlock = some w.heap.size) : Kids w0 w' v' (l ++ [x]) := by
  have hk : ∀ b, (w0.heap.size ≤ b ∧ some b ≠ v.ownBlock) → b < w.heap.size → w'.heap[b]? = w.heap[b]? ∧ (w0.heap.size ≤ b ∧ some b ≠ v'.ownBlock) := by
    intro b hb hl
    refine ⟨hg.block b hl hb.2, hb.1, ?_⟩
    rcases hv with hv | hv
    · rw [hv]; exact hb.2
    · rw [hv]; simp; omega
  refine ⟨vs ++ [u], by rw [List.length_append]; exact ho, fun j a y ha hy => ?_⟩
  have hlen : vs.length = l.length := by have := h.1.1; omega
  by_cases hj : j < l.length
  · rw [List.getElem?_append_left (by omega)] at ha
    rw [List.getElem?_append_left hj] at hy
    exact (h.2 j a y ha hy).keep hk
  · rw [List.getElem?_append_right (by omega)] at ha
    rw [List.getElem?_append_right (by omega)] at hy
    by_cases h0 : j = l.length
    · subst h0
      simp [hlen] at ha hy
      subst ha; subst hy
      exact hu.keep hk
    · obtain ⟨k, hk2⟩ : ∃ k, j - l.length = k + 1 := ⟨j - l.length - 1, by omega⟩
      rw [hk2] at hy
      simp at hy
theorem Kids.sees {w0 w : World} {o : Option Addr} {n c : Nat} {l : List Pt} (h : Kids w0 w (.slice o n c) l) : ∃ vs : List Value, vs.length = n ∧ l.length = n ∧ SeesV w (fun b => w0.heap.size ≤ b) o vs ∧ ∀ (j : Nat) u x, vs[j]? = some u → l[j]? = some x → Tree w (fun b => w0.heap.size ≤ b) u x := by
  obtain ⟨vs, h1, h2⟩ := h
  have hl := h1.1
  obtain ⟨o', c', e⟩ := own_shape h1
  injection e with e1 e2 e3
  refine ⟨vs, by omega, e2.symm, ?_, fun j u x hu hx => (h2 j u x hu hx).keep fun b hb _ => ⟨rfl, hb.1⟩⟩
  rcases h1.2 with ⟨e, h0⟩ | ⟨g, cap, cur, e, hB, hg, _⟩
  · exact .inl (List.eq_nil_of_length_eq_zero (by omega))
  · injection e with e1 _ _
    subst e1
    refine .inr ⟨g, 0, rfl, hB, (Array.getElem?_eq_some_iff.1 hg).1, fun j v hv => ?_⟩
    have := h1.cells (g := g) rfl j v hv
    simpa [Addr.add_lit] using this
theorem cell_1k (w : World) (v : Value) (t : TypeId) (k : Nat) (hk : w.heap.size = k) : ∀ j u, [v][j]? = some u → (w.alloc (.cells #[v] t)).cell? ((⟨k, 0, none⟩ : Addr).add j) = some u := by
  subst hk
  intro j u hj
  match j, hj with
  | 0, hj => simp at hj; subst hj; simp [Addr.add]
  | j + 1, hj => simp at hj
theorem one_iface (t : TypeId) (u : Value) : ∀ v ∈ [Value.iface t u], v.oneCell' = true := by
  intro v hv; simp at hv; subst hv; rfl

/-- What the walk over alternatives holds. -/
structure ChoiceAt (w0 : World) (bd : Nat) (t : Option (List Pt × List Sg)) (wr : World) (l : List Sg) (acc : List Pt) (v : Value) : Prop where
  rd : Rd wr bd l
  grown : w0.grownBy wr (some bd)
  kids : Kids w0 wr v acc
  same : choiceP l acc = t
  few : acc.length + l.length ≤ 1000000
  far : bd < w0.heap.size
def ChoiceLoop (w0 : World) (bd : Nat) (t : Option (List Pt × List Sg)) (k : Nat) (v : Value) (wr : World) : Prop := ∃ l acc, l.length = k ∧ ChoiceAt w0 bd t wr l acc v

def ChainC (l : List Sg) : Prop := ∀ (w : World) (bd : Nat), Rd w bd l → Calls Try.prog 75 #[.pointer (some ⟨bd, 0, none⟩)] w (Res w bd ((chainP l []).map fun p => (.chain p.1, p.2)))
def ChoiceC (l : List Sg) : Prop := ∀ (w : World) (bd : Nat), Rd w bd l → Calls Try.prog 66 #[.pointer (some ⟨bd, 0, none⟩)] w (Res w bd ((choiceP l []).map fun p => (.choice p.1, p.2)))

set_option maxHeartbeats 4000000 in
set_option maxRecDepth 100000 in
theorem choice_of (n : Nat) (hC : ∀ m : List Sg, m.length ≤ n → ChainC m) (l : List Sg) (hl : l.length ≤ n) : ChoiceC l := by
  intro w bd h
  obtain ⟨ie, hi, hz0, hz1, hz2⟩ := info_parts info38
  have hlt := h.lt
  obtain ⟨t, ht⟩ : ∃ t, choiceP l [] = t := ⟨_, rfl⟩
  have HST : ChoiceLoop w bd t l.length (.slice none 0 0) w := ⟨l, [], rfl, h, grown_refl _ _, Kids.start _ _, ht, by
    obtain ⟨_, _, _, hm, _⟩ := h.cell; simpa using hm, hlt⟩
  have HC := Lib.hid hC
  have HT := Lib.hid ht
  clear h hC
  rw [ht]
  clear ht
  go_enter Try.func66, Try.ntmps66
  go_wp2_with fail
  go_loopg [4] l.length (fun k v wr => k ≤ n ∧ ChoiceLoop w bd t k v wr)
  case atStart => exact ⟨hl, HST⟩
  case round =>
    clear HST hl
    obtain ⟨hgn, l2, acc, rfl, H⟩ := hrel
    have HH := Lib.hid H
    have HCC := Lib.hid (HC.out l2 hgn wr bd H.rd)
    have HEQ := Lib.hid (choiceP_eq l2 acc)
    clear H
    cases hch : chainP l2 [] with
    | none =>
      have HT0 := Lib.hid (show t = none by rw [← HH.out.same, HEQ.out, hch])
      rw [hch] at HCC
      clear hch
      go_wp2_with fail
      refine HCC.out.mono ?_
      rintro e w1 ⟨u, rfl, hg⟩
      have HG := Lib.hid hg
      clear hg
      go_wp2
      go_ret2
      rw [HT0.out]
      exact ⟨_, rfl, grown_trans HH.out.grown HG.out⟩
    | some p =>
      obtain ⟨c, m⟩ := p
      have hml := chainP_le hch
      have HT0 := Lib.hid (show t = if atB m 124 then choiceP m.tail (acc ++ [.chain c]) else some (acc ++ [.chain c], m) by rw [← HH.out.same, HEQ.out, hch])
      rw [hch] at HCC
      clear hch
      go_wp2_with fail
      refine HCC.out.mono ?_
      rintro e w1 ⟨u, rfl, ht1, hr1, hg1⟩
      obtain ⟨tu, uu, rfl⟩ := ht1.iface
      have hk1 := HH.out.kids.grown hg1 HH.out.far
      have hT1 := ht1.keep (w' := w1) (Q := fun b => w.heap.size ≤ b ∧ some b ≠ u4.ownBlock) (fun b hb _ => ⟨rfl, by have := HH.out.grown.size; omega, fun e => by have := (HH.out.kids.block b e.symm).2; omega⟩)
      have HR1 := Lib.hid hr1
      have HG1 := Lib.hid (grown_trans HH.out.grown hg1)
      have hsz : w.heap.size ≤ w1.heap.size := HG1.out.size
      have hfw := HH.out.few
      obtain ⟨vs, hown, hkid⟩ := hk1
      have HKID := Lib.hid (And.intro (hown.alloc (Obj.cells #[.iface tu uu] 102)) (fun j u x hu hx => (hkid j u x hu hx).keep (w' := w1.alloc (Obj.cells #[.iface tu uu] 102)) (fun b hb hl => ⟨Below.heap_alloc _ _ _ hl, hb⟩)))
      have HT1 := Lib.hid (hT1.keep (w' := w1.alloc (Obj.cells #[.iface tu uu] 102)) (fun b hb hl => ⟨Below.heap_alloc _ _ _ hl, hb⟩))
      clear hown hkid hT1 ht1 hg1 hr1
      go_wp2_with (at_builtin; go_must (refine wpList_append_keeps _ rfl _ _ 128 rfl w.heap.size 102 ie .nilIface 1 16 Try.underlying128 hi hz0 hz1 hz2 rfl (by decide) _ _ _ rfl HKID.out.1 ⟨w1.heap.size, 0, none⟩ 1 1 [.iface tu uu] rfl rfl (cell_1k _ _ _ _ rfl) (one_iface _ _) (by unfold maxLen; omega) (by omega) (by simp; omega) ?_); intro v' w5 hown' hgrow' hblk' _; replace hgrow' : World.grownBy _ w5 u4.ownBlock := hgrow'; replace hblk' : v'.ownBlock = u4.ownBlock ∨ _ := hblk'; have H5 := Lib.hid (Kids.push HKID.out HT1.out hown' hgrow' hblk'); have HG5 := Lib.hid (grown_own (grown_alloc HG1.out (Obj.cells #[.iface tu uu] 102)) hgrow' (fun k hk => (HH.out.kids.block k hk).1)); have HR5 := Lib.hid ((HR1.out.alloc (Obj.cells #[.iface tu uu] 102)).grownOwn hgrow' (fun k hk => Nat.lt_of_lt_of_le HH.out.far (HH.out.kids.block k hk).1)); clear hown' hgrow' hblk')
      cases hb : atB m 124 with
      | true =>
        have hmt := tail_lt hb
        have HTK := Lib.hid (take_yes bd m 124 w5 HR5.out hb)
        have HS := Lib.hid (show choiceP m.tail (acc ++ [.chain c]) = t by rw [HT0.out, if_pos hb])
        clear hb
        refine HTK.out.mono ?_
        rintro e w6 ⟨rfl, hr6, hg6⟩
        have HR6 := Lib.hid hr6
        have HG6 := Lib.hid hg6
        clear hr6 hg6
        go_wp2
        go_roundg m.tail.length
        case measure => omega
        case rel => exact ⟨by omega, m.tail, acc ++ [.chain c], rfl, HR6.out, grown_trans HG5.out HG6.out, H5.out.grown HG6.out HH.out.far, HS.out, by simp; omega, HH.out.far⟩
      | false =>
        have HTK := Lib.hid (take_no bd m 124 w5 HR5.out hb)
        have HS := Lib.hid (show t = some (acc ++ [.chain c], m) by rw [HT0.out, hb]; rfl)
        clear hb
        refine HTK.out.mono ?_
        rintro e w6 ⟨rfl, rfl⟩
        go_wp2
        go_ret2
        rw [HS.out]
        obtain ⟨o', c', hv⟩ := H5.out.length
        subst hv
        obtain ⟨ws, k1, k2, k3, k4⟩ := H5.out.sees
        exact ⟨_, rfl, .choice o' _ c' ws _ k1 k2 (by simp; omega) k3 k4, HR5.out, HG5.out⟩
end Go.Proofs.Ytmidpekkomhogaa.Pat
end

section
/- Patterns: parts that stand one behind the other. -/

namespace Go.Proofs.Ytmidpekkomhogaa.Pat
open Go.RowKit

/-- What the walk over a chain holds. -/
structure ChainAt (w0 : World) (bd : Nat) (t : Option (List Pt × List Sg)) (wr : World) (l : List Sg) (acc : List Pt) (v : Value) : Prop where
  rd : Rd wr bd l
  grown : w0.grownBy wr (some bd)
  kids : Kids w0 wr v acc
  same : chainP l acc = t
  few : acc.length + l.length ≤ 1000000
  far : bd < w0.heap.size
def ChainLoop (w0 : World) (bd : Nat) (t : Option (List Pt × List Sg)) (k : Nat) (v : Value) (wr : World) : Prop := ∃ l acc, l.length = k ∧ ChainAt w0 bd t wr l acc v
def AtomC (l : List Sg) : Prop := ∀ (w : World) (bd : Nat), l ≠ [] → Rd w bd l → Calls Try.prog 81 #[.pointer (some ⟨bd, 0, none⟩)] w (Res w bd (atomP l))
theorem chain_res {w0 wr : World} {bd : Nat} {t : Option (List Pt × List Sg)} {l : List Sg} {acc : List Pt} {v : Value} (h : ChainAt w0 bd t wr l acc v) (hs : stopB l = true) :
    Res w0 bd (t.map fun p => (.chain p.1, p.2)) (.returned (.tuple #[.iface 131 v, .bool true])) wr := by
  have ht : t = some (acc, l) := by rw [← h.same, chainP_eq, if_pos hs]
  subst ht
  obtain ⟨o', c', hv⟩ := h.kids.length
  subst hv
  obtain ⟨ws, k1, k2, k3, k4⟩ := h.kids.sees
  have hf := h.few
  exact ⟨_, rfl, .chain o' _ c' ws _ k1 k2 (by omega) k3 k4, h.rd, h.grown⟩

set_option maxHeartbeats 4000000 in
set_option maxRecDepth 100000 in
theorem chain_of (n : Nat) (hC : ∀ m : List Sg, m.length ≤ n → AtomC m) (l : List Sg) (hl : l.length ≤ n) : ChainC l := by
  intro w bd h
  obtain ⟨ie, hi, hz0, hz1, hz2⟩ := info_parts info38
  have hlt := h.lt
  obtain ⟨t, ht⟩ : ∃ t, chainP l [] = t := ⟨_, rfl⟩
  have HST : ChainLoop w bd t l.length (.slice none 0 0) w := ⟨l, [], rfl, h, grown_refl _ _, Kids.start _ _, ht, by
    obtain ⟨_, _, _, hm, _⟩ := h.cell; simpa using hm, hlt⟩
  have HC := Lib.hid hC
  have HT := Lib.hid ht
  clear h hC
  rw [ht]
  clear ht
  go_enter Try.func75, Try.ntmps75
  go_wp2_with fail
  go_loopg [4] l.length (fun k v wr => k ≤ n ∧ ChainLoop w bd t k v wr)
  case atStart => exact ⟨hl, HST⟩
  case round =>
    clear HST hl
    obtain ⟨hgn, l2, acc, rfl, H⟩ := hrel
    have HH := Lib.hid H
    obtain ⟨o, cap, hcell, hm, _, _⟩ := H.rd.cell
    clear H
    cases hl2 : l2 with
    | nil =>
      subst hl2
      replace hcell : wr.cell? ⟨bd, 0, none⟩ = some (.slice o 0 cap) := hcell
      go_wp2
      go_ret2
      exact chain_res HH.out rfl
    | cons s m =>
      subst hl2
      obtain ⟨k, hk⟩ : ∃ k, (s :: m).length = k := ⟨_, rfl⟩
      rw [hk] at hcell hm hgn
      have i0 : (0 : Int) < k := by rw [← hk]; simp
      have HK := Lib.hid hk
      clear hk
      cases h1 : atB (s :: m) 124 with
      | true =>
        have HS := Lib.hid (show stopB (s :: m) = true by unfold stopB; rw [h1]; simp)
        have H1 := Lib.hid h1
        clear h1
        go_wp2_with fail
        refine (at_is bd _ 124 true H1.out _ HH.out.rd).mono ?_
        rintro e w2 ⟨rfl, rfl⟩
        go_wp2
        go_ret2
        exact chain_res HH.out HS.out
      | false =>
        cases h2 : atB (s :: m) 41 with
        | true =>
          have HS := Lib.hid (show stopB (s :: m) = true by unfold stopB; rw [h2]; simp)
          have H1 := Lib.hid h1
          have H2 := Lib.hid h2
          clear h1 h2
          go_wp2_with fail
          refine (at_is bd _ 124 false H1.out _ HH.out.rd).mono ?_
          rintro e w2 ⟨rfl, rfl⟩
          go_wp2_with fail
          refine (at_is bd _ 41 true H2.out _ HH.out.rd).mono ?_
          rintro e w2 ⟨rfl, rfl⟩
          go_wp2
          go_ret2
          exact chain_res HH.out HS.out
        | false =>
          have HS := Lib.hid (show stopB (s :: m) = false by unfold stopB; rw [h1, h2]; rfl)
          have H1 := Lib.hid h1
          have H2 := Lib.hid h2
          have HCC := Lib.hid (HC.out (s :: m) (by rw [HK.out]; exact hgn) wr bd (by simp) HH.out.rd)
          have HEQ := Lib.hid (chainP_eq (s :: m) acc)
          clear h1 h2
          cases hch : atomP (s :: m) with
          | none =>
            have HT0 := Lib.hid (show t = none by rw [← HH.out.same, HEQ.out, HS.out, hch]; rfl)
            rw [hch] at HCC
            clear hch
            go_wp2_with fail
            refine (at_is bd _ 124 false H1.out _ HH.out.rd).mono ?_
            rintro e w2 ⟨rfl, rfl⟩
            go_wp2_with fail
            refine (at_is bd _ 41 false H2.out _ HH.out.rd).mono ?_
            rintro e w2 ⟨rfl, rfl⟩
            go_wp2_with fail
            refine HCC.out.mono ?_
            rintro e w1 ⟨u, rfl, hg⟩
            have HG := Lib.hid hg
            clear hg
            go_wp2
            go_ret2
            rw [HT0.out]
            exact ⟨_, rfl, grown_trans HH.out.grown HG.out⟩
          | some p =>
            obtain ⟨x, r⟩ := p
            have hml := Lib.hid (atomP_lt hch)
            have HT0 := Lib.hid (show chainP (timesR r) (acc ++ [timesF x r]) = t by rw [← HH.out.same, HEQ.out, HS.out, hch]; rfl)
            rw [hch] at HCC
            clear hch
            go_wp2_with fail
            refine (at_is bd _ 124 false H1.out _ HH.out.rd).mono ?_
            rintro e w2 ⟨rfl, rfl⟩
            go_wp2_with fail
            refine (at_is bd _ 41 false H2.out _ HH.out.rd).mono ?_
            rintro e w2 ⟨rfl, rfl⟩
            go_wp2_with fail
            refine HCC.out.mono ?_
            rintro e w1 ⟨u, rfl, ht1, hr1, hg1⟩
            have hbdr := HH.out.rd.lt
            have HTM := Lib.hid (times_any bd r u x _ w1 hr1 ht1 (fun b hb => by omega))
            have HG1 := Lib.hid hg1
            clear ht1 hr1 hg1 hcell
            go_wp2_with fail
            refine HTM.out.mono ?_
            rintro e w2 ⟨⟨u2, rfl, ht2⟩, hr2, hg2⟩
            obtain ⟨tu, uu, rfl⟩ := ht2.iface
            have hgg := grown_trans HG1.out hg2
            have hk1 := HH.out.kids.grown hgg HH.out.far
            have hT1 := ht2.keep (w' := w2) (Q := fun b => w.heap.size ≤ b ∧ some b ≠ u4.ownBlock) (fun b hb _ => ⟨rfl, by have := HH.out.grown.size; omega, fun e => by have := (HH.out.kids.block b e.symm).2; omega⟩)
            have HR1 := Lib.hid hr2
            have HG2 := Lib.hid (grown_trans HH.out.grown hgg)
            have hsz : w.heap.size ≤ w2.heap.size := HG2.out.size
            have hfw := HH.out.few
            obtain ⟨vs, hown, hkid⟩ := hk1
            have HKID := Lib.hid (And.intro (hown.alloc (Obj.cells #[.iface tu uu] 102)) (fun j u x hu hx => (hkid j u x hu hx).keep (w' := w2.alloc (Obj.cells #[.iface tu uu] 102)) (fun b hb hl => ⟨Below.heap_alloc _ _ _ hl, hb⟩)))
            have HT1 := Lib.hid (hT1.keep (w' := w2.alloc (Obj.cells #[.iface tu uu] 102)) (fun b hb hl => ⟨Below.heap_alloc _ _ _ hl, hb⟩))
            rw [HK.out] at hfw
            clear hown hkid hT1 ht2 hg2 hr2 hgg HG1 HTM
            go_wp2_with (at_builtin; go_must (refine wpList_append_keeps _ rfl _ _ 131 rfl w.heap.size 102 ie .nilIface 1 16 Try.underlying131 hi hz0 hz1 hz2 rfl (by decide) _ _ _ rfl HKID.out.1 ⟨w2.heap.size, 0, none⟩ 1 1 [.iface tu uu] rfl rfl (cell_1k _ _ _ _ rfl) (one_iface _ _) (by unfold maxLen; omega) (by omega) (by simp; omega) ?_); intro v' w5 hown' hgrow' hblk' _; replace hgrow' : World.grownBy _ w5 u4.ownBlock := hgrow'; replace hblk' : v'.ownBlock = u4.ownBlock ∨ _ := hblk'; have H5 := Lib.hid (Kids.push HKID.out HT1.out hown' hgrow' hblk'); have HG5 := Lib.hid (grown_own (grown_alloc HG2.out (Obj.cells #[.iface tu uu] 102)) hgrow' (fun k hk => (HH.out.kids.block k hk).1)); have HR5 := Lib.hid ((HR1.out.alloc (Obj.cells #[.iface tu uu] 102)).grownOwn hgrow' (fun k hk => Nat.lt_of_lt_of_le HH.out.far (HH.out.kids.block k hk).1)); clear hown' hgrow' hblk')
            have htr := timesR_le r
            have hml2 := hml.out
            rw [HK.out] at hml2
            go_roundg (timesR r).length
            case measure => rw [HK.out]; omega
            case rel => exact ⟨by omega, timesR r, acc ++ [timesF x r], rfl, HR5.out, HG5.out, H5.out, HT0.out, by simp; omega, HH.out.far⟩
end Go.Proofs.Ytmidpekkomhogaa.Pat
end

section
/- Patterns: an atom; what a text of signs is read as. -/

namespace Go.Proofs.Ytmidpekkomhogaa.Pat
open Go.RowKit

theorem Res.map {w : World} {bd : Nat} {e : Ending} {w' : World} {r r2 : Option (Pt × List Sg)} (h : Res w bd r e w') (hr : r = r2) : Res w bd r2 e w' := hr ▸ h

set_option maxHeartbeats 4000000 in
set_option maxRecDepth 100000 in
theorem lit_esc (bd : Nat) (r : Int) (t : List Sg) (w : World) (h : Rd w bd ((r, false) :: t)) (h1 : atB ((r, false) :: t) 40 = false) (h2 : atB ((r, false) :: t) 91 = false) (h3 : atB ((r, false) :: t) 46 = false) :
    Calls Try.prog 81 #[.pointer (some ⟨bd, 0, none⟩)] w (Res w bd (some (.only r, t))) := by
  have HR := Lib.hid h
  have H1 := Lib.hid h1
  have H2 := Lib.hid h2
  have H3 := Lib.hid h3
  clear h h1 h2 h3
  go_enter Try.func81, Try.ntmps81
  go_wp2_with fail
  refine (take_no bd _ 40 w HR.out H1.out).mono ?_
  rintro e w2 ⟨rfl, rfl⟩
  go_wp2_with fail
  refine (take_no bd _ 91 w HR.out H2.out).mono ?_
  rintro e w2 ⟨rfl, rfl⟩
  go_wp2_with fail
  refine (take_no bd _ 46 w HR.out H3.out).mono ?_
  rintro e w2 ⟨rfl, rfl⟩
  go_wp2_with fail
  refine (next_any bd _ _ w HR.out).mono ?_
  rintro e w1 ⟨rfl, hr, hg⟩
  have HR1 := Lib.hid hr
  have HG1 := Lib.hid hg
  clear hr hg
  go_wp2_with fail
  go_quiet (fail)
  go_wp2
  go_ret2
  exact ⟨_, rfl, .only r, (HR1.out.alloc _).below (drewN_below _ _), grown_trans (grown_alloc HG1.out _) (grown_of_below (drewN_below _ _) _)⟩

set_option maxHeartbeats 4000000 in
set_option maxRecDepth 100000 in
theorem lit_bare (bd : Nat) (r : Int) (t : List Sg) (w : World) (h : Rd w bd ((r, true) :: t)) (h1 : atB ((r, true) :: t) 40 = false) (h2 : atB ((r, true) :: t) 91 = false) (h3 : atB ((r, true) :: t) 46 = false) (b : Bool) (hb : markB r = b) (res : Option (Pt × List Sg)) (hres : (if b then none else some (.only r, t)) = res) :
    Calls Try.prog 81 #[.pointer (some ⟨bd, 0, none⟩)] w (Res w bd res) := by
  have HR := Lib.hid h
  have H1 := Lib.hid h1
  have H2 := Lib.hid h2
  have H3 := Lib.hid h3
  have HOK := Lib.hid (h.ok _ List.mem_cons_self)
  have HB := Lib.hid hb
  have HRES := Lib.hid hres
  clear h h1 h2 h3 hb hres
  go_enter Try.func81, Try.ntmps81
  go_wp2_with fail
  refine (take_no bd _ 40 w HR.out H1.out).mono ?_
  rintro e w2 ⟨rfl, rfl⟩
  go_wp2_with fail
  refine (take_no bd _ 91 w HR.out H2.out).mono ?_
  rintro e w2 ⟨rfl, rfl⟩
  go_wp2_with fail
  refine (take_no bd _ 46 w HR.out H3.out).mono ?_
  rintro e w2 ⟨rfl, rfl⟩
  go_wp2_with fail
  refine (next_any bd _ _ w HR.out).mono ?_
  rintro e w1 ⟨rfl, hr, hg⟩
  have HR1 := Lib.hid hr
  have HG1 := Lib.hid hg
  clear hr hg
  go_wp2_with fail
  obtain ⟨W, hW⟩ : ∃ W, w1.alloc (Obj.cells #[Value.int .i32 r, Value.bool true] 141) = W := ⟨_, rfl⟩
  have hbx : Box W w1.heap.size (.int .i32 r) (.bool true) 141 := by rw [← hW]; exact Array.getElem?_push_size
  obtain ⟨r0, r1, _, _⟩ := hbx.reads
  have HC := Lib.hid (show Calls Try.prog 86 #[.string ⟨#[42, 43, 63, 124, 40, 41, 91, 93]⟩, .int .i32 r] W.drew fun e w' => e = .returned (.bool b) ∧ w'.cell? ⟨w1.heap.size, 0, none⟩ = some (.int .i32 r) ∧ w'.cell? ⟨w1.heap.size, 1, none⟩ = some (.bool true) ∧ Hid (Rd w' bd t ∧ w.grownBy w' (some bd)) by
    refine (contains_any r HOK.out W.drew).mono fun e w' q => ?_
    have hb2 : Below W.heap.size W w' := (Below.refl _ _).drew.trans q.2
    have hbx2 : Box w' w1.heap.size (.int .i32 r) (.bool true) 141 := (hb2.block _ (Array.getElem?_eq_some_iff.1 hbx).1).trans hbx
    refine ⟨by rw [q.1, HB.out], hbx2.reads.1, hbx2.reads.2.1, ?_, ?_⟩
    · exact (show Rd W bd t by rw [← hW]; exact HR1.out.alloc _).below hb2
    · exact grown_trans (show w.grownBy W (some bd) by rw [← hW]; exact grown_alloc HG1.out _) (grown_of_below hb2 _))
  rw [hW]
  clear hW hbx
  go_region_held3 (fun w' => w'.cell? ⟨w1.heap.size, 0, none⟩ = some (.int .i32 r) ∧ w'.cell? ⟨w1.heap.size, 1, none⟩ = some (.bool true)) (first | exact ⟨s1, s2⟩ | exact ⟨r0, r1⟩) (first | (go_at_call 86; refine HC.out.mono ?_; rintro e wq ⟨rfl, s1, s2, s3⟩))
  go_wp2
  go_ret2
  rw [← HRES.out]
  cases b with
  | true => exact ⟨_, rfl, s3.out.2⟩
  | false => exact ⟨_, rfl, .only r, s3.out.1, s3.out.2⟩

theorem Res.grown {w0 w : World} {bd : Nat} {r : Option (Pt × List Sg)} {e : Ending} {w' : World} (hg : w0.grownBy w (some bd)) (h : Res w bd r e w') : Res w0 bd r e w' := by
  have hs := hg.size
  cases r with
  | none =>
    obtain ⟨v, he, hw⟩ := h
    exact ⟨v, he, grown_trans hg hw⟩
  | some p =>
    obtain ⟨x, m⟩ := p
    obtain ⟨v, he, ht, hr, hw⟩ := h
    exact ⟨v, he, ht.keep fun b hb _ => ⟨rfl, by omega⟩, hr, grown_trans hg hw⟩

set_option maxHeartbeats 4000000 in
set_option maxRecDepth 100000 in
theorem atom_of (l : List Sg) (hC : ∀ m : List Sg, m.length < l.length → ChoiceC m) : AtomC l := by
  intro w bd hne h
  cases h1 : atB l 40 with
  | true =>
    have hlt := tail_lt h1
    have HA := Lib.hid (atomP_eq l)
    have HTK := Lib.hid (take_yes bd l 40 w h h1)
    have HCC := Lib.hid (hC l.tail (by omega))
    have H1 := Lib.hid h1
    have hfar := h.lt
    obtain ⟨res, hres⟩ : ∃ r, atomP l = r := ⟨_, rfl⟩
    rw [hres]
    have HRES := Lib.hid hres
    clear h hC h1 hlt hres hne
    cases hch : choiceP l.tail [] with
    | none =>
      have HCH := Lib.hid hch
      have HT0 := Lib.hid (show res = none by rw [← HRES.out, HA.out, H1.out, hch]; rfl)
      clear hch
      go_enter Try.func81, Try.ntmps81
      go_wp2_with fail
      refine HTK.out.mono ?_
      rintro e w1 ⟨rfl, hr, hg⟩
      have HG1 := Lib.hid hg
      have HCR := Lib.hid (HCC.out w1 bd hr)
      rw [HCH.out] at HCR
      clear hr hg
      go_wp2_with fail
      refine HCR.out.mono ?_
      rintro e w2 ⟨u, rfl, hg2⟩
      have HG2 := Lib.hid hg2
      clear hg2
      go_wp2
      go_ret2
      rw [HT0.out]
      exact ⟨_, rfl, grown_trans HG1.out HG2.out⟩
    | some p =>
      obtain ⟨c, m⟩ := p
      have HCH := Lib.hid hch
      cases h2 : atB m 41 with
      | true =>
        have HT0 := Lib.hid (show res = some (.choice c, m.tail) by rw [← HRES.out, HA.out, H1.out, hch]; simp [h2])
        have H2 := Lib.hid h2
        clear hch h2
        go_enter Try.func81, Try.ntmps81
        go_wp2_with fail
        refine HTK.out.mono ?_
        rintro e w1 ⟨rfl, hr, hg⟩
        have HG1 := Lib.hid hg
        have HCR := Lib.hid (HCC.out w1 bd hr)
        rw [HCH.out] at HCR
        clear hr hg
        go_wp2_with fail
        refine HCR.out.mono ?_
        rintro e w2 ⟨u, rfl, ht2, hr2, hg2⟩
        have HT2 := Lib.hid ht2
        have HG2 := Lib.hid (grown_trans HG1.out hg2)
        have HTK2 := Lib.hid (take_yes bd m 41 w2 hr2 H2.out)
        clear ht2 hr2 hg2
        go_wp2_with fail
        refine HTK2.out.mono ?_
        rintro e w3 ⟨rfl, hr3, hg3⟩
        have HR3 := Lib.hid hr3
        have HG3 := Lib.hid hg3
        clear hr3 hg3
        go_wp2
        go_ret2
        rw [HT0.out]
        have hs1 := HG1.out.size
        exact ⟨_, rfl, (HT2.out.grown HG3.out (fun b hb => by omega)).keep (fun b hb _ => ⟨rfl, by omega⟩), HR3.out, grown_trans HG2.out HG3.out⟩
      | false =>
        have HT0 := Lib.hid (show res = none by rw [← HRES.out, HA.out, H1.out, hch]; simp [h2])
        have H2 := Lib.hid h2
        clear hch h2
        go_enter Try.func81, Try.ntmps81
        go_wp2_with fail
        refine HTK.out.mono ?_
        rintro e w1 ⟨rfl, hr, hg⟩
        have HG1 := Lib.hid hg
        have HCR := Lib.hid (HCC.out w1 bd hr)
        rw [HCH.out] at HCR
        clear hr hg
        go_wp2_with fail
        refine HCR.out.mono ?_
        rintro e w2 ⟨u, rfl, ht2, hr2, hg2⟩
        have HG2 := Lib.hid (grown_trans HG1.out hg2)
        have HTK2 := Lib.hid (take_no bd m 41 w2 hr2 H2.out)
        clear ht2 hr2 hg2
        go_wp2_with fail
        refine HTK2.out.mono ?_
        rintro e w3 ⟨rfl, rfl⟩
        go_wp2
        go_ret2
        rw [HT0.out]
        exact ⟨_, rfl, HG2.out⟩
  | false =>
    cases h2 : atB l 91 with
    | true =>
      have HT0 := Lib.hid (show atomP l = classP l.tail by rw [atomP_eq, h1, h2]; rfl)
      have HTK1 := Lib.hid (take_no bd l 40 w h h1)
      have HTK2 := Lib.hid (take_yes bd l 91 w h h2)
      obtain ⟨res, hres⟩ : ∃ r, atomP l = r := ⟨_, rfl⟩
      have HRES := Lib.hid (show classP l.tail = res by rw [← hres, HT0.out])
      rw [hres]
      clear h hC h1 h2 hne hres
      go_enter Try.func81, Try.ntmps81
      go_wp2_with fail
      refine HTK1.out.mono ?_
      rintro e w1 ⟨rfl, rfl⟩
      go_wp2_with fail
      refine HTK2.out.mono ?_
      rintro e w1 ⟨rfl, hr, hg⟩
      have HG1 := Lib.hid hg
      have HCR := Lib.hid (class_any bd l.tail w1 hr)
      rw [HRES.out] at HCR
      clear hr hg
      cases res with
      | none =>
        go_wp2_with fail
        refine HCR.out.mono ?_
        rintro e w2 ⟨u, rfl, hg2⟩
        have HG2 := Lib.hid hg2
        clear hg2
        go_wp2
        go_ret2
        exact ⟨_, rfl, grown_trans HG1.out HG2.out⟩
      | some p =>
        obtain ⟨x, m⟩ := p
        go_wp2_with fail
        refine HCR.out.mono ?_
        rintro e w2 ⟨u, rfl, ht2, hr2, hg2⟩
        have HG2 := Lib.hid (And.intro ht2 (And.intro hr2 hg2))
        clear ht2 hr2 hg2
        go_wp2
        go_ret2
        exact Res.grown HG1.out ⟨_, rfl, HG2.out⟩
    | false =>
      cases h3 : atB l 46 with
      | true =>
        have HT0 := Lib.hid (show atomP l = some (.dot, l.tail) by rw [atomP_eq, h1, h2, h3]; rfl)
        have HTK1 := Lib.hid (take_no bd l 40 w h h1)
        have HTK2 := Lib.hid (take_no bd l 91 w h h2)
        have HTK3 := Lib.hid (take_yes bd l 46 w h h3)
        rw [HT0.out]
        clear h hC h1 h2 h3 hne
        go_enter Try.func81, Try.ntmps81
        go_wp2_with fail
        refine HTK1.out.mono ?_
        rintro e w1 ⟨rfl, rfl⟩
        go_wp2_with fail
        refine HTK2.out.mono ?_
        rintro e w1 ⟨rfl, rfl⟩
        go_wp2_with fail
        refine HTK3.out.mono ?_
        rintro e w1 ⟨rfl, hr, hg⟩
        have HG1 := Lib.hid hg
        have HR1 := Lib.hid hr
        clear hr hg
        go_wp2
        go_ret2
        exact ⟨_, rfl, .dot, HR1.out, HG1.out⟩
      | false =>
        have ha : atomP l = litP l := by rw [atomP_eq, h1, h2, h3]; rfl
        cases l with
        | nil => exact absurd rfl hne
        | cons s t =>
          obtain ⟨r, b⟩ := s
          rw [ha]
          cases b with
          | false => exact lit_esc bd r t w h h1 h2 h3
          | true => exact lit_bare bd r t w h h1 h2 h3 (markB r) rfl _ (by simp [litP])

/-- What all that reads answers. -/
theorem reads : ∀ (n : Nat) (l : List Sg), l.length ≤ n → ChoiceC l := by
  intro n
  induction n with
  | zero =>
    intro l hl
    exact choice_of 0 (fun m hm => chain_of 0 (fun k hk => atom_of k (fun j hj => by omega)) m hm) l hl
  | succ n ih =>
    intro l hl
    exact choice_of (n + 1) (fun m hm => chain_of (n + 1) (fun k hk => atom_of k (fun j hj => ih j (by omega))) m hm) l hl
theorem choice_any (l : List Sg) : ChoiceC l := reads l.length l (Nat.le_refl _)
end Go.Proofs.Ytmidpekkomhogaa.Pat
end

section
/- A walk: a text's runes as a list. -/

namespace Go.Proofs.Ytmidpekkomhogaa
open Go.RowKit

theorem tryd_info21 : (Try.prog.info? 21).map (fun i => (i.zero, i.size, i.bytes)) = some (some (.int .i32 0), 1, 4) := by kernel_rfl
theorem ownsRow_iterAt {w : World} {base : Nat} {e : TypeId} {size : Nat} {v : Value} {n : Nat} {xs : List Value} (h : w.ownsRow base e size v n xs) {k : Nat} (hk : k < base) (s : ByteArray) (p : Nat) : (w.iterAt k s p).ownsRow base e size v n xs := by
  obtain ⟨h1, h2⟩ := h
  refine ⟨h1, ?_⟩
  rcases h2 with h2 | ⟨g, cap, cur, a, b, c, d⟩
  · exact .inl h2
  · exact .inr ⟨g, cap, cur, a, b, by rw [Lib.iterAt_other _ _ _ _ _ (by omega)]; exact c, d⟩
theorem cell_1 (w : World) (v : Value) (t : TypeId) : ∀ j u, [v][j]? = some u → (w.alloc (.cells #[v] t)).cell? ((⟨w.heap.size, 0, none⟩ : Addr).add j) = some u := by
  intro j u hj
  match j, hj with
  | 0, hj => simp at hj; subst hj; simp [Addr.add]
  | j + 1, hj => simp at hj
theorem one_i32 (x : Int) : ∀ v ∈ [Value.int .i32 x], v.oneCell' = true := by
  intro v hv; simp at hv; subst hv; rfl
/-- What Spell leaves: a slice of the call's own that holds the runes. -/
def Spelt (B : Nat) (xs : List Int) (e : Ending) (w' : World) : Prop := ∃ v, e = .returned v ∧ w'.ownsRow B 21 1 v xs.length (xs.map (Value.int .i32))

set_option maxHeartbeats 2000000 in
set_option maxRecDepth 100000 in
theorem spell_any (s : ByteArray) (w : World) (hs : s.size ≤ 1099511627776) :
    Calls Try.prog 12 #[.string s] w fun e w' => Spelt (w.heap.size + 1) (spell s.data.toList) e w' ∧ Below w.heap.size w w' := by
  obtain ⟨i0, hi, hz0, hz1, hz2⟩ := info_parts tryd_info21
  go_enter Try.func12, Try.ntmps12
  go_wp2
  go_loopw [3] (fun v wr => ∃ (pos : Nat) (xs : List Int), wr.heap[w.heap.size]? = some (.stringIter s pos) ∧ wr.ownsRow (w.heap.size + 1) 21 1 v xs.length (xs.map (Value.int .i32)) ∧ Below w.heap.size w wr ∧ Hid (xs ++ spell (s.data.toList.drop pos) = spell s.data.toList) ∧ xs.length ≤ pos ∧ pos ≤ s.size) (fun _ wr => s.size - wr.iterPos w.heap.size)
  case atStart => exact ⟨0, [], World.iter_heap w s 0, World.ownsRow_nil _ _ _ _, (Below.refl _ _).alloc (Nat.le_refl _) _, (by show _ = _; simp), by simp, Nat.zero_le _⟩
  case round =>
    obtain ⟨pos, xs, hit, hown, hbw, H, hk, hps⟩ := hrel
    have hpos0 := iterPos_of hit
    by_cases hp : pos < s.size
    · have hnx : ∀ ty, (Instr.next (.pointer (some ⟨w.heap.size, 0, none⟩)) true ty).run Try.prog wr = _ := fun ty => Lib.run_next_any_at wr w.heap.size s pos ty hit hp
      have hwd := width1 s pos
      have hwl := width_le hp
      have hit2 := Lib.iterAt_heap wr w.heap.size s pos (pos + (Utf8.decode s pos).2) hit
      have hbw2 := Lib.below_iterAt hbw (k := w.heap.size) (Nat.le_refl _) s (pos + (Utf8.decode s pos).2)
      have hown2 := ownsRow_iterAt hown (k := w.heap.size) (by omega) s (pos + (Utf8.decode s pos).2)
      have H2 : Hid ((xs ++ [((Utf8.decode s pos).1 : Int)]) ++ spell (s.data.toList.drop (pos + (Utf8.decode s pos).2)) = spell s.data.toList) := by
        show _ = _
        rw [← H.out, spell_at hp]; simp
      obtain ⟨W1, hW1⟩ : ∃ W1, W1 = wr.iterAt w.heap.size s (pos + (Utf8.decode s pos).2) := ⟨_, rfl⟩
      rw [← hW1] at hnx hit2 hbw2 hown2
      have hBlt : w.heap.size < W1.heap.size := (Array.getElem?_eq_some_iff.1 hit2).1
      clear hW1 hit hown hbw H
      go_wp2_with (at_builtin; go_must (refine wpList_append_own _ rfl _ _ 44 rfl (w.heap.size + 1) 21 i0 (.int .i32 0) 1 4 Try.underlying44 hi hz0 hz1 hz2 rfl (by decide) _ _ _ rfl (hown2.alloc _) ⟨W1.heap.size, 0, none⟩ 1 1 [.int .i32 ((Utf8.decode s pos).1 : Int)] rfl rfl (cell_1 _ _ _) (one_i32 _) (by unfold maxLen; omega) (by omega) (by simp; omega) ?_); intro v' w3 hown' hgrow3 hnil3)
      have hit3 : w3.heap[w.heap.size]? = some (.stringIter s (pos + (Utf8.decode s pos).2)) := by
        rw [hgrow3.block w.heap.size (by simp; omega) (fun h => by have := (hown2.lt _ h.symm).1; omega), Below.heap_alloc _ _ _ hBlt]; exact hit2
      have hbw3 : Below w.heap.size w w3 := Below.grown (hbw2.alloc (by omega) _) hgrow3 (by simp; omega) (fun j hj => by have := (hown2.lt _ hj).1; omega)
      have ho3 : w3.ownsRow (w.heap.size + 1) 21 1 v' (xs ++ [((Utf8.decode s pos).1 : Int)]).length ((xs ++ [((Utf8.decode s pos).1 : Int)]).map (Value.int .i32)) := by
        rw [List.length_append, List.map_append]; exact hown'
      clear hown' hgrow3 hnil3
      go_roundw
      case rel => exact ⟨pos + (Utf8.decode s pos).2, xs ++ [((Utf8.decode s pos).1 : Int)], hit3, ho3, hbw3, H2, by rw [List.length_append]; simp; omega, hwl⟩
      case measure => rw [iterPos_of hit3, hpos0]; omega
    · have hnx : ∀ ty, (Instr.next (.pointer (some ⟨w.heap.size, 0, none⟩)) true ty).run Try.prog wr = _ := fun ty => Lib.run_next_end_at wr w.heap.size s pos ty hit hp
      have H2 : Hid (xs = spell s.data.toList) := by
        show _ = _
        rw [← H.out, spell_end hp]; simp
      clear H
      go_wp2
      go_ret
      refine ⟨?_, hbw⟩
      rw [← H2.out]
      exact ⟨_, rfl, hown⟩
end Go.Proofs.Ytmidpekkomhogaa
end
