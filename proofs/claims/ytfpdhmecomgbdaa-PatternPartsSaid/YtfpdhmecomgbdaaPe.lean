/- Patterns: the runes that are an atom only behind a backslash. -/
import Derived.Test.YtfpdhmecomgbdaaPd
import Derived.Test.YtfpdhmecomgbdaaShelf
import Derived.Lib.MapLaws
import Derived.Laws.Cover4
import Derived.Laws.IdiomStrings
import Derived.Deep.LoopGhost
namespace Go.Proofs.Ytfpdhmecomgbdaa
open Go.RowKit

def marks : ByteArray := ⟨#[42, 43, 63, 124, 40, 41, 91, 93]⟩
theorem valid_of {r : Int} (h : okR r) : Lib.validRune r = true := by
  unfold Lib.validRune okR at *
  simp
  omega
theorem encode_shape {r : Int} (h0 : 128 ≤ r) (hok : okR r) : ∃ c : UInt8, 128 ≤ c.toNat ∧ ((∃ a, Utf8.encode r = ⟨#[a, c]⟩) ∨ (∃ a b, Utf8.encode r = ⟨#[a, b, c]⟩) ∨ (∃ a b d, Utf8.encode r = ⟨#[a, b, d, c]⟩)) := by
  have hv : Utf8.valid r = true := by unfold Utf8.valid; unfold okR at hok; simp; omega
  unfold Utf8.encode
  simp only [hv, if_true]
  rw [if_neg (by omega)]
  split
  · exact ⟨_, by simp; omega, .inl ⟨_, rfl⟩⟩
  · split
    · exact ⟨_, by simp; omega, .inr (.inl ⟨_, _, rfl⟩)⟩
    · exact ⟨_, by simp; omega, .inr (.inr ⟨_, _, _, rfl⟩)⟩
theorem drewN_below (w : World) (n : Nat) : Below w.heap.size w (w.drewN n) := ⟨rfl, rfl, rfl, Nat.le_refl _, fun _ _ => rfl⟩
theorem index_none : ∀ (l : List UInt8) (c : UInt8), 128 ≤ c.toNat → (∀ x ∈ l, x.toNat < 128) → Lib.indexByte l c = -1
  | [], _, _, _ => rfl
  | x :: l, c, hc, h => by
    have hx := h x List.mem_cons_self
    have hne : (x == c) = false := by
      simp only [beq_eq_false_iff_ne, ne_eq]
      rintro rfl
      omega
    rw [Lib.indexByte, hne, index_none l c hc (fun y hy => h y (List.mem_cons_of_mem _ hy))]
    rfl
theorem index_far2_call (a c : UInt8) (hc : 128 ≤ c.toNat) (W : World) :
    Calls Try.prog 42 #[.string ((⟨#[42, 43, 63, 124, 40, 41, 91, 93]⟩ : ByteArray).extract 2 8), .int .u8 ((((⟨#[a, c]⟩ : ByteArray)[1]'(by show 1 < 2; omega)).toNat : Nat) : Int)] W fun e w' => e = .returned (.int .i64 (-1)) ∧ w' = W := by
  refine (Try.strings_IndexByte _ _ W).mono fun e w' q => ⟨?_, q.2⟩
  rw [q.1]
  have e1 : ((⟨#[42, 43, 63, 124, 40, 41, 91, 93]⟩ : ByteArray).extract 2 8).data.toList = [63, 124, 40, 41, 91, 93] := by decide +kernel
  have e2 : (((((⟨#[a, c]⟩ : ByteArray)[1]'(by show 1 < 2; omega)).toNat : Nat) : Int)).toNat.toUInt8 = c := by
    show ((c.toNat : Int)).toNat.toUInt8 = c
    simp
  rw [e1, e2]
  congr 2
  exact index_none _ c hc (by decide)
set_option maxHeartbeats 2000000 in
set_option maxRecDepth 100000 in
theorem index_far2 (r : Int) (w : World) (h0 : 128 ≤ r) (hok : okR r) (hne : r ≠ 65533) (a c : UInt8) (hc : 128 ≤ c.toNat) (hE : Utf8.encode r = ⟨#[a, c]⟩) :
    Calls Try.prog 41 #[.string ⟨#[42, 43, 63, 124, 40, 41, 91, 93]⟩, .int .i32 r] w fun e w' => e = .returned (.int .i64 (-1)) ∧ Below w.heap.size w w' := by
  have h1 : (0 : Int) ≤ r := by omega
  have d1 : decide (r < 128) = false := by simp; omega
  have d2 : (r == 65533) = false := by simpa using hne
  have HV := Lib.hid (show Calls Try.prog 43 #[.int .i32 r] w fun e w' => e = .returned (.bool true) ∧ w = w' from (Try.utf8_ValidRune r w).mono fun _ _ q => ⟨by rw [q.1, valid_of hok], q.2.symm⟩)
  have HX := Lib.hid (index_far2_call a c hc)
  clear hok hne
  go_enter Try.func41, Try.ntmps41
  go_wp2_with fail
  refine HV.out.mono ?_
  rintro e w' ⟨rfl, rfl⟩
  go_wp2_with fail
  go_step3
  go_wp2_with fail
  go_loopg [9] 1 (fun k v9 wr => k = 1 ∧ v9 = .int .i64 1 ∧ Hid (w = wr))
  case atStart => exact ⟨rfl, rfl, rfl⟩
  case round =>
    obtain ⟨rfl, rfl, HW⟩ := hrel
    obtain rfl := HW.out
    have q2 : (((⟨#[42, 43, 63, 124, 40, 41, 91, 93]⟩ : ByteArray)[1].toNat : Int) != (((⟨#[a, c]⟩ : ByteArray)[1]'(by show 1 < 2; omega)).toNat : Int)) = true := by
      show ((43 : Int) != (c.toNat : Int)) = true
      simp; omega
    go_wp2_with fail
    go_step3
    go_wp2_with fail
    go_quiet (fail)
    go_wp2_with fail
    obtain ⟨W, hW⟩ : ∃ W, w.drewN nq = W := ⟨_, rfl⟩
    have HB := Lib.hid (show Below w.heap.size w W by rw [← hW]; exact drewN_below w nq)
    rw [hW]
    clear hW q2
    have HB2 := Lib.hid (fun n => (show Below w.heap.size w (W.drewN n) from HB.out.trans ((drewN_below W n).mono HB.out.size)))
    have hw : IntKind.i64.wrap 2 = 2 := by rw [IntKind.wrap_i64]; rfl
    go_quiet ((go_at_call 42; exact Calls.quiet_of_same (HX.out _)))
    clear hw
    go_wp2
    rw [Exit.noGoto_ret]
    go_wp2
    rw [Exit.noGoto_ret]
    go_wp2
    go_ret
    exact ⟨rfl, HB2.out _⟩
theorem index_far3_call (a b c : UInt8) (hc : 128 ≤ c.toNat) (W : World) :
    Calls Try.prog 42 #[.string ((⟨#[42, 43, 63, 124, 40, 41, 91, 93]⟩ : ByteArray).extract 3 8), .int .u8 ((((⟨#[a, b, c]⟩ : ByteArray)[2]'(by show 2 < 3; omega)).toNat : Nat) : Int)] W fun e w' => e = .returned (.int .i64 (-1)) ∧ w' = W := by
  refine (Try.strings_IndexByte _ _ W).mono fun e w' q => ⟨?_, q.2⟩
  rw [q.1]
  have e1 : ((⟨#[42, 43, 63, 124, 40, 41, 91, 93]⟩ : ByteArray).extract 3 8).data.toList = [124, 40, 41, 91, 93] := by decide +kernel
  have e2 : (((((⟨#[a, b, c]⟩ : ByteArray)[2]'(by show 2 < 3; omega)).toNat : Nat) : Int)).toNat.toUInt8 = c := by
    show ((c.toNat : Int)).toNat.toUInt8 = c
    simp
  rw [e1, e2]
  congr 2
  exact index_none _ c hc (by decide)
set_option maxHeartbeats 2000000 in
set_option maxRecDepth 100000 in
theorem index_far3 (r : Int) (w : World) (h0 : 128 ≤ r) (hok : okR r) (hne : r ≠ 65533) (a b c : UInt8) (hc : 128 ≤ c.toNat) (hE : Utf8.encode r = ⟨#[a, b, c]⟩) :
    Calls Try.prog 41 #[.string ⟨#[42, 43, 63, 124, 40, 41, 91, 93]⟩, .int .i32 r] w fun e w' => e = .returned (.int .i64 (-1)) ∧ Below w.heap.size w w' := by
  have h1 : (0 : Int) ≤ r := by omega
  have d1 : decide (r < 128) = false := by simp; omega
  have d2 : (r == 65533) = false := by simpa using hne
  have HV := Lib.hid (show Calls Try.prog 43 #[.int .i32 r] w fun e w' => e = .returned (.bool true) ∧ w = w' from (Try.utf8_ValidRune r w).mono fun _ _ q => ⟨by rw [q.1, valid_of hok], q.2.symm⟩)
  have HX := Lib.hid (index_far3_call a b c hc)
  clear hok hne
  go_enter Try.func41, Try.ntmps41
  go_wp2_with fail
  refine HV.out.mono ?_
  rintro e w' ⟨rfl, rfl⟩
  go_wp2_with fail
  go_step3
  go_wp2_with fail
  go_loopg [9] 1 (fun k v9 wr => k = 1 ∧ v9 = .int .i64 2 ∧ Hid (w = wr))
  case atStart => exact ⟨rfl, rfl, rfl⟩
  case round =>
    obtain ⟨rfl, rfl, HW⟩ := hrel
    obtain rfl := HW.out
    have q2 : (((⟨#[42, 43, 63, 124, 40, 41, 91, 93]⟩ : ByteArray)[2].toNat : Int) != (((⟨#[a, b, c]⟩ : ByteArray)[2]'(by show 2 < 3; omega)).toNat : Int)) = true := by
      show ((63 : Int) != (c.toNat : Int)) = true
      simp; omega
    go_wp2_with fail
    go_step3
    go_wp2_with fail
    go_quiet (fail)
    go_wp2_with fail
    obtain ⟨W, hW⟩ : ∃ W, w.drewN nq = W := ⟨_, rfl⟩
    have HB := Lib.hid (show Below w.heap.size w W by rw [← hW]; exact drewN_below w nq)
    rw [hW]
    clear hW q2
    have HB2 := Lib.hid (fun n => (show Below w.heap.size w (W.drewN n) from HB.out.trans ((drewN_below W n).mono HB.out.size)))
    have hw : IntKind.i64.wrap 3 = 3 := by rw [IntKind.wrap_i64]; rfl
    go_quiet ((go_at_call 42; exact Calls.quiet_of_same (HX.out _)))
    clear hw
    go_wp2
    rw [Exit.noGoto_ret]
    go_wp2
    rw [Exit.noGoto_ret]
    go_wp2
    go_ret
    exact ⟨rfl, HB2.out _⟩
theorem index_far4_call (a b d c : UInt8) (hc : 128 ≤ c.toNat) (W : World) :
    Calls Try.prog 42 #[.string ((⟨#[42, 43, 63, 124, 40, 41, 91, 93]⟩ : ByteArray).extract 4 8), .int .u8 ((((⟨#[a, b, d, c]⟩ : ByteArray)[3]'(by show 3 < 4; omega)).toNat : Nat) : Int)] W fun e w' => e = .returned (.int .i64 (-1)) ∧ w' = W := by
  refine (Try.strings_IndexByte _ _ W).mono fun e w' q => ⟨?_, q.2⟩
  rw [q.1]
  have e1 : ((⟨#[42, 43, 63, 124, 40, 41, 91, 93]⟩ : ByteArray).extract 4 8).data.toList = [40, 41, 91, 93] := by decide +kernel
  have e2 : (((((⟨#[a, b, d, c]⟩ : ByteArray)[3]'(by show 3 < 4; omega)).toNat : Nat) : Int)).toNat.toUInt8 = c := by
    show ((c.toNat : Int)).toNat.toUInt8 = c
    simp
  rw [e1, e2]
  congr 2
  exact index_none _ c hc (by decide)
set_option maxHeartbeats 2000000 in
set_option maxRecDepth 100000 in
theorem index_far4 (r : Int) (w : World) (h0 : 128 ≤ r) (hok : okR r) (hne : r ≠ 65533) (a b d c : UInt8) (hc : 128 ≤ c.toNat) (hE : Utf8.encode r = ⟨#[a, b, d, c]⟩) :
    Calls Try.prog 41 #[.string ⟨#[42, 43, 63, 124, 40, 41, 91, 93]⟩, .int .i32 r] w fun e w' => e = .returned (.int .i64 (-1)) ∧ Below w.heap.size w w' := by
  have h1 : (0 : Int) ≤ r := by omega
  have d1 : decide (r < 128) = false := by simp; omega
  have d2 : (r == 65533) = false := by simpa using hne
  have HV := Lib.hid (show Calls Try.prog 43 #[.int .i32 r] w fun e w' => e = .returned (.bool true) ∧ w = w' from (Try.utf8_ValidRune r w).mono fun _ _ q => ⟨by rw [q.1, valid_of hok], q.2.symm⟩)
  have HX := Lib.hid (index_far4_call a b d c hc)
  clear hok hne
  go_enter Try.func41, Try.ntmps41
  go_wp2_with fail
  refine HV.out.mono ?_
  rintro e w' ⟨rfl, rfl⟩
  go_wp2_with fail
  go_step3
  go_wp2_with fail
  go_loopg [9] 1 (fun k v9 wr => k = 1 ∧ v9 = .int .i64 3 ∧ Hid (w = wr))
  case atStart => exact ⟨rfl, rfl, rfl⟩
  case round =>
    obtain ⟨rfl, rfl, HW⟩ := hrel
    obtain rfl := HW.out
    have q2 : (((⟨#[42, 43, 63, 124, 40, 41, 91, 93]⟩ : ByteArray)[3].toNat : Int) != (((⟨#[a, b, d, c]⟩ : ByteArray)[3]'(by show 3 < 4; omega)).toNat : Int)) = true := by
      show ((124 : Int) != (c.toNat : Int)) = true
      simp; omega
    go_wp2_with fail
    go_step3
    go_wp2_with fail
    go_quiet (fail)
    go_wp2_with fail
    obtain ⟨W, hW⟩ : ∃ W, w.drewN nq = W := ⟨_, rfl⟩
    have HB := Lib.hid (show Below w.heap.size w W by rw [← hW]; exact drewN_below w nq)
    rw [hW]
    clear hW q2
    have HB2 := Lib.hid (fun n => (show Below w.heap.size w (W.drewN n) from HB.out.trans ((drewN_below W n).mono HB.out.size)))
    have hw : IntKind.i64.wrap 4 = 4 := by rw [IntKind.wrap_i64]; rfl
    go_quiet ((go_at_call 42; exact Calls.quiet_of_same (HX.out _)))
    clear hw
    go_wp2
    rw [Exit.noGoto_ret]
    go_wp2
    rw [Exit.noGoto_ret]
    go_wp2
    go_ret
    exact ⟨rfl, HB2.out _⟩

/-- The runes that are an atom only behind a backslash. -/
theorem marks_dec (pos : Nat) (h : pos < 8) : (Utf8.decode marks pos).1 < 128 ∧ (Utf8.decode marks pos).2 = 1 := by
  have : ∀ p : Fin 8, (Utf8.decode marks p.1).1 < 128 ∧ (Utf8.decode marks p.1).2 = 1 := by decide +kernel
  exact this ⟨pos, h⟩
set_option maxHeartbeats 2000000 in
set_option maxRecDepth 100000 in
theorem index_err (w : World) : Calls Try.prog 41 #[.string ⟨#[42, 43, 63, 124, 40, 41, 91, 93]⟩, .int .i32 65533] w fun e w' => e = .returned (.int .i64 (-1)) ∧ Below w.heap.size w w' := by
  show Calls Try.prog 41 #[.string marks, .int .i32 65533] w fun e w' => e = .returned (.int .i64 (-1)) ∧ Below w.heap.size w w'
  have HM := Lib.hid (show marks.size = 8 from rfl)
  have HD := Lib.hid marks_dec
  generalize marks = s at HM HD
  go_enter Try.func41, Try.ntmps41
  go_wp2
  go_loopw [6] (fun _ wr => ∃ (pos : Nat), wr.heap[w.heap.size]? = some (.stringIter s pos) ∧ Below w.heap.size w wr) (fun _ wr => s.size - wr.iterPos w.heap.size)
  case atStart => exact ⟨0, World.iter_heap w s 0, (Below.refl _ _).alloc (Nat.le_refl _) _⟩
  case round =>
    obtain ⟨pos, hit, hbw⟩ := hrel
    have hpos0 := iterPos_of hit
    by_cases hp : pos < s.size
    · have hnx : ∀ ty, (Instr.next (.pointer (some ⟨w.heap.size, 0, none⟩)) true ty).run Try.prog wr = _ := fun ty => Lib.run_next_any_at wr w.heap.size s pos ty hit hp
      have hit2 := Lib.iterAt_heap wr w.heap.size s pos (pos + (Utf8.decode s pos).2) hit
      have hbw2 := Lib.below_iterAt hbw (k := w.heap.size) (Nat.le_refl _) s (pos + (Utf8.decode s pos).2)
      have hd := HD.out pos (by rw [← HM.out]; exact hp)
      have hne : (((Utf8.decode s pos).1 : Int) == 65533) = false := by
        have := hd.1
        simp only [beq_eq_false_iff_ne, ne_eq]; omega
      have hw := Lib.hid hd.2
      clear hd
      go_wp2
      go_roundw
      case rel => exact ⟨pos + (Utf8.decode s pos).2, hit2, hbw2⟩
      case measure => rw [iterPos_of hit2, hpos0, hw.out]; omega
    · have hnx : ∀ ty, (Instr.next (.pointer (some ⟨w.heap.size, 0, none⟩)) true ty).run Try.prog wr = _ := fun ty => Lib.run_next_end_at wr w.heap.size s pos ty hit hp
      go_wp2
      go_ret
      exact ⟨rfl, hbw⟩
theorem index_marks (r : Int) (w : World) (hok : okR r) (h : 128 ≤ r) :
    Calls Try.prog 41 #[.string ⟨#[42, 43, 63, 124, 40, 41, 91, 93]⟩, .int .i32 r] w fun e w' => e = .returned (.int .i64 (-1)) ∧ Below w.heap.size w w' := by
  by_cases h2 : r = 65533
  · subst h2; exact index_err w
  · obtain ⟨c, hc, ⟨a, hE⟩ | ⟨a, b, hE⟩ | ⟨a, b, d, hE⟩⟩ := encode_shape h hok
    · exact index_far2 r w h hok h2 a c hc hE
    · exact index_far3 r w h hok h2 a b c hc hE
    · exact index_far4 r w h hok h2 a b d c hc hE
theorem marks_ascii (r : Int) (h0 : 0 ≤ r) (h1 : r < 128) : decide (0 ≤ Lib.indexByte marks.data.toList r.toNat.toUInt8) = markB r := by
  have : ∀ p : Fin 128, decide (0 ≤ Lib.indexByte marks.data.toList p.1.toUInt8) = markB (p.1 : Int) := by decide +kernel
  obtain ⟨n, rfl⟩ := Int.eq_ofNat_of_zero_le h0
  exact this ⟨n, by omega⟩
set_option maxHeartbeats 2000000 in
set_option maxRecDepth 100000 in
theorem contains_any (r : Int) (hok : okR r) (w : World) :
    Calls Try.prog 39 #[.string ⟨#[42, 43, 63, 124, 40, 41, 91, 93]⟩, .int .i32 r] w fun e w' => e = .returned (.bool (markB r)) ∧ Below w.heap.size w w' := by
  have h0 : 0 ≤ r := by unfold okR at hok; omega
  by_cases h : r < 128
  · refine (Try.strings_ContainsRune_ascii _ r w h0 h).mono fun e w' q => ?_
    obtain ⟨q1, rfl⟩ := q
    exact ⟨by rw [q1, ← marks_ascii r h0 h]; rfl, Below.refl _ _⟩
  · have HI := Lib.hid (index_marks r w hok (by omega))
    have hm : markB r = false := by unfold markB; simp; omega
    rw [hm]
    clear hm hok
    go_enter Try.func39, Try.ntmps39
    go_wp2_with fail
    refine HI.out.mono ?_
    rintro e w1 ⟨rfl, b1⟩
    go_wp2
    go_ret
    exact ⟨rfl, b1⟩
end Go.Proofs.Ytfpdhmecomgbdaa
