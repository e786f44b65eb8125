/- Patterns: the first call, whose answer the document fixes. -/
import Derived.Test.YtfpdhmecomgbdaaPt
namespace Go.Proofs.Ytfpdhmecomgbdaa
open Go.RowKit

def ptA : Pt := .choice [.chain [.only 97, .times (.choice [.chain [.only 98], .chain [.only 99]]) true true]]
theorem ptA_read : readP (spell (⟨#[97, 40, 98, 124, 99, 41, 42]⟩ : ByteArray).data.toList) = some ptA := by kernel_rfl
theorem ptA_len : ¬ 40 < (spell (⟨#[97, 40, 98, 124, 99, 41, 42]⟩ : ByteArray).data.toList).length := by decide +kernel
theorem bad_read : readP (spell (⟨#[97, 40, 98]⟩ : ByteArray).data.toList) = none := by kernel_rfl
theorem bad_len : ¬ 40 < (spell (⟨#[97, 40, 98]⟩ : ByteArray).data.toList).length := by decide +kernel
theorem ptA_yes : wholeF (layF ptA ⟨[], []⟩) (spell (⟨#[97, 98, 99, 98]⟩ : ByteArray).data.toList) = true := by kernel_rfl
theorem ptA_no : wholeF (layF ptA ⟨[], []⟩) (spell (⟨#[97, 98, 100]⟩ : ByteArray).data.toList) = false := by kernel_rfl
theorem ptA_two : begF (layF ptA ⟨[], []⟩) (spell (⟨#[97, 99, 120]⟩ : ByteArray).data.toList) = 2 := by kernel_rfl

set_option maxHeartbeats 4000000 in
set_option maxRecDepth 100000 in
theorem alive_any (w : World) : Calls Try.prog 11 #[] w fun e w' => e = .returned (.bool true) ∧ Below w.heap.size w w' := by
  have HC1 := Lib.hid (fun W => compile_ok ⟨#[97, 40, 98, 124, 99, 41, 42]⟩ ptA W (by decide) ptA_len ptA_read)
  have HC2 := Lib.hid (fun W => compile_form ⟨#[97, 40, 98]⟩ W (by decide) bad_len bad_read)
  have hok := readP_ok ptA_read ptA_len
  have h1 := ptA_yes
  have h2 := ptA_no
  have h3 := ptA_two
  obtain ⟨T, hT⟩ : ∃ T, layF ptA ⟨[], []⟩ = T := ⟨_, rfl⟩
  rw [hT] at HC1 hok h1 h2 h3
  have HW1 := Lib.hid (fun bp W (hp : PatAt W bp ⟨#[97, 40, 98, 124, 99, 41, 42]⟩ T) => (show Calls Try.prog 13 #[.pointer (some ⟨bp, 0, none⟩), .string ⟨#[97, 98, 99, 98]⟩] W fun e w' => e = .returned (.bool true) ∧ Below W.heap.size W w' by
    rw [← h1]; exact whole_any bp _ T _ W hp hok (by decide)))
  have HW2 := Lib.hid (fun bp W (hp : PatAt W bp ⟨#[97, 40, 98, 124, 99, 41, 42]⟩ T) => (show Calls Try.prog 13 #[.pointer (some ⟨bp, 0, none⟩), .string ⟨#[97, 98, 100]⟩] W fun e w' => e = .returned (.bool false) ∧ Below W.heap.size W w' by
    rw [← h2]; exact whole_any bp _ T _ W hp hok (by decide)))
  have HW3 := Lib.hid (fun bp W (hp : PatAt W bp ⟨#[97, 40, 98, 124, 99, 41, 42]⟩ T) => (show Calls Try.prog 14 #[.pointer (some ⟨bp, 0, none⟩), .string ⟨#[97, 99, 120]⟩] W fun e w' => e = .returned (.int .i64 2) ∧ Below W.heap.size W w' by
    rw [← h3]; exact begins_any bp _ T _ W hp hok (by decide)))
  have HW4 := Lib.hid (fun bp W (hp : PatAt W bp ⟨#[97, 40, 98, 124, 99, 41, 42]⟩ T) => text_any bp _ T W hp (by decide))
  clear hok h1 h2 h3 hT
  go_enter Try.func11, Try.ntmps11
  go_wp2_with fail
  refine (HC1.out w).mono ?_
  rintro e w1 ⟨bp, rfl, hp1, b1⟩
  have HP1 := Lib.hid hp1
  have HB1 := Lib.hid b1
  clear hp1 b1
  go_wp2_with fail
  refine (HC2.out w1).mono ?_
  rintro e w2 ⟨rfl, b2⟩
  have HP2 := Lib.hid (HP1.out.below b2)
  have HB2 := Lib.hid (HB1.out.trans (b2.mono HB1.out.size))
  clear b2
  go_wp2_with fail
  refine (HW1.out bp w2 HP2.out).mono ?_
  rintro e w3 ⟨rfl, b3⟩
  have HP3 := Lib.hid (HP2.out.below b3)
  have HB3 := Lib.hid (HB2.out.trans (b3.mono HB2.out.size))
  clear b3
  go_wp2_with fail
  refine (HW2.out bp w3 HP3.out).mono ?_
  rintro e w4 ⟨rfl, b4⟩
  have HP4 := Lib.hid (HP3.out.below b4)
  have HB4 := Lib.hid (HB3.out.trans (b4.mono HB3.out.size))
  clear b4
  go_wp2_with fail
  refine (HW3.out bp w4 HP4.out).mono ?_
  rintro e w5 ⟨rfl, b5⟩
  have HP5 := Lib.hid (HP4.out.below b5)
  have HB5 := Lib.hid (HB4.out.trans (b5.mono HB4.out.size))
  clear b5
  go_wp2_with fail
  refine (HW4.out bp w5 HP5.out).mono ?_
  rintro e w6 ⟨rfl, b6⟩
  have HB6 := Lib.hid (HB5.out.trans (b6.mono HB5.out.size))
  clear b6
  go_wp2
  go_ret
  exact ⟨rfl, HB6.out⟩
end Go.Proofs.Ytfpdhmecomgbdaa
