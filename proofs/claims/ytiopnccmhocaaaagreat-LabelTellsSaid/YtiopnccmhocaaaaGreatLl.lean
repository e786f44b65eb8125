/- Labels: the first answers that the document fixes. -/
import Derived.Test.YtiopnccmhocaaaaGreatLj
import Derived.Test.YtiopnccmhocaaaaGreatLk
namespace Go.Proofs.YtiopnccmhocaaaaGreat
open Go.RowKit

def labBX : Lab := (⟨#[98]⟩, ⟨#[120]⟩)
def labAY : Lab := (⟨#[97]⟩, ⟨#[121]⟩)
theorem ay_right : rightB [labAY, labBX] = true := by kernel_rfl
theorem ay_sort : tidyB [labBX, labAY] = true ∧ sortL [labBX, labAY] = [labAY, labBX] := by
  have h := sorted_right (s := [labAY, labBX]) (xs := [labBX, labAY]) (List.Perm.swap _ _ _) (right_sorted ay_right)
  exact ⟨by rw [← h.2]; exact ay_right, (h.1 ay_right).symm⟩
theorem ay_text : textT [labAY, labBX] = [123, 97, 61, 34, 121, 34, 44, 98, 61, 34, 120, 34, 125] := by kernel_rfl
theorem ay_get : getL ⟨#[98]⟩ [labAY, labBX] = ⟨#[120]⟩ := by kernel_rfl

theorem two_sees (w : World) : SeesO (w.alloc (Obj.cells #[.string ⟨#[98]⟩, .string ⟨#[120]⟩, .string ⟨#[97]⟩, .string ⟨#[121]⟩] 56)) (some ⟨w.heap.size, 0, none⟩) [labBX, labAY] := by
  have h : (w.alloc (Obj.cells #[.string ⟨#[98]⟩, .string ⟨#[120]⟩, .string ⟨#[97]⟩, .string ⟨#[121]⟩] 56)).heap[w.heap.size]? = some (.cells #[.string ⟨#[98]⟩, .string ⟨#[120]⟩, .string ⟨#[97]⟩, .string ⟨#[121]⟩] 56 (0, 0)) := Array.getElem?_push_size
  generalize w.alloc (Obj.cells #[.string ⟨#[98]⟩, .string ⟨#[120]⟩, .string ⟨#[97]⟩, .string ⟨#[121]⟩] 56) = W at h ⊢
  refine .inr ⟨w.heap.size, 0, rfl, (Array.getElem?_eq_some_iff.1 h).1, fun j x hx => ?_, fun j x hx => ?_⟩
  all_goals
    match j, hx with
    | 0, hx => simp at hx; subst hx; simp [World.cell?, h, labBX]
    | 1, hx => simp at hx; subst hx; simp [World.cell?, h, labAY]
    | j + 2, hx => simp at hx

set_option maxHeartbeats 4000000 in
set_option maxRecDepth 100000 in
theorem alive_any (w : World) : Calls Tryz.prog 5 #[] w fun e w' => e = .returned (.bool true) ∧ Below w.heap.size w w' := by
  go_enter Tryz.func5, Tryz.ntmps5
  go_wp2_with fail
  have hb0 : Below w.heap.size w (w.alloc (Obj.cells #[.string ⟨#[98]⟩, .string ⟨#[120]⟩, .string ⟨#[97]⟩, .string ⟨#[121]⟩] 56)) := (Below.refl _ _).alloc (Nat.le_refl _) _
  refine (tidy_any _ 2 [labBX, labAY] _ (by simp) (two_sees w) (by intro x hx; simp at hx; rcases hx with rfl | rfl <;> decide)).mono ?_
  rintro e w1 ⟨ht, b1⟩
  rcases ht with ⟨_, v, rfl, hown⟩ | ⟨hf, _⟩
  case inr => rw [ay_sort.1] at hf; cases hf
  rw [ay_sort.2] at hown
  obtain ⟨o, c, hv, hsee, hm⟩ := own_sees hown
  have hv2 : v = .slice o 2 c := hv
  subst hv2
  have HB1 := Lib.hid (hb0.trans (b1.mono hb0.size))
  have HS1 := Lib.hid hsee
  have HM := Lib.hid hm
  clear hown hsee hm b1 hb0 hv
  go_wp2_with fail
  refine (text_any o c [labAY, labBX] w1 (by simp) HS1.out (by intro x hx; simp at hx; rcases hx with rfl | rfl <;> decide)).mono ?_
  rintro e w2 ⟨rfl, b2⟩
  rw [ay_text]
  have HB2 := Lib.hid (HB1.out.trans (b2.mono HB1.out.size))
  have HS2 := Lib.hid (HS1.out.below b2)
  clear b2 HS1 HB1
  go_wp2_with fail
  refine (get_any o c [labAY, labBX] ⟨#[98]⟩ w2 HM.out HS2.out (by intro x hx; simp at hx; rcases hx with rfl | rfl <;> decide)).mono ?_
  rintro e w3 ⟨rfl, b3⟩
  rw [ay_get]
  have HB3 := Lib.hid (HB2.out.trans (b3.mono HB2.out.size))
  have HS3 := Lib.hid (HS2.out.below b3)
  clear b3 HS2 HB2
  go_wp2_with fail
  refine (right_any o c [labAY, labBX] w3 HM.out HS3.out).mono ?_
  rintro e w4 ⟨rfl, b4⟩
  rw [ay_right]
  have HB4 := Lib.hid (HB3.out.trans (b4.mono HB3.out.size))
  clear b4 HS3 HB3
  go_wp2
  go_ret
  exact ⟨rfl, HB4.out⟩
end Go.Proofs.YtiopnccmhocaaaaGreat
