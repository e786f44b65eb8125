/- Numbers with a limit: the first call, whose answer the document fixes. -/
import Derived.Test.YtooibjanlmlidaaFg
namespace Go.Proofs.Ytooibjanlmlidaa
open Go.RowKit

theorem do_div7 : doF ⟨#[47]⟩ (-7) 2 = (-3, 0) := by unfold doF; rw [sign_div]; decide +kernel
theorem do_mul2 : doF ⟨#[42]⟩ 1000000000000 2 = (0, 4) := by unfold doF; rw [sign_mul]; decide +kernel
theorem rank_419 : rankF 50 [4, 1, 9] = (4, true) := by
  unfold rankF
  rw [risen_eq (ys := [1, 4, 9]) (by decide) (by decide)]
  decide
theorem sees_lit {w : World} {b : Nat} {x y z : Int} {t : TypeId} (h : w.heap[b]? = some (.cells #[.int .i64 x, .int .i64 y, .int .i64 z] t (0, 0))) : SeesI w (some ⟨b, 0, none⟩) [x, y, z] := by
  refine .inr ⟨b, 0, rfl, (Array.getElem?_eq_some_iff.1 h).1, fun j u hu => ?_⟩
  match j, hu with
  | 0, hu => simp at hu; subst hu; simp [World.cell?, h]
  | 1, hu => simp at hu; subst hu; simp [World.cell?, h]
  | 2, hu => simp at hu; subst hu; simp [World.cell?, h]
  | j + 3, hu => simp at hu

set_option maxHeartbeats 1000000 in
set_option maxRecDepth 100000 in
theorem alive_any (w : World) : Calls Try.prog 9 #[] w fun e w' => e = .returned (.bool true) ∧ Below w.heap.size w w' := by
  have H1 := Lib.hid (fun W => (do_any ⟨#[47]⟩ (-7) 2 W (by decide)).mono fun e w' h => (show e = .returned (.tuple #[.int .i64 (-3), .int .i64 0]) ∧ Below W.heap.size W w' from ⟨by rw [h.1, do_div7], h.2⟩))
  have H2 := Lib.hid (fun W => (do_any ⟨#[42]⟩ 1000000000000 2 W (by decide)).mono fun e w' h => (show e = .returned (.tuple #[.int .i64 0, .int .i64 4]) ∧ Below W.heap.size W w' from ⟨by rw [h.1, do_mul2], h.2⟩))
  have H3 := Lib.hid (fun W o c (h : SeesI W o [4, 1, 9]) => (rank_any 50 o c [4, 1, 9] W (by decide) h).mono fun e w' h => (show e = .returned (.tuple #[.int .i64 4, .bool true]) ∧ Below W.heap.size W w' from ⟨by rw [h.1, rank_419], h.2⟩))
  have H4 := Lib.hid (fun W => right_yes 1000000000000 W (by decide))
  have H5 := Lib.hid (fun W => right_no 1000000000001 W (by decide))
  go_enter Try.func9, Try.ntmps9
  go_wp2_with fail
  refine (H1.out _).mono ?_
  rintro e w1 ⟨rfl, b1⟩
  have HB1 := Lib.hid b1
  clear b1
  go_wp2_with fail
  refine (H2.out _).mono ?_
  rintro e w2 ⟨rfl, b2⟩
  have HB2 := Lib.hid (HB1.out.trans (b2.mono HB1.out.size))
  clear b2
  go_wp2_with fail
  refine (H3.out _ _ _ (sees_lit Array.getElem?_push_size)).mono ?_
  rintro e w3 ⟨rfl, b3⟩
  have HB3 := Lib.hid ((HB2.out.alloc HB2.out.size _).trans (b3.mono (by have := HB2.out.size; simp; omega)))
  clear b3
  go_wp2_with fail
  refine (H4.out _).mono ?_
  rintro e w4 ⟨rfl, rfl⟩
  go_wp2_with fail
  refine (H5.out _).mono ?_
  rintro e w4 ⟨rfl, rfl⟩
  go_wp2
  go_ret
  exact ⟨rfl, HB3.out⟩
end Go.Proofs.Ytooibjanlmlidaa
