/- What a function of points answers, plain; the first call. -/
import Derived.Test.YthbameabfmoibaaGreatVg
namespace Go.Proofs.YthbameabfmoibaaGreat.Win
open Go.RowKit Go.Lib

theorem grow_opt (zs : List Int) : growE zs = match growP zs with | some g => (g, 0) | none => (0, 4) := by
  unfold growE growP
  by_cases h : (∀ d ∈ stepsF zs, valP d) ∧ valP (grownF zs)
  · rw [if_pos h, if_pos h]
  · rw [if_neg h, if_neg h]
theorem within_opt (v : Int) : withinP v = ((withinF v).1, (withinF v).2 == 0, (withinF v).2) := by
  unfold withinP withinF
  by_cases h : valP v
  · rw [if_pos h, if_pos (show rgt v from h)]; rfl
  · rw [if_neg h, if_neg (show ¬ rgt v from h)]; rfl
theorem wdo_over (k : Nat) (l : List Pt) : wdoF k l = overF k l := by
  unfold wdoF overF
  by_cases h : 8 ≤ k ∨ pointsB l = false
  · rw [if_pos h, if_pos h]
  rw [if_neg h, if_neg h]
  have hk : k < 8 := by omega
  have hp : pointsB l = true := by
    cases hp : pointsB l with
    | true => rfl
    | false => exact absurd (.inr hp) h
  obtain ⟨h25, _, hall⟩ := (points_iff l).1 hp
  by_cases h2 : l = [] ∨ (l.length < 2 ∧ 6 ≤ k)
  · rw [if_pos h2, if_pos]
    unfold leastN
    rcases h2 with rfl | ⟨h3, h4⟩
    · simp only [List.length_nil]; split <;> omega
    · rw [if_pos h4]; exact h3
  have hne : l ≠ [] := fun e => h2 (.inl e)
  have hpos := List.length_pos_iff.2 hne
  rw [if_neg h2, if_neg (by
    unfold leastN
    split
    · next q => intro h3; exact h2 (.inr ⟨h3, q⟩)
    · omega)]
  have hr : (numsF l).length ≤ 2000 ∧ (∀ z ∈ numsF l, rgt z) := ⟨by rw [nums_len]; omega, fun z hz => by
    obtain ⟨x, hx, rfl⟩ := List.mem_map.1 hz
    exact (hall x hx).2⟩
  have hn0 : numsF l ≠ [] := fun e => by have := nums_len l; rw [e] at this; simp at this; omega
  match k, hk with
  | 0, _ =>
    show ((sumF (numsF l)).1, (sumF (numsF l)).2 == 0, (sumF (numsF l)).2) = withinP (numsF l).sum
    unfold sumF; rw [if_pos hr, within_opt]
  | 1, _ => rfl
  | 2, _ => rfl
  | 3, _ =>
    show (((numsF l).length : Int), true, 0) = ((l.length : Int), true, 0)
    rw [nums_len]
  | 4, _ =>
    show ((meanF (numsF l)).1, (meanF (numsF l)).2 == 0, (meanF (numsF l)).2) = ((numsF l).sum.tdiv l.length, true, 0)
    unfold meanF; rw [if_neg hn0, if_pos hr, nums_len]; rfl
  | 5, _ => rfl
  | 6, _ =>
    show ((growE (numsF l)).1, (growE (numsF l)).2 == 0, (growE (numsF l)).2) = match growP (numsF l) with | some g => (g, true, 0) | none => (0, false, 4)
    rw [grow_opt]
    cases growP (numsF l) <;> rfl
  | 7, _ =>
    show ((rateE l).1, (rateE l).2 == 0, (rateE l).2) = match growP (numsF l) with
      | some g => if valP (g * 1000) then ((g * 1000).tdiv (((timesP l).getLast?).getD 0 - ((timesP l).head?).getD 0), true, 0) else (0, false, 4)
      | none => (0, false, 4)
    unfold rateE
    rw [grow_opt]
    cases growP (numsF l) with
    | none => rfl
    | some g =>
      dsimp only
      rw [if_neg (by simp)]
      unfold withinF
      by_cases hg : valP (g * 1000)
      · rw [if_pos (show rgt _ from hg), if_pos hg]; rfl
      · rw [if_neg (show ¬ rgt _ from hg), if_neg hg]; rfl

/-- .. the call's contract, with its name shown. -/
theorem wdo_form {n : Nat} (k : Nat) (hk : k < 8) (o : Option Addr) (cap : Nat) (xs : List Pt) (w : World) (hn : xs.length = n) (hm : n ≤ maxLen) (hS : Pnt.SeesO w o xs) :
    Calls Tryz.prog 10 #[.string (nmOf k), .slice o n cap] w fun e w' => e = .returned (.tuple #[.int .i64 (overF k xs).1, .bool (overF k xs).2.1, .int .i64 (overF k xs).2.2]) ∧ Below w.heap.size w w' := by
  subst hn
  have := wdo_any (nmOf k) o cap xs w hm hS
  rw [fn_nm k hk, wdo_over] at this
  exact this
theorem of_plain {n : Nat} (o : Option Addr) (cap : Nat) (xs : List Pt) (t wh : Int) (w : World) (hn : xs.length = n) (hm : n ≤ maxLen) (hS : Pnt.SeesO w o xs) (ys : List Pt) (hy : ofF xs t wh = ys) :
    Calls Tryz.prog 7 #[.slice o n cap, .int .i64 t, .int .i64 wh] w fun e w' => (∃ o2 c2, e = .returned (.slice o2 ys.length c2) ∧ w'.ownsRow w.heap.size 43 2 (.slice o2 ys.length c2) ys.length (Pnt.flatL ys) ∧ Pnt.SeesO w' o2 ys) ∧ Below w.heap.size w w' :=
  of_form o cap xs ys t wh w hn hy rfl hm hS

def three : List Pt := [(1, 5), (2, 9), (3, 2)]
theorem three_right : pointsB three = true := by decide
theorem three_of : ofF three 3 2 = [(2, 9), (3, 2)] := by decide
theorem three_last : lastF three 9 7 = (2, true) := by decide
theorem three_grow : overF 6 three = (6, true, 0) := by decide
theorem sees_three {w : World} {b : Nat} {t : TypeId} (h : w.heap[b]? = some (.cells #[.int .i64 1, .int .i64 5, .int .i64 2, .int .i64 9, .int .i64 3, .int .i64 2] t (0, 0))) : Pnt.SeesO w (some ⟨b, 0, none⟩) three := by
  refine .inr ⟨b, 0, rfl, (Array.getElem?_eq_some_iff.1 h).1, fun j u hu => ?_, fun j u hu => ?_⟩
  · unfold three at hu
    match j, hu with
    | 0, hu => simp at hu; subst hu; simp [World.cell?, h]
    | 1, hu => simp at hu; subst hu; simp [World.cell?, h]
    | 2, hu => simp at hu; subst hu; simp [World.cell?, h]
    | j + 3, hu => simp at hu
  · unfold three at hu
    match j, hu with
    | 0, hu => simp at hu; subst hu; simp [World.cell?, h]
    | 1, hu => simp at hu; subst hu; simp [World.cell?, h]
    | 2, hu => simp at hu; subst hu; simp [World.cell?, h]
    | j + 3, hu => simp at hu

set_option maxHeartbeats 1000000 in
set_option maxRecDepth 100000 in
theorem alive_any (w : World) : Calls Tryz.prog 4 #[] w fun e w' => e = .returned (.bool true) ∧ Below w.heap.size w w' := by
  have H1 := Lib.hid (fun W o c (h : Pnt.SeesO W o three) => (show Calls Tryz.prog 10 #[.string ⟨#[105, 110, 99, 114, 101, 97, 115, 101]⟩, .slice o 3 c] W fun e w' => e = .returned (.tuple #[.int .i64 6, .bool true, .int .i64 0]) ∧ Below W.heap.size W w' from by
    have := wdo_form 6 (by omega) o c three W rfl (by decide) h
    rw [three_grow] at this; exact this))
  have H2 := Lib.hid (fun W o c (h : Pnt.SeesO W o three) => (show Calls Tryz.prog 9 #[.slice o 3 c, .int .i64 9, .int .i64 7] W fun e w' => e = .returned (.tuple #[.int .i64 2, .bool true]) ∧ Below W.heap.size W w' from by
    have := last_any o c three 9 7 W (by decide) h
    rw [three_last] at this; exact this))
  have H3 := Lib.hid (fun W o c (h : Pnt.SeesO W o three) => (show Calls Tryz.prog 7 #[.slice o 3 c, .int .i64 3, .int .i64 2] W fun e w' => (∃ o2 c2, e = .returned (.slice o2 2 c2)) ∧ Below W.heap.size W w' from
    (of_form o c three _ 3 2 W rfl three_of rfl (by decide) h).mono fun e w' h => ⟨by obtain ⟨⟨o2, c2, e1, _⟩, _⟩ := h; exact ⟨o2, c2, e1⟩, h.2⟩))
  have H4 := Lib.hid (fun W o c (h : Pnt.SeesO W o three) => (show Calls Tryz.prog 12 #[.slice o 3 c] W fun e w' => e = .returned (.bool true) ∧ Below W.heap.size W w' from by
    have := wright_any o c three W (by decide) h
    rw [three_right] at this; exact this))
  go_enter Tryz.func4, Tryz.ntmps4
  go_wp2_with fail
  have hS := sees_three (w := w.alloc (.cells #[.int .i64 1, .int .i64 5, .int .i64 2, .int .i64 9, .int .i64 3, .int .i64 2] 43)) (b := w.heap.size) (t := 43) Array.getElem?_push_size
  have HS := Lib.hid hS
  have HB0 := Lib.hid (show Below w.heap.size w (w.alloc (.cells #[.int .i64 1, .int .i64 5, .int .i64 2, .int .i64 9, .int .i64 3, .int .i64 2] 43)) from (Below.refl _ _).alloc (Nat.le_refl _) _)
  clear hS
  refine (H1.out _ _ _ HS.out).mono ?_
  rintro e w1 ⟨rfl, b1⟩
  have HS1 := Lib.hid (HS.out.below b1)
  have HB1 := Lib.hid (HB0.out.trans (b1.mono HB0.out.size))
  clear b1
  go_wp2_with fail
  refine (H2.out _ _ _ HS1.out).mono ?_
  rintro e w2 ⟨rfl, b2⟩
  have HS2 := Lib.hid (HS1.out.below b2)
  have HB2 := Lib.hid (HB1.out.trans (b2.mono HB1.out.size))
  clear b2
  go_wp2_with fail
  refine (H3.out _ _ _ HS2.out).mono ?_
  rintro e w3 ⟨⟨o2, c2, rfl⟩, b3⟩
  have HS3 := Lib.hid (HS2.out.below b3)
  have HB3 := Lib.hid (HB2.out.trans (b3.mono HB2.out.size))
  clear b3
  go_wp2_with fail
  refine (H4.out _ _ _ HS3.out).mono ?_
  rintro e w4 ⟨rfl, b4⟩
  have HB4 := Lib.hid (HB3.out.trans (b4.mono HB3.out.size))
  clear b4
  go_wp2
  go_ret
  exact ⟨rfl, HB4.out⟩
end Go.Proofs.YthbameabfmoibaaGreat.Win
