/- Every function of points by the document's own words. -/
import Derived.Test.YthbameabfmoibaaGreatVs
namespace Go.Proofs.YthbameabfmoibaaGreat.Win
open Go.RowKit Go.Lib

set_option maxHeartbeats 2000000 in
set_option maxRecDepth 100000 in
theorem rover_noname (s : ByteArray) (n cap : Nat) (o : Option Addr) (w : World) (hs : fnF s = 8) :
    Calls Tryz.prog 11 #[.string s, .slice o n cap] w fun e w' => e = .returned (.tuple #[.int .i64 0, .bool false, .int .i64 1]) ∧ Below w.heap.size w w' := by
  have HFN := Lib.hid (show Calls Tryz.prog 16 #[.string s] w fun e w' => e = .returned (.bool false) ∧ w' = w from by
    have := rfn_any s w
    rw [hs] at this; exact this)
  clear hs
  go_enter Tryz.func11, Tryz.ntmps11
  go_wp2_with fail
  refine HFN.out.mono ?_
  rintro e w1 ⟨rfl, hw1⟩
  rw [hw1]
  clear hw1
  go_wp2
  go_ret3
  exact ⟨rfl, Below.refl _ _⟩
set_option maxHeartbeats 2000000 in
set_option maxRecDepth 100000 in
theorem rover_wrong (s : ByteArray) (o : Option Addr) (cap : Nat) (xs : List Pt) (w : World) (hs : fnF s < 8) (hm : xs.length ≤ maxLen) (hp : pointsB xs = false) (hS : Pnt.SeesO w o xs) :
    Calls Tryz.prog 11 #[.string s, .slice o xs.length cap] w fun e w' => e = .returned (.tuple #[.int .i64 0, .bool false, .int .i64 1]) ∧ Below w.heap.size w w' := by
  have HFN := Lib.hid (show Calls Tryz.prog 16 #[.string s] w fun e w' => e = .returned (.bool true) ∧ w' = w from by
    have := rfn_any s w
    rw [decide_eq_true hs] at this; exact this)
  have HP := Lib.hid (rpoints_any o cap xs w hm hS)
  rw [hp] at HP
  generalize xs.length = n at HP ⊢
  clear hs hp hS hm
  go_enter Tryz.func11, Tryz.ntmps11
  go_wp2_with fail
  refine HFN.out.mono ?_
  rintro e w1 ⟨rfl, hw1⟩
  rw [hw1]
  clear hw1
  go_wp2_with fail
  refine HP.out.mono ?_
  rintro e w2 ⟨rfl, b2⟩
  have HB := Lib.hid b2
  clear b2
  go_wp2
  go_ret3
  exact ⟨rfl, HB.out⟩
set_option maxHeartbeats 2000000 in
set_option maxRecDepth 100000 in
theorem rover_empty (s : ByteArray) (o : Option Addr) (cap : Nat) (w : World) (hs : fnF s < 8) (hS : Pnt.SeesO w o []) :
    Calls Tryz.prog 11 #[.string s, .slice o 0 cap] w fun e w' => e = .returned (.tuple #[.int .i64 0, .bool false, .int .i64 0]) ∧ Below w.heap.size w w' := by
  have HFN := Lib.hid (show Calls Tryz.prog 16 #[.string s] w fun e w' => e = .returned (.bool true) ∧ w' = w from by
    have := rfn_any s w
    rw [decide_eq_true hs] at this; exact this)
  have HP := Lib.hid (show Calls Tryz.prog 13 #[.slice o 0 cap] w fun e w' => e = .returned (.bool true) ∧ Below w.heap.size w w' from rpoints_any o cap [] w (by simp [maxLen]) hS)
  clear hs hS
  go_enter Tryz.func11, Tryz.ntmps11
  go_wp2_with fail
  refine HFN.out.mono ?_
  rintro e w1 ⟨rfl, hw1⟩
  rw [hw1]
  clear hw1
  go_wp2_with fail
  refine HP.out.mono ?_
  rintro e w2 ⟨rfl, b2⟩
  have HB := Lib.hid b2
  clear b2
  go_wp2
  go_ret3
  exact ⟨rfl, HB.out⟩
set_option maxHeartbeats 2000000 in
set_option maxRecDepth 100000 in
theorem rover_few (s : ByteArray) (hs : s = ⟨#[105, 110, 99, 114, 101, 97, 115, 101]⟩ ∨ s = ⟨#[114, 97, 116, 101]⟩) (hf : fnF s < 8) (o : Option Addr) (cap : Nat) (p : Pt) (w : World) (hp : pointsB [p] = true) (hS : Pnt.SeesO w o [p]) :
    Calls Tryz.prog 11 #[.string s, .slice o 1 cap] w fun e w' => e = .returned (.tuple #[.int .i64 0, .bool false, .int .i64 0]) ∧ Below w.heap.size w w' := by
  have HFN := Lib.hid (show Calls Tryz.prog 16 #[.string s] w fun e w' => e = .returned (.bool true) ∧ w' = w from by
    have := rfn_any s w
    rw [decide_eq_true hf] at this; exact this)
  have HP := Lib.hid (show Calls Tryz.prog 13 #[.slice o 1 cap] w fun e w' => e = .returned (.bool true) ∧ Below w.heap.size w w' from by
    have := rpoints_any o cap [p] w (by simp [maxLen]) hS
    rw [hp] at this; exact this)
  clear hf hS hp
  rcases hs with rfl | rfl
  all_goals
    go_enter Tryz.func11, Tryz.ntmps11
    go_wp2_with fail
    refine HFN.out.mono ?_
    rintro e w1 ⟨rfl, hw1⟩
    rw [hw1]
    clear hw1
    go_wp2_with fail
    refine HP.out.mono ?_
    rintro e w2 ⟨rfl, b2⟩
    have HB := Lib.hid b2
    clear b2
    go_wp2
    go_ret3
    exact ⟨rfl, HB.out⟩
theorem rover_any (s : ByteArray) (o : Option Addr) (cap : Nat) (xs : List Pt) (w : World) (hm : xs.length ≤ maxLen) (hS : Pnt.SeesO w o xs) :
    Calls Tryz.prog 11 #[.string s, .slice o xs.length cap] w fun e w' => e = .returned (.tuple #[.int .i64 (overF (fnF s) xs).1, .bool (overF (fnF s) xs).2.1, .int .i64 (overF (fnF s) xs).2.2]) ∧ Below w.heap.size w w' := by
  have hov1 : ∀ k, (8 ≤ k ∨ pointsB xs = false) → overF k xs = (0, false, 1) := fun k h => by unfold overF; rw [if_pos h]
  rcases fn_cases s with ⟨k, hk, rfl⟩ | ⟨h8, _⟩
  case inr => rw [hov1 _ (.inl (by omega))]; exact rover_noname s xs.length cap o w h8
  have hf : fnF (nmOf k) < 8 := by rw [fn_nm k hk]; exact hk
  cases hp : pointsB xs with
  | false => rw [hov1 _ (.inr hp)]; exact rover_wrong (nmOf k) o cap xs w hf hm hp hS
  | true =>
  rw [fn_nm k hk]
  by_cases h2 : 2 ≤ xs.length
  · exact rover_two (nmOf k) k (name_at hk) o cap xs w hp h2 hS
  match xs, h2, hS, hp with
  | [], _, hS, _ => rw [over_none k hk]; exact rover_empty (nmOf k) o cap w hf hS
  | [p], _, hS, hp =>
    by_cases hk6 : k < 6
    · exact rover_one (nmOf k) k (name_at hk) o cap [p] w hp rfl hk6 hS
    · have he : overF k [p] = (0, false, 0) := by
        have h := over_one hp
        match k, hk, hk6 with
        | 6, _, _ => exact h.2.2.2.2.2.2.1
        | 7, _, _ => exact h.2.2.2.2.2.2.2
        | 0, _, h => exact absurd (by omega) h
        | 1, _, h => exact absurd (by omega) h
        | 2, _, h => exact absurd (by omega) h
        | 3, _, h => exact absurd (by omega) h
        | 4, _, h => exact absurd (by omega) h
        | 5, _, h => exact absurd (by omega) h
      rw [he]
      refine rover_few (nmOf k) ?_ hf o cap p w hp hS
      match k, hk, hk6 with
      | 6, _, _ => exact .inl rfl
      | 7, _, _ => exact .inr rfl
      | 0, _, h => exact absurd (by omega) h
      | 1, _, h => exact absurd (by omega) h
      | 2, _, h => exact absurd (by omega) h
      | 3, _, h => exact absurd (by omega) h
      | 4, _, h => exact absurd (by omega) h
      | 5, _, h => exact absurd (by omega) h
  | _ :: _ :: _, h, _, _ => exact absurd (by simp) h
end Go.Proofs.YthbameabfmoibaaGreat.Win
