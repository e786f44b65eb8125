/- Walks: two numbers reckoned with; which texts compare. -/
import Derived.Test.YthbameabfmoibaaGreatFd
namespace Go.Proofs.YthbameabfmoibaaGreat
open Go.RowKit

theorem box_reads {w1 w2 : World} {f : Int} {q : Bool} (h : Below (w1.alloc (.cells #[.int .i32 f, .bool q] 146)).heap.size (w1.alloc (.cells #[.int .i32 f, .bool q] 146)) w2) :
    w2.cell? ⟨w1.heap.size, 0, none⟩ = some (.int .i32 f) ∧ w2.cell? ⟨w1.heap.size, 1, none⟩ = some (.bool q) := by
  have h1 := (h.block w1.heap.size (by simp)).trans (show _ = some (Obj.cells #[.int .i32 f, .bool q] 146 (0, 0)) from Array.getElem?_push_size)
  exact ⟨(cells_two h1).1, (cells_two h1).2.1⟩

set_option maxHeartbeats 2000000 in
set_option maxRecDepth 100000 in
theorem do_any (s : ByteArray) (a b : Int) (w : World) (hs : s.size ≤ maxLen) : Calls Tryz.prog 96 #[.string s, .int .i64 a, .int .i64 b] w fun e w' => e = .returned (.tuple #[.int .i64 (doF s a b).1, .int .i64 (doF s a b).2]) ∧ Below w.heap.size w w' := by
  have HR := Lib.hid (fun W => read_any s W hs)
  obtain ⟨x, hx⟩ : ∃ x, readF (spell s.data.toList) = x := ⟨_, rfl⟩
  obtain ⟨f, q, ok⟩ := x
  have HX := Lib.hid hx
  have HR2 := Lib.hid (fun W => (HR.out W).mono fun e w' (h : ReadP s W e w') => (show e = .returned (.tuple #[.agg #[.int .i32 f, .bool q], .bool ok]) ∧ Below W.heap.size W w' from by obtain ⟨h1, h2⟩ := h; rw [HX.out] at h1; exact ⟨h1, h2⟩))
  have HE := Lib.hid (show doF s a b = (if ok = true ∧ rgt a ∧ rgt b then (if cmpB f q then (if holdsF f q a b then (1, 0) else (0, 0)) else reckF f a b) else (0, 1)) by
    unfold doF signOf; rw [HX.out]
    cases ok
    · simp
    · simp)
  clear hx HR HX
  rw [HE.out]
  clear HE
  by_cases hn : ok = true ∧ rgt a ∧ rgt b
  · obtain ⟨rfl, ha, hb⟩ := hn
    rw [if_pos ⟨rfl, ha, hb⟩]
    have HA := Lib.hid (fun W => right_yes a W ha)
    have HB := Lib.hid (fun W => right_yes b W hb)
    have HK := Lib.hid (fun W => reckon_any f q a b W ha hb)
    have HC := Lib.hid (fun W => compares_any f q W)
    have HH := Lib.hid (fun W => holds_any f q a b W)
    clear ha hb
    cases hc : cmpB f q with
    | false =>
      rw [hc] at HC
      clear hc
      rw [if_neg (by simp)]
      obtain ⟨r, hr⟩ : ∃ r, reckF f a b = r := ⟨_, rfl⟩
      rw [hr] at HK ⊢
      clear hr HH
      go_enter Tryz.func96, Tryz.ntmps96
      go_wp2_with fail
      refine (HR2.out _).mono ?_
      rintro e w1 ⟨rfl, b1⟩
      have HB1 := Lib.hid b1
      clear b1
      go_wp2_with fail
      refine (HA.out _).mono ?_
      rintro e w2 ⟨rfl, rfl⟩
      go_wp2_with fail
      refine (HB.out _).mono ?_
      rintro e w2 ⟨rfl, rfl⟩
      go_wp2_with fail
      refine (HC.out _).mono ?_
      rintro e w2 ⟨rfl, b2⟩
      obtain ⟨c0, c1⟩ := box_reads b2
      have HB2 := Lib.hid ((HB1.out.alloc HB1.out.size _).trans (b2.mono (by have := HB1.out.size; simp; omega)))
      clear b2
      go_wp2_with fail
      refine (HK.out _).mono ?_
      rintro e w3 ⟨rfl, b3⟩
      have HB3 := Lib.hid (HB2.out.trans (b3.mono HB2.out.size))
      clear b3
      go_wp2
      go_ret2
      exact ⟨rfl, HB3.out⟩
    | true =>
      rw [hc] at HC
      clear hc
      rw [if_pos rfl]
      cases hh : holdsF f q a b
      all_goals
        rw [hh] at HH
        clear hh HK
        go_enter Tryz.func96, Tryz.ntmps96
        go_wp2_with fail
        refine (HR2.out _).mono ?_
        rintro e w1 ⟨rfl, b1⟩
        have HB1 := Lib.hid b1
        clear b1
        go_wp2_with fail
        refine (HA.out _).mono ?_
        rintro e w2 ⟨rfl, rfl⟩
        go_wp2_with fail
        refine (HB.out _).mono ?_
        rintro e w2 ⟨rfl, rfl⟩
        go_wp2_with fail
        refine (HC.out _).mono ?_
        rintro e w2 ⟨rfl, b2⟩
        obtain ⟨c0, c1⟩ := box_reads b2
        have HB2 := Lib.hid ((HB1.out.alloc HB1.out.size _).trans (b2.mono (by have := HB1.out.size; simp; omega)))
        clear b2
        go_wp2_with fail
        refine (HH.out _).mono ?_
        rintro e w3 ⟨rfl, b3⟩
        have HB3 := Lib.hid (HB2.out.trans (b3.mono HB2.out.size))
        clear b3
        go_wp2
        go_ret2
        exact ⟨by simp, HB3.out⟩
  · rw [if_neg hn]
    cases ok with
    | false =>
      clear hn
      go_enter Tryz.func96, Tryz.ntmps96
      go_wp2_with fail
      refine (HR2.out _).mono ?_
      rintro e w1 ⟨rfl, b1⟩
      have HB1 := Lib.hid b1
      clear b1
      go_wp2_with fail
      go_ret2
      exact ⟨rfl, HB1.out.alloc HB1.out.size _⟩
    | true =>
      by_cases ha : rgt a
      · have HA := Lib.hid (fun W => right_yes a W ha)
        have HB := Lib.hid (fun W => right_no b W (fun h => hn ⟨rfl, ha, h⟩))
        clear hn ha
        go_enter Tryz.func96, Tryz.ntmps96
        go_wp2_with fail
        refine (HR2.out _).mono ?_
        rintro e w1 ⟨rfl, b1⟩
        have HB1 := Lib.hid b1
        clear b1
        go_wp2_with fail
        refine (HA.out _).mono ?_
        rintro e w2 ⟨rfl, rfl⟩
        go_wp2_with fail
        refine (HB.out _).mono ?_
        rintro e w2 ⟨rfl, rfl⟩
        go_wp2
        go_ret2
        exact ⟨rfl, HB1.out.alloc HB1.out.size _⟩
      · have HA := Lib.hid (fun W => right_no a W ha)
        clear hn ha
        go_enter Tryz.func96, Tryz.ntmps96
        go_wp2_with fail
        refine (HR2.out _).mono ?_
        rintro e w1 ⟨rfl, b1⟩
        have HB1 := Lib.hid b1
        clear b1
        go_wp2_with fail
        refine (HA.out _).mono ?_
        rintro e w2 ⟨rfl, rfl⟩
        go_wp2
        go_ret2
        exact ⟨rfl, HB1.out.alloc HB1.out.size _⟩
end Go.Proofs.YthbameabfmoibaaGreat
