/- Walks: room is taken and given back; the law's first call. -/
import Derived.Test.YtlnlhimnbiabcaaPub
namespace Go.Proofs.Ytlnlhimnbiabcaa.Pur
open Go.RowKit Go.Lib

theorem Pt.drew {w : World} {b : Nat} {p : Pu} (h : Pt w b p) (n : Nat) : Pt (w.drewN n) b p := h.keep rfl
theorem Pt.drew1 {w : World} {b : Nat} {p : Pu} (h : Pt w b p) : Pt w.drew b p := h.keep rfl
theorem _root_.Go.World.grownBy.drew1 {w w' : World} {r : Option Nat} (h : w.grownBy w' r) : w.grownBy w'.drew r := ⟨h.os, h.tape, h.output, h.size, h.block⟩
theorem grown_drewN {w w' : World} {r : Option Nat} (h : w.grownBy w' r) (n : Nat) : w.grownBy (w'.drewN n) r := ⟨h.os, h.tape, h.output, h.size, h.block⟩
theorem grown_refl (w : World) (r : Option Nat) : w.grownBy w r := ⟨rfl, rfl, rfl, Nat.le_refl _, fun _ _ _ => rfl⟩

set_option maxHeartbeats 1000000 in
set_option maxRecDepth 100000 in
theorem take_any (b : Nat) (p : Pu) (n : Int) (w : World) (h : Pt w b p) :
    Calls Try.prog 8 #[.pointer (some ⟨b, 0, none⟩), .int .i64 n] w fun e w' => e = .returned (.bool (takeU p n).2) ∧ Pt w' b (takeU p n).1 ∧ w.grownBy w' (some b) := by
  have HR := Lib.hid (ready_any b p w h)
  have HL := Lib.hid (left_any b p w h)
  by_cases h0 : n < 0
  · have e : takeU p n = (p, false) := by unfold takeU; rw [if_pos (Or.inl h0)]
    have hd : decide (n < 0) = true := decide_eq_true h0
    have HP := Lib.hid h
    rw [e]
    clear h e HL
    go_enter Try.func8, Try.ntmps8
    go_wp2_with fail
    refine HR.out.mono ?_
    rintro e w1 ⟨rfl, rfl⟩
    go_wp2
    go_ret
    exact ⟨rfl, HP.out, grown_refl _ _⟩
  by_cases h1 : p.room - p.now < n
  · have e : takeU p n = (p, false) := by unfold takeU; rw [if_pos (Or.inr h1)]
    obtain ⟨d, hd⟩ : ∃ d, p.room - p.now = d := ⟨_, rfl⟩
    rw [hd] at h1 HL
    have HP := Lib.hid h
    rw [e]
    clear h e hd
    go_enter Try.func8, Try.ntmps8
    go_wp2_with fail
    refine HR.out.mono ?_
    rintro e w1 ⟨rfl, rfl⟩
    go_wp2_with fail
    refine HL.out.mono ?_
    rintro e w1 ⟨rfl, nq, rfl⟩
    go_wp2
    go_ret
    exact ⟨rfl, HP.out.drew _, grown_drewN (grown_refl _ _) _⟩
  · have hw := well_take h.well n
    have e : takeU p n = (⟨p.room, p.now + n, max p.high (p.now + n)⟩, true) := by unfold takeU; rw [if_neg (by omega)]
    obtain ⟨d, hd⟩ : ∃ d, p.room - p.now = d := ⟨_, rfl⟩
    obtain ⟨k1, k2, k3, k4⟩ := h.well
    have hx : IntKind.i64.wrap (p.now + n) = p.now + n := by rw [IntKind.wrap_i64]; omega
    rw [e] at hw ⊢
    rw [hd] at h1 HL
    obtain ⟨x, hxx⟩ : ∃ x, p.now + n = x := ⟨_, rfl⟩
    rw [hxx] at hx hw ⊢
    obtain ⟨y, hyy⟩ : ∃ y, max p.high x = y := ⟨_, rfl⟩
    rw [hyy] at hw ⊢
    have HE := Lib.hid (fun m => show Pt (((w.drewN m).setCell ⟨b, 2, none⟩ (.int .i64 x)).setCell ⟨b, 3, none⟩ (.int .i64 y)) b ⟨p.room, x, y⟩ from (h.drew m).take x y hw)
    have HG := Lib.hid (fun m => show w.grownBy (((w.drewN m).setCell ⟨b, 2, none⟩ (.int .i64 x)).setCell ⟨b, 3, none⟩ (.int .i64 y)) (some b) from grown_trans (grown_trans (grown_drewN (grown_refl _ _) m) (grown_set _ _ _ _)) (grown_set _ _ _ _))
    have HA := Lib.hid (fun m => show Pt ((w.drewN m).setCell ⟨b, 2, none⟩ (.int .i64 x)) b ⟨p.room, x, p.high⟩ → True from fun _ => trivial)
    have c2 := fun m => (h.drew m).c2
    have f2 := fun m => (h.drew m).fr 2
    have g2 : ∀ m, ((w.drewN m).setCell ⟨b, 2, none⟩ (.int .i64 x)).cell? ⟨b, 2, none⟩ = some (.int .i64 x) := fun m => by
      have hr := heap_setCell_same _ _ 2 _ _ (.int .i64 x) (h.drew m).row
      simp [World.cell?, hr]
    have g3 : ∀ m, ((w.drewN m).setCell ⟨b, 2, none⟩ (.int .i64 x)).cell? ⟨b, 3, none⟩ = some (.int .i64 p.high) := fun m => by
      have hr := heap_setCell_same _ _ 2 _ _ (.int .i64 x) (h.drew m).row
      simp [World.cell?, hr]
    have f3 : ∀ m, ((w.drewN m).setCell ⟨b, 2, none⟩ (.int .i64 x)).frozen? ⟨b, 3, none⟩ = false := fun m => by
      rw [World.frozen?_setCell]; exact (h.drew m).fr 3
    clear h hw e hd HA
    go_enter Try.func8, Try.ntmps8
    go_wp2_with fail
    refine HR.out.mono ?_
    rintro e w1 ⟨rfl, rfl⟩
    go_wp2_with fail
    refine HL.out.mono ?_
    rintro e w2 ⟨rfl, nq, rfl⟩
    have HE1 := Lib.hid (HE.out nq)
    have HG1 := Lib.hid (HG.out nq)
    have c2' := c2 nq
    have f2' := f2 nq
    have g2' := g2 nq
    have g3' := g3 nq
    have f3' := f3 nq
    clear c2 f2 g2 g3 f3 HE HG HL k1 k2 k3 k4
    go_wp2
    go_region
    all_goals
      go_wp2
      go_ret
      exact ⟨rfl, HE1.out.drew1, HG1.out.drew1⟩
theorem take_nil (n : Int) (w : World) :
    Calls Try.prog 8 #[.pointer none, .int .i64 n] w fun e w' => e = .returned (.bool false) ∧ w' = w := by
  have HR := Lib.hid (ready_nil w)
  go_enter Try.func8, Try.ntmps8
  go_wp2_with fail
  refine HR.out.mono ?_
  rintro e w1 ⟨rfl, rfl⟩
  go_wp2
  go_ret
  exact ⟨rfl, rfl⟩

set_option maxHeartbeats 1000000 in
set_option maxRecDepth 100000 in
theorem give_any (b : Nat) (p : Pu) (n : Int) (w : World) (h : Pt w b p) :
    Calls Try.prog 9 #[.pointer (some ⟨b, 0, none⟩), .int .i64 n] w fun e w' => e = .returned (.bool (giveU p n).2) ∧ Pt w' b (giveU p n).1 ∧ w.grownBy w' (some b) := by
  have HR := Lib.hid (ready_any b p w h)
  by_cases h0 : n < 0
  · have e : giveU p n = (p, false) := by unfold giveU; rw [if_pos (Or.inl h0)]
    have hd : decide (n < 0) = true := decide_eq_true h0
    have HP := Lib.hid h
    rw [e]
    clear h e
    go_enter Try.func9, Try.ntmps9
    go_wp2_with fail
    refine HR.out.mono ?_
    rintro e w1 ⟨rfl, rfl⟩
    go_wp2
    go_ret
    exact ⟨rfl, HP.out, grown_refl _ _⟩
  by_cases h1 : p.now < n
  · have e : giveU p n = (p, false) := by unfold giveU; rw [if_pos (Or.inr h1)]
    have HP := Lib.hid h
    have c2 := h.c2
    rw [e]
    clear h e
    go_enter Try.func9, Try.ntmps9
    go_wp2_with fail
    refine HR.out.mono ?_
    rintro e w1 ⟨rfl, rfl⟩
    go_wp2
    go_ret
    exact ⟨rfl, HP.out, grown_refl _ _⟩
  · have hw := well_give h.well n
    have e : giveU p n = (⟨p.room, p.now - n, p.high⟩, true) := by unfold giveU; rw [if_neg (by omega)]
    obtain ⟨k1, k2, k3, k4⟩ := h.well
    have hx : IntKind.i64.wrap (p.now - n) = p.now - n := by rw [IntKind.wrap_i64]; omega
    rw [e] at hw ⊢
    obtain ⟨x, hxx⟩ : ∃ x, p.now - n = x := ⟨_, rfl⟩
    rw [hxx] at hx hw ⊢
    have HE := Lib.hid (h.give x hw)
    have HG := Lib.hid (grown_set w b 2 (.int .i64 x))
    have c2 := h.c2
    have f2 := h.fr 2
    clear h hw e
    go_enter Try.func9, Try.ntmps9
    go_wp2_with fail
    refine HR.out.mono ?_
    rintro e w1 ⟨rfl, rfl⟩
    go_wp2
    go_ret
    exact ⟨rfl, HE.out, HG.out⟩
theorem give_nil (n : Int) (w : World) :
    Calls Try.prog 9 #[.pointer none, .int .i64 n] w fun e w' => e = .returned (.bool false) ∧ w' = w := by
  have HR := Lib.hid (ready_nil w)
  go_enter Try.func9, Try.ntmps9
  go_wp2_with fail
  refine HR.out.mono ?_
  rintro e w1 ⟨rfl, rfl⟩
  go_wp2
  go_ret
  exact ⟨rfl, rfl⟩

/-- Taken, as the walks put it. -/
theorem take_at {b : Nat} {p q : Pu} {n : Int} {r : Bool} (he : takeU p n = (q, r)) (w : World) (h : Pt w b p) :
    Calls Try.prog 8 #[.pointer (some ⟨b, 0, none⟩), .int .i64 n] w fun e w' => e = .returned (.bool r) ∧ Pt w' b q ∧ w.grownBy w' (some b) := by
  have := take_any b p n w h
  rw [he] at this; exact this
theorem give_at {b : Nat} {p q : Pu} {n : Int} {r : Bool} (he : giveU p n = (q, r)) (w : World) (h : Pt w b p) :
    Calls Try.prog 9 #[.pointer (some ⟨b, 0, none⟩), .int .i64 n] w fun e w' => e = .returned (.bool r) ∧ Pt w' b q ∧ w.grownBy w' (some b) := by
  have := give_any b p n w h
  rw [he] at this; exact this
theorem left_at {b : Nat} {p : Pu} {d : Int} (he : p.room - p.now = d) (w : World) (h : Pt w b p) :
    Calls Try.prog 12 #[.pointer (some ⟨b, 0, none⟩)] w fun e w' => e = .returned (.int .i64 d) ∧ ∃ n, w' = w.drewN n := by
  have := left_any b p w h
  rw [he] at this; exact this

set_option maxHeartbeats 1000000 in
set_option maxRecDepth 100000 in
theorem alive_any (w : World) : Calls Try.prog 6 #[] w fun e w' => e = .returned (.bool true) ∧ Below w.heap.size w w' := by
  have HN := Lib.hid (new_any 10 w)
  have H1 := Lib.hid (fun W (h : Pt W w.heap.size ⟨10, 0, 0⟩) => take_at (q := ⟨10, 8, 8⟩) (r := true) (n := 8) (by decide) W h)
  have H2 := Lib.hid (fun W (h : Pt W w.heap.size ⟨10, 8, 8⟩) => take_at (q := ⟨10, 8, 8⟩) (r := false) (n := 3) (by decide) W h)
  have H3 := Lib.hid (fun W (h : Pt W w.heap.size ⟨10, 8, 8⟩) => give_at (q := ⟨10, 3, 8⟩) (r := true) (n := 5) (by decide) W h)
  have H4 := Lib.hid (fun W (h : Pt W w.heap.size ⟨10, 3, 8⟩) => high_any _ _ W h)
  have H5 := Lib.hid (fun W (h : Pt W w.heap.size ⟨10, 3, 8⟩) => now_any _ _ W h)
  have H6 := Lib.hid (fun W (h : Pt W w.heap.size ⟨10, 3, 8⟩) => left_at (d := 7) (by decide) W h)
  go_enter Try.func6, Try.ntmps6
  go_wp2_with fail
  refine HN.out.mono ?_
  rintro e w1 ⟨rfl, p1, b1⟩
  have HP1 := Lib.hid (show Pt w1 w.heap.size ⟨10, 0, 0⟩ from p1)
  have HB1 := Lib.hid b1
  clear p1 b1
  go_wp2_with fail
  refine (H1.out _ HP1.out).mono ?_
  rintro e w2 ⟨rfl, p2, g2⟩
  have HP2 := Lib.hid p2
  have HB2 := Lib.hid (HB1.out.trans (below_own g2 (Nat.le_refl _) HP1.out.lt))
  clear p2 g2
  go_wp2_with fail
  refine (H2.out _ HP2.out).mono ?_
  rintro e w3 ⟨rfl, p3, g3⟩
  have HP3 := Lib.hid p3
  have HB3 := Lib.hid (HB2.out.trans (below_own g3 (Nat.le_refl _) HP2.out.lt))
  clear p3 g3
  go_wp2_with fail
  refine (H3.out _ HP3.out).mono ?_
  rintro e w4 ⟨rfl, p4, g4⟩
  have HP4 := Lib.hid p4
  have HB4 := Lib.hid (HB3.out.trans (below_own g4 (Nat.le_refl _) HP3.out.lt))
  clear p4 g4
  go_wp2_with fail
  refine (H4.out _ HP4.out).mono ?_
  rintro e w5 ⟨rfl, rfl⟩
  go_wp2_with fail
  refine (H5.out _ HP4.out).mono ?_
  rintro e w6 ⟨rfl, rfl⟩
  go_wp2_with fail
  refine (H6.out _ HP4.out).mono ?_
  rintro e w7 ⟨rfl, nq, rfl⟩
  go_wp2
  go_ret
  exact ⟨rfl, HB4.out.trans ⟨rfl, rfl, rfl, Nat.le_refl _, fun _ _ => rfl⟩⟩
end Go.Proofs.Ytlnlhimnbiabcaa.Pur
