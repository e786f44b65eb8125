/- The law: what has no room is not taken. -/
import Derived.Test.YtlnlhimnbiabcaaPuc
namespace Go.Proofs.Ytlnlhimnbiabcaa.Pur
open Go.RowKit Go.Lib

theorem takeU_yes {p q : Pu} {n : Int} (h0 : 0 ≤ n) (h1 : n ≤ p.room - p.now) (e1 : q.room = p.room) (e2 : q.now = p.now + n) (e3 : q.high = max p.high q.now) : takeU p n = (q, true) := by
  unfold takeU; rw [if_neg (by omega)]
  cases q
  dsimp only at e1 e2 e3 ⊢
  rw [e3, e2, e1]
theorem takeU_no {p : Pu} {n : Int} (h : n < 0 ∨ p.room - p.now < n) : takeU p n = (p, false) := by
  unfold takeU; rw [if_pos h]
theorem giveU_yes {p q : Pu} {n : Int} (h0 : 0 ≤ n) (h1 : n ≤ p.now) (e1 : q.room = p.room) (e2 : q.now = p.now - n) (e3 : q.high = p.high) : giveU p n = (q, true) := by
  unfold giveU; rw [if_neg (by omega)]
  cases q
  dsimp only at e1 e2 e3 ⊢
  rw [e3, e2, e1]
theorem giveU_no {p : Pu} {n : Int} (h : n < 0 ∨ p.now < n) : giveU p n = (p, false) := by
  unfold giveU; rw [if_pos h]
theorem newP_is {room : Int} (h0 : 0 ≤ room) (h1 : room ≤ 1000000) : newP room = ⟨room, 0, 0⟩ := by
  unfold newP
  rw [show min (max room 0) 1000000 = room by omega]

set_option maxHeartbeats 2000000 in
set_option maxRecDepth 100000 in
theorem full_any (r n : Int) (w : World) :
    Calls Try.prog 5 #[.int .i64 r, .int .i64 n] w fun e w' => e = .returned (.bool true) ∧ Below w.heap.size w w' := by
  have HA := Lib.hid (fun W => alive_any W)
  by_cases h0 : r < 0
  · have d0 : decide (r < 0) = true := decide_eq_true h0
    go_enter Try.func5, Try.ntmps5
    go_wp2_with fail
    refine (HA.out _).mono ?_
    rintro e w1 ⟨rfl, b1⟩
    go_wp2
    go_ret
    exact ⟨rfl, b1⟩
  by_cases h1 : 1000000 < r
  · go_enter Try.func5, Try.ntmps5
    go_wp2_with fail
    refine (HA.out _).mono ?_
    rintro e w1 ⟨rfl, b1⟩
    go_wp2
    go_ret
    exact ⟨rfl, b1⟩
  by_cases h2 : n < 0
  · go_enter Try.func5, Try.ntmps5
    go_wp2_with fail
    refine (HA.out _).mono ?_
    rintro e w1 ⟨rfl, b1⟩
    go_wp2
    go_ret
    exact ⟨rfl, b1⟩
  by_cases h3 : r < n
  · go_enter Try.func5, Try.ntmps5
    go_wp2_with fail
    refine (HA.out _).mono ?_
    rintro e w1 ⟨rfl, b1⟩
    go_wp2
    go_ret
    exact ⟨rfl, b1⟩
  obtain ⟨d, hd⟩ : ∃ d, r - n = d := ⟨_, rfl⟩
  obtain ⟨d1, hd1⟩ : ∃ d1, d + 1 = d1 := ⟨_, rfl⟩
  have HN := Lib.hid (fun W => show Calls Try.prog 7 #[.int .i64 r] W fun e w' => e = .returned (.pointer (some ⟨W.heap.size, 0, none⟩)) ∧ Pt w' W.heap.size ⟨r, 0, 0⟩ ∧ Below W.heap.size W w' from by
    have := new_any r W
    rw [newP_is (by omega) (by omega)] at this; exact this)
  have H1 := Lib.hid (fun b W h => take_at (b := b) (p := ⟨r, 0, 0⟩) (q := ⟨r, n, n⟩) (n := n) (takeU_yes (by omega) (by dsimp only; omega) rfl (by dsimp only; omega) (by dsimp only; omega)) W h)
  have H2 := Lib.hid (fun b W h => take_at (b := b) (p := ⟨r, n, n⟩) (n := d1) (takeU_no (Or.inr (by dsimp only; omega))) W h)
  have H3 := Lib.hid (fun b W h => take_at (b := b) (p := ⟨r, n, n⟩) (q := ⟨r, r, r⟩) (n := d) (takeU_yes (by omega) (by dsimp only; omega) rfl (by dsimp only; omega) (by dsimp only; omega)) W h)
  have H4 := Lib.hid (fun b W h => left_at (b := b) (p := ⟨r, r, r⟩) (d := 0) (by dsimp only; omega) W h)
  have H5 := Lib.hid (fun b W h => take_at (b := b) (p := ⟨r, r, r⟩) (n := 1) (takeU_no (Or.inr (by dsimp only; omega))) W h)
  have H6 := Lib.hid (fun b W h => take_at (b := b) (p := ⟨r, r, r⟩) (q := ⟨r, r, r⟩) (n := 0) (takeU_yes (by omega) (by dsimp only; omega) rfl (by dsimp only; omega) (by dsimp only; omega)) W h)
  have H7 := Lib.hid (fun b W h => give_at (b := b) (p := ⟨r, r, r⟩) (q := ⟨r, 0, r⟩) (n := r) (giveU_yes (by omega) (by dsimp only; omega) rfl (by dsimp only; omega) rfl) W h)
  have H8 := Lib.hid (fun b W h => left_at (b := b) (p := ⟨r, 0, r⟩) (d := r) (by dsimp only; omega) W h)
  have H9 := Lib.hid (fun b W h => high_any b ⟨r, 0, r⟩ W h)
  have H10 := Lib.hid (fun b W h => give_at (b := b) (p := ⟨r, 0, r⟩) (n := -1) (giveU_no (Or.inl (by decide))) W h)
  have H11 := Lib.hid (fun b W h => take_at (b := b) (p := ⟨r, 0, r⟩) (n := -1) (takeU_no (Or.inl (by decide))) W h)
  have j1 : IntKind.i64.wrap (r - n) = d := by rw [IntKind.wrap_i64]; omega
  have j2 : IntKind.i64.wrap (d + 1) = d1 := by rw [IntKind.wrap_i64]; omega
  clear hd hd1
  go_enter Try.func5, Try.ntmps5
  go_wp2_with fail
  refine (HA.out _).mono ?_
  rintro e w1 ⟨rfl, b1⟩
  have HB1 := Lib.hid b1
  clear b1
  go_wp2_with fail
  refine (HN.out _).mono ?_
  rintro e w2 ⟨rfl, p2, b2⟩
  have HB2 := Lib.hid (HB1.out.trans (b2.mono HB1.out.size))
  obtain ⟨g, hg⟩ : ∃ g, w1.heap.size = g := ⟨_, rfl⟩
  have HL := Lib.hid (show w.heap.size ≤ g by rw [← hg]; exact HB1.out.size)
  rw [hg] at p2 ⊢
  have HP2 := Lib.hid p2
  clear p2 b2 hg
  go_wp2_with fail
  refine (H1.out _ _ HP2.out).mono ?_
  rintro e w3 ⟨rfl, p3, g3⟩
  have HP3 := Lib.hid p3
  have HB3 := Lib.hid (HB2.out.trans (below_own g3 HL.out HP2.out.lt))
  clear p3 g3
  go_wp2_with fail
  refine (H2.out _ _ HP3.out).mono ?_
  rintro e w4 ⟨rfl, p4, g4⟩
  have HP4 := Lib.hid p4
  have HB4 := Lib.hid (HB3.out.trans (below_own g4 HL.out HP3.out.lt))
  clear p4 g4
  go_wp2_with fail
  refine (H3.out _ _ HP4.out).mono ?_
  rintro e w5 ⟨rfl, p5, g5⟩
  have HP5 := Lib.hid p5
  have HB5 := Lib.hid (HB4.out.trans (below_own g5 HL.out HP4.out.lt))
  clear p5 g5
  go_wp2_with fail
  refine (H4.out _ _ HP5.out).mono ?_
  rintro e w6 ⟨rfl, nq, hq⟩
  have HP6 := Lib.hid (show Pt w6 g _ from by rw [hq]; exact HP5.out.drew nq)
  have HB6 := Lib.hid (show Below w.heap.size w w6 from by rw [hq]; exact HB5.out.trans ⟨rfl, rfl, rfl, Nat.le_refl _, fun _ _ => rfl⟩)
  clear hq
  go_wp2_with fail
  refine (H5.out _ _ HP6.out).mono ?_
  rintro e w7 ⟨rfl, p7, g7⟩
  have HP7 := Lib.hid p7
  have HB7 := Lib.hid (HB6.out.trans (below_own g7 HL.out HP6.out.lt))
  clear p7 g7
  go_wp2_with fail
  refine (H6.out _ _ HP7.out).mono ?_
  rintro e w8 ⟨rfl, p8, g8⟩
  have HP8 := Lib.hid p8
  have HB8 := Lib.hid (HB7.out.trans (below_own g8 HL.out HP7.out.lt))
  clear p8 g8
  go_wp2_with fail
  refine (H7.out _ _ HP8.out).mono ?_
  rintro e w9 ⟨rfl, p9, g9⟩
  have HP9 := Lib.hid p9
  have HB9 := Lib.hid (HB8.out.trans (below_own g9 HL.out HP8.out.lt))
  clear p9 g9
  go_wp2_with fail
  refine (H8.out _ _ HP9.out).mono ?_
  rintro e w10 ⟨rfl, nq2, hq⟩
  have HP10 := Lib.hid (show Pt w10 g _ from by rw [hq]; exact HP9.out.drew nq2)
  have HB10 := Lib.hid (show Below w.heap.size w w10 from by rw [hq]; exact HB9.out.trans ⟨rfl, rfl, rfl, Nat.le_refl _, fun _ _ => rfl⟩)
  clear hq
  go_wp2_with fail
  refine (H9.out _ _ HP10.out).mono ?_
  rintro e w11 ⟨rfl, hq⟩
  subst hq
  go_wp2_with fail
  refine (H10.out _ _ HP10.out).mono ?_
  rintro e w12 ⟨rfl, p12, g12⟩
  have HP12 := Lib.hid p12
  have HB12 := Lib.hid (HB10.out.trans (below_own g12 HL.out HP10.out.lt))
  clear p12 g12
  go_wp2_with fail
  refine (H11.out _ _ HP12.out).mono ?_
  rintro e w13 ⟨rfl, p13, g13⟩
  have HB13 := Lib.hid (HB12.out.trans (below_own g13 HL.out HP12.out.lt))
  clear p13 g13
  go_wp2
  go_ret
  exact ⟨rfl, HB13.out⟩
end Go.Proofs.Ytlnlhimnbiabcaa.Pur
