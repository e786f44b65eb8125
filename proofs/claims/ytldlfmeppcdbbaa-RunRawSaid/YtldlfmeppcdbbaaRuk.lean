/- The first call of the statements on files. -/
import Derived.Test.YtldlfmeppcdbbaaRuj
namespace Go.Proofs.Ytldlfmeppcdbbaa.Run
open Go.RowKit Go.Lib Go.Proofs.Ytldlfmeppcdbbaa.Crc Go.Proofs.Ytldlfmeppcdbbaa.Row Go.Proofs.Ytldlfmeppcdbbaa.Vec

def x3 : List Rw := [([], 1), ([], 2), ([], 3)]
theorem x3_ok : ∀ x ∈ x3, okX x = true := by
  have h : x3.all okX = true := by kernel_rfl
  exact List.all_eq_true.1 h
theorem x3_len : (runF x3).length ≤ 60000 := by
  have := run_len x3 x3_ok
  have h3 : x3.length = 3 := rfl
  omega
theorem labS_nil (w : World) (B : Nat) : LabS w B none [] := ⟨.inl rfl, fun h => absurd rfl h⟩
theorem x3_rows (w : World) : RowsS (w.alloc (Obj.cells #[.slice none 0 0, .int .i64 1, .slice none 0 0, .int .i64 2, .slice none 0 0, .int .i64 3] 40)) 0 (some ⟨w.heap.size, 0, none⟩) x3 := by
  have h0 : (w.alloc (Obj.cells #[.slice none 0 0, .int .i64 1, .slice none 0 0, .int .i64 2, .slice none 0 0, .int .i64 3] 40)).heap[w.heap.size]? = some (Obj.cells #[.slice none 0 0, .int .i64 1, .slice none 0 0, .int .i64 2, .slice none 0 0, .int .i64 3] 40 (0, 0)) := Array.getElem?_push_size
  refine .inr ⟨_, 0, rfl, (Array.getElem?_eq_some_iff.1 h0).1, fun j x hx => ?_⟩
  match j, hx with
  | 0, hx =>
    cases hx
    refine ⟨_, ⟨none, 0, rfl, labS_nil _ _, Nat.zero_le _⟩, fun i v hi => ?_⟩
    match i, hi with
    | 0, hi => cases hi; unfold World.cell?; simp only [h0]; rfl
    | 1, hi => cases hi; unfold World.cell?; simp only [h0]; rfl
  | 1, hx =>
    cases hx
    refine ⟨_, ⟨none, 0, rfl, labS_nil _ _, Nat.zero_le _⟩, fun i v hi => ?_⟩
    match i, hi with
    | 0, hi => cases hi; unfold World.cell?; simp only [h0]; rfl
    | 1, hi => cases hi; unfold World.cell?; simp only [h0]; rfl
  | 2, hx =>
    cases hx
    refine ⟨_, ⟨none, 0, rfl, labS_nil _ _, Nat.zero_le _⟩, fun i v hi => ?_⟩
    match i, hi with
    | 0, hi => cases hi; unfold World.cell?; simp only [h0]; rfl
    | 1, hi => cases hi; unfold World.cell?; simp only [h0]; rfl
set_option maxHeartbeats 4000000 in
set_option maxRecDepth 100000 in
theorem alive_any (w : World) : Calls Try.prog 7 #[] w fun e w' => e = .returned (.bool true) ∧ Below w.heap.size w w' := by
  obtain ⟨s, hs⟩ : ∃ s : ByteArray, ⟨(runF x3).toArray⟩ = s := ⟨_, rfl⟩
  have hsd : s.data.toList = runF x3 := by rw [← hs, Crc.str_data]
  have hss : s.size ≤ 1000000 := by rw [Lib.size_eq, hsd]; have := x3_len; omega
  have HB0 := Lib.hid ((Below.refl w.heap.size w).alloc (Nat.le_refl _) (Obj.cells #[.slice none 0 0, .int .i64 1, .slice none 0 0, .int .i64 2, .slice none 0 0, .int .i64 3] 40))
  have HM := Lib.hid (show Calls Try.prog 12 #[.slice (some ⟨w.heap.size, 0, none⟩) 3 3] (w.alloc (Obj.cells #[.slice none 0 0, .int .i64 1, .slice none 0 0, .int .i64 2, .slice none 0 0, .int .i64 3] 40)) fun e w' => e = .returned (.tuple #[.string s, .int .i64 0]) ∧ Below (w.alloc (Obj.cells #[.slice none 0 0, .int .i64 1, .slice none 0 0, .int .i64 2, .slice none 0 0, .int .i64 3] 40)).heap.size (w.alloc (Obj.cells #[.slice none 0 0, .int .i64 1, .slice none 0 0, .int .i64 2, .slice none 0 0, .int .i64 3] 40)) w' from by
    have h := make_any (some ⟨w.heap.size, 0, none⟩) 3 3 x3 _ 0 rfl (by decide) (by decide) x3_ok (x3_rows w)
    unfold makeV at h
    rwa [if_pos x3_len, hs] at h)
  have HR := Lib.hid (fun (W : World) => (show Calls Try.prog 8 #[.string s] W fun e w' => (∃ g c, e = .returned (.tuple #[.slice (some ⟨g, 0, none⟩) 3 c, .int .i64 0]) ∧ w'.cell? ⟨g, 5, none⟩ = some (.int .i64 3) ∧ g < w'.heap.size) ∧ Below W.heap.size W w' from by
    refine (read_any s W hss).mono ?_
    rintro e w' ⟨h1, h2⟩
    rw [hsd, (read_iff _ x3).2 ⟨rfl, x3_ok, by decide, x3_len⟩] at h1
    obtain ⟨v, us, rfl, hO⟩ := h1
    obtain ⟨o, c, rfl, hS, _⟩ := hO.sees frow
    obtain ⟨b, off, rfl, hR⟩ := hS.at (j := 2) (x := ([], 3)) rfl
    obtain ⟨oL, cL, c0, c1, _, _⟩ := row_at hR (j := 2) (x := ([], 3)) rfl
    have hus : us.length = 3 := hO.len
    obtain ⟨g, cap, e2, _, hg, _⟩ := own_posG (by have := hO.own; rwa [hus] at this) (by decide : 1 ≤ 3)
    cases e2
    exact ⟨⟨_, _, rfl, c1, hg⟩, h2⟩))
  have HP := Lib.hid (fun (W : World) => (show Calls Try.prog 9 #[.string s, .int .i64 1, .int .i64 1] W fun e w' => (∃ g off c, e = .returned (.tuple #[.slice (some ⟨g, off, none⟩) 1 c, .int .i64 0]) ∧ w'.cell? ⟨g, off + 1, none⟩ = some (.int .i64 2) ∧ g < w'.heap.size) ∧ Below W.heap.size W w' from by
    refine (page_any s 1 1 W hss).mono ?_
    rintro e w' ⟨h1, h2⟩
    rw [hsd, page_all x3 x3_ok (by decide) 1 1 (by decide) (by decide) (by decide)] at h1
    obtain ⟨o, c, rfl, hS⟩ := h1
    obtain ⟨b, off, rfl, hR⟩ := hS.at (j := 0) (x := ([], 2)) rfl
    obtain ⟨oL, cL, c0, c1, _, _⟩ := row_at hR (j := 0) (x := ([], 2)) rfl
    exact ⟨⟨_, _, _, rfl, c1, hR.low⟩, h2⟩))
  have HC := Lib.hid (fun (W : World) => (show Calls Try.prog 17 #[.string s] W fun e w' => e = .returned (.tuple #[.int .i64 3, .int .i64 0]) ∧ Below W.heap.size W w' from by
    have h := count_any s W hss
    have hd := head_run x3 (catF ((blocks x3).map catR) ++ frameL fin) (by decide)
    rw [← run_parts] at hd
    rw [hsd, hd] at h
    exact h))
  clear hs hsd hss
  go_enter Try.func7, Try.ntmps7
  go_wp2_with fail
  refine HM.out.mono ?_
  rintro e w1 ⟨rfl, b1⟩
  have HB1 := Lib.hid (HB0.out.trans (b1.mono HB0.out.size))
  clear b1
  go_wp2_with fail
  refine (HR.out _).mono ?_
  rintro e w2 ⟨⟨g, c, rfl, c5, hg⟩, b2⟩
  have HB2 := Lib.hid (HB1.out.trans (b2.mono HB1.out.size))
  clear b2
  go_wp2_with fail
  refine (HP.out _).mono ?_
  rintro e w3 ⟨⟨g2, off, c2, rfl, d1, hg2⟩, b3⟩
  have HB3 := Lib.hid (HB2.out.trans (b3.mono HB2.out.size))
  have c5' := (b3.cell (p := ⟨g, 5, none⟩) hg).trans c5
  have hg3 := Nat.lt_of_lt_of_le hg b3.size
  clear b3 c5
  go_wp2_with fail
  refine (HC.out _).mono ?_
  rintro e w4 ⟨rfl, b4⟩
  have HB4 := Lib.hid (HB3.out.trans (b4.mono HB3.out.size))
  have c6 := (b4.cell (p := ⟨g, 5, none⟩) hg3).trans c5'
  have d2 := (b4.cell (p := ⟨g2, off + 1, none⟩) hg2).trans d1
  clear b4 c5' d1
  go_wp2
  go_ret
  exact ⟨rfl, HB4.out⟩
end Go.Proofs.Ytldlfmeppcdbbaa.Run
