/- The law on one point. -/
import Derived.Test.YthbameabfmoibaaVb
import Derived.Test.YthbameabfmoibaaVh
namespace Go.Proofs.Ythbameabfmoibaa.Win
open Go.RowKit Go.Lib

theorem sees_one {w : World} {b : Nat} {t : TypeId} (p : Pt) (h : w.heap[b]? = some (.cells #[.int .i64 p.1, .int .i64 p.2] t (0, 0))) : Pnt.SeesO w (some ⟨b, 0, none⟩) [p] := by
  refine .inr ⟨b, 0, rfl, (Array.getElem?_eq_some_iff.1 h).1, fun j u hu => ?_, fun j u hu => ?_⟩
  · match j, hu with
    | 0, hu => simp at hu; subst hu; simp [World.cell?, h]
    | j + 1, hu => simp at hu
  · match j, hu with
    | 0, hu => simp at hu; subst hu; simp [World.cell?, h]
    | j + 1, hu => simp at hu
/-- One point as the law lays it: its own box, and the list. -/
def oneW (w : World) (p : Pt) : World := (w.alloc (.cells #[.int .i64 p.1, .int .i64 p.2] 26)).alloc (.cells #[.int .i64 p.1, .int .i64 p.2] 26)
theorem oneW_below (w : World) (p : Pt) : Below w.heap.size w (oneW w p) := ((Below.refl _ _).alloc (Nat.le_refl _) _).alloc (by simp) _
theorem oneW_sees (w : World) (p : Pt) : Pnt.SeesO (oneW w p) (some ⟨w.heap.size + 1, 0, none⟩) [p] := by
  refine sees_one p (t := 26) ?_
  have := @Array.getElem?_push_size _ (w.alloc (.cells #[.int .i64 p.1, .int .i64 p.2] 26)).heap (Obj.cells #[.int .i64 p.1, .int .i64 p.2] 26 (0, 0))
  rw [World.size_alloc] at this
  exact this
theorem oneW_box (w : World) (p : Pt) : ∀ W, Below (oneW w p).heap.size (oneW w p) W → W.cell? ⟨w.heap.size, 1, none⟩ = some (.int .i64 p.2) := fun W h => by
  have hl : w.heap.size < (oneW w p).heap.size := by unfold oneW; simp; omega
  refine (h.cell (p := ⟨w.heap.size, 1, none⟩) hl).trans ?_
  unfold oneW; simp

set_option maxHeartbeats 2000000 in
set_option maxRecDepth 100000 in
theorem one_bad (p : Pt) (s : ByteArray) (w : World) (h : pointsB [p] = false) :
    Calls Try.prog 7 #[.agg #[.int .i64 p.1, .int .i64 p.2], .string s] w fun e w' => e = .returned (.bool true) ∧ Below w.heap.size w w' := by
  have HP := Lib.hid (show Calls Try.prog 9 #[.slice (some ⟨w.heap.size + 1, 0, none⟩) 1 1] (oneW w p) fun e w' => e = .returned (.bool false) ∧ Below (oneW w p).heap.size (oneW w p) w' from by
    have := rpoints_any (some ⟨w.heap.size + 1, 0, none⟩) 1 [p] (oneW w p) (by simp [maxLen]) (oneW_sees w p)
    rw [h] at this; exact this)
  have HAL := Lib.hid (fun W => alive_any W)
  have HB0 := Lib.hid (oneW_below w p)
  clear h
  go_enter Try.func7, Try.ntmps7
  go_wp2_with fail
  refine HP.out.mono ?_
  rintro e w1 ⟨rfl, b1⟩
  have HB1 := Lib.hid (HB0.out.trans (b1.mono HB0.out.size))
  clear b1
  go_wp2_with fail
  refine (HAL.out _).mono ?_
  rintro e w2 ⟨rfl, b2⟩
  have HB2 := Lib.hid (HB1.out.trans (b2.mono HB1.out.size))
  clear b2
  go_wp2
  go_ret
  exact ⟨rfl, HB2.out⟩

set_option maxHeartbeats 2000000 in
set_option maxRecDepth 100000 in
theorem one_none (p : Pt) (s : ByteArray) (w : World) (h : pointsB [p] = true) (hs : fnF s = 8) :
    Calls Try.prog 7 #[.agg #[.int .i64 p.1, .int .i64 p.2], .string s] w fun e w' => e = .returned (.bool true) ∧ Below w.heap.size w w' := by
  have HP := Lib.hid (show Calls Try.prog 9 #[.slice (some ⟨w.heap.size + 1, 0, none⟩) 1 1] (oneW w p) fun e w' => e = .returned (.bool true) ∧ Below (oneW w p).heap.size (oneW w p) w' from by
    have := rpoints_any (some ⟨w.heap.size + 1, 0, none⟩) 1 [p] (oneW w p) (by simp [maxLen]) (oneW_sees w p)
    rw [h] at this; exact this)
  have HF := Lib.hid (fun W => (fn_any s W).mono fun e w' q => (show e = .returned (.bool false) ∧ w' = W from by rw [hs] at q; exact q))
  have HAL := Lib.hid (fun W => alive_any W)
  have HB0 := Lib.hid (oneW_below w p)
  clear h hs
  go_enter Try.func7, Try.ntmps7
  go_wp2_with fail
  refine HP.out.mono ?_
  rintro e w1 ⟨rfl, b1⟩
  have HB1 := Lib.hid (HB0.out.trans (b1.mono HB0.out.size))
  clear b1
  go_wp2_with fail
  refine (HF.out _).mono ?_
  rintro e w2 ⟨rfl, rfl⟩
  go_wp2_with fail
  refine (HAL.out _).mono ?_
  rintro e w3 ⟨rfl, b3⟩
  have HB2 := Lib.hid (HB1.out.trans (b3.mono HB1.out.size))
  clear b3
  go_wp2
  go_ret
  exact ⟨rfl, HB2.out⟩

set_option maxHeartbeats 4000000 in
set_option maxRecDepth 100000 in
theorem one0 (p : Pt) (w : World) (h : pointsB [p] = true) :
    Calls Try.prog 7 #[.agg #[.int .i64 p.1, .int .i64 p.2], .string ⟨#[115, 117, 109, 95, 111, 118, 101, 114]⟩] w fun e w' => e = .returned (.bool true) ∧ Below w.heap.size w w' := by
  have HP := Lib.hid (show Calls Try.prog 9 #[.slice (some ⟨w.heap.size + 1, 0, none⟩) 1 1] (oneW w p) fun e w' => e = .returned (.bool true) ∧ Below (oneW w p).heap.size (oneW w p) w' from by
    have := rpoints_any (some ⟨w.heap.size + 1, 0, none⟩) 1 [p] (oneW w p) (by simp [maxLen]) (oneW_sees w p)
    rw [h] at this; exact this)
  have HF := Lib.hid (fun W => (fn_any (nmOf 0) W).mono fun e w' q => (show e = .returned (.bool true) ∧ w' = W from by rw [fn_nm 0 (by omega)] at q; exact q))
  have HD := Lib.hid (fun W (hb : Below (oneW w p).heap.size (oneW w p) W) => (show Calls Try.prog 11 #[.string ⟨#[115, 117, 109, 95, 111, 118, 101, 114]⟩, .slice (some ⟨w.heap.size + 1, 0, none⟩) 1 1] W fun e w' => e = .returned (.tuple #[.int .i64 (p.2), .bool true, .int .i64 0]) ∧ Below W.heap.size W w' from by
    have := wdo_form 0 (by omega) (some ⟨w.heap.size + 1, 0, none⟩) 1 [p] W rfl (by simp [maxLen]) ((oneW_sees w p).below hb)
    obtain ⟨h0, h1, h2, h3, h4, h5, h6, h7⟩ := over_one h
    rw [h0] at this; exact this))
  have HN := Lib.hid (fun W => (show Calls Try.prog 11 #[.string ⟨#[115, 117, 109, 95, 111, 118, 101, 114]⟩, .slice none 0 0] W fun e w' => e = .returned (.tuple #[.int .i64 0, .bool false, .int .i64 0]) ∧ Below W.heap.size W w' from by
    have := wdo_form 0 (by omega) none 0 [] W rfl (by simp [maxLen]) (.inl rfl)
    rw [over_none 0 (by omega)] at this; exact this))
  have HX := Lib.hid (oneW_box w p)
  have HAL := Lib.hid (fun W => alive_any W)
  have HB0 := Lib.hid (oneW_below w p)
  clear h
  go_enter Try.func7, Try.ntmps7
  go_wp2_with fail
  refine HP.out.mono ?_
  rintro e w1 ⟨rfl, b1⟩
  have HB1 := Lib.hid (HB0.out.trans (b1.mono HB0.out.size))
  have HC1 := Lib.hid b1
  clear b1
  go_wp2_with fail
  refine (HF.out _).mono ?_
  rintro e w2 ⟨rfl, rfl⟩
  go_wp2_with fail
  refine (HAL.out _).mono ?_
  rintro e w3 ⟨rfl, b3⟩
  have HB3 := Lib.hid (HB1.out.trans (b3.mono HB1.out.size))
  have HC3 := Lib.hid (HC1.out.trans (b3.mono HC1.out.size))
  clear b3
  go_wp2_with fail
  refine (HD.out _ HC3.out).mono ?_
  rintro e w5 ⟨rfl, b5⟩
  have HB5 := Lib.hid (HB3.out.trans (b5.mono HB3.out.size))
  have HC5 := Lib.hid (HC3.out.trans (b5.mono HC3.out.size))
  clear b5
  have c1 := HX.out _ HC5.out
  go_wp2_with fail
  refine (HN.out _).mono ?_
  rintro e w6 ⟨rfl, b6⟩
  have HB6 := Lib.hid (HB5.out.trans (b6.mono HB5.out.size))
  clear b6 c1
  go_wp2
  go_ret
  exact ⟨by simp, HB6.out⟩

set_option maxHeartbeats 4000000 in
set_option maxRecDepth 100000 in
theorem one1 (p : Pt) (w : World) (h : pointsB [p] = true) :
    Calls Try.prog 7 #[.agg #[.int .i64 p.1, .int .i64 p.2], .string ⟨#[109, 105, 110, 95, 111, 118, 101, 114]⟩] w fun e w' => e = .returned (.bool true) ∧ Below w.heap.size w w' := by
  have HP := Lib.hid (show Calls Try.prog 9 #[.slice (some ⟨w.heap.size + 1, 0, none⟩) 1 1] (oneW w p) fun e w' => e = .returned (.bool true) ∧ Below (oneW w p).heap.size (oneW w p) w' from by
    have := rpoints_any (some ⟨w.heap.size + 1, 0, none⟩) 1 [p] (oneW w p) (by simp [maxLen]) (oneW_sees w p)
    rw [h] at this; exact this)
  have HF := Lib.hid (fun W => (fn_any (nmOf 1) W).mono fun e w' q => (show e = .returned (.bool true) ∧ w' = W from by rw [fn_nm 1 (by omega)] at q; exact q))
  have HD := Lib.hid (fun W (hb : Below (oneW w p).heap.size (oneW w p) W) => (show Calls Try.prog 11 #[.string ⟨#[109, 105, 110, 95, 111, 118, 101, 114]⟩, .slice (some ⟨w.heap.size + 1, 0, none⟩) 1 1] W fun e w' => e = .returned (.tuple #[.int .i64 (p.2), .bool true, .int .i64 0]) ∧ Below W.heap.size W w' from by
    have := wdo_form 1 (by omega) (some ⟨w.heap.size + 1, 0, none⟩) 1 [p] W rfl (by simp [maxLen]) ((oneW_sees w p).below hb)
    obtain ⟨h0, h1, h2, h3, h4, h5, h6, h7⟩ := over_one h
    rw [h1] at this; exact this))
  have HN := Lib.hid (fun W => (show Calls Try.prog 11 #[.string ⟨#[109, 105, 110, 95, 111, 118, 101, 114]⟩, .slice none 0 0] W fun e w' => e = .returned (.tuple #[.int .i64 0, .bool false, .int .i64 0]) ∧ Below W.heap.size W w' from by
    have := wdo_form 1 (by omega) none 0 [] W rfl (by simp [maxLen]) (.inl rfl)
    rw [over_none 1 (by omega)] at this; exact this))
  have HX := Lib.hid (oneW_box w p)
  have HAL := Lib.hid (fun W => alive_any W)
  have HB0 := Lib.hid (oneW_below w p)
  clear h
  go_enter Try.func7, Try.ntmps7
  go_wp2_with fail
  refine HP.out.mono ?_
  rintro e w1 ⟨rfl, b1⟩
  have HB1 := Lib.hid (HB0.out.trans (b1.mono HB0.out.size))
  have HC1 := Lib.hid b1
  clear b1
  go_wp2_with fail
  refine (HF.out _).mono ?_
  rintro e w2 ⟨rfl, rfl⟩
  go_wp2_with fail
  refine (HAL.out _).mono ?_
  rintro e w3 ⟨rfl, b3⟩
  have HB3 := Lib.hid (HB1.out.trans (b3.mono HB1.out.size))
  have HC3 := Lib.hid (HC1.out.trans (b3.mono HC1.out.size))
  clear b3
  go_wp2_with fail
  refine (HD.out _ HC3.out).mono ?_
  rintro e w5 ⟨rfl, b5⟩
  have HB5 := Lib.hid (HB3.out.trans (b5.mono HB3.out.size))
  have HC5 := Lib.hid (HC3.out.trans (b5.mono HC3.out.size))
  clear b5
  have c1 := HX.out _ HC5.out
  go_wp2_with fail
  refine (HN.out _).mono ?_
  rintro e w6 ⟨rfl, b6⟩
  have HB6 := Lib.hid (HB5.out.trans (b6.mono HB5.out.size))
  clear b6 c1
  go_wp2
  go_ret
  exact ⟨by simp, HB6.out⟩

set_option maxHeartbeats 4000000 in
set_option maxRecDepth 100000 in
theorem one2 (p : Pt) (w : World) (h : pointsB [p] = true) :
    Calls Try.prog 7 #[.agg #[.int .i64 p.1, .int .i64 p.2], .string ⟨#[109, 97, 120, 95, 111, 118, 101, 114]⟩] w fun e w' => e = .returned (.bool true) ∧ Below w.heap.size w w' := by
  have HP := Lib.hid (show Calls Try.prog 9 #[.slice (some ⟨w.heap.size + 1, 0, none⟩) 1 1] (oneW w p) fun e w' => e = .returned (.bool true) ∧ Below (oneW w p).heap.size (oneW w p) w' from by
    have := rpoints_any (some ⟨w.heap.size + 1, 0, none⟩) 1 [p] (oneW w p) (by simp [maxLen]) (oneW_sees w p)
    rw [h] at this; exact this)
  have HF := Lib.hid (fun W => (fn_any (nmOf 2) W).mono fun e w' q => (show e = .returned (.bool true) ∧ w' = W from by rw [fn_nm 2 (by omega)] at q; exact q))
  have HD := Lib.hid (fun W (hb : Below (oneW w p).heap.size (oneW w p) W) => (show Calls Try.prog 11 #[.string ⟨#[109, 97, 120, 95, 111, 118, 101, 114]⟩, .slice (some ⟨w.heap.size + 1, 0, none⟩) 1 1] W fun e w' => e = .returned (.tuple #[.int .i64 (p.2), .bool true, .int .i64 0]) ∧ Below W.heap.size W w' from by
    have := wdo_form 2 (by omega) (some ⟨w.heap.size + 1, 0, none⟩) 1 [p] W rfl (by simp [maxLen]) ((oneW_sees w p).below hb)
    obtain ⟨h0, h1, h2, h3, h4, h5, h6, h7⟩ := over_one h
    rw [h2] at this; exact this))
  have HN := Lib.hid (fun W => (show Calls Try.prog 11 #[.string ⟨#[109, 97, 120, 95, 111, 118, 101, 114]⟩, .slice none 0 0] W fun e w' => e = .returned (.tuple #[.int .i64 0, .bool false, .int .i64 0]) ∧ Below W.heap.size W w' from by
    have := wdo_form 2 (by omega) none 0 [] W rfl (by simp [maxLen]) (.inl rfl)
    rw [over_none 2 (by omega)] at this; exact this))
  have HX := Lib.hid (oneW_box w p)
  have HAL := Lib.hid (fun W => alive_any W)
  have HB0 := Lib.hid (oneW_below w p)
  clear h
  go_enter Try.func7, Try.ntmps7
  go_wp2_with fail
  refine HP.out.mono ?_
  rintro e w1 ⟨rfl, b1⟩
  have HB1 := Lib.hid (HB0.out.trans (b1.mono HB0.out.size))
  have HC1 := Lib.hid b1
  clear b1
  go_wp2_with fail
  refine (HF.out _).mono ?_
  rintro e w2 ⟨rfl, rfl⟩
  go_wp2_with fail
  refine (HAL.out _).mono ?_
  rintro e w3 ⟨rfl, b3⟩
  have HB3 := Lib.hid (HB1.out.trans (b3.mono HB1.out.size))
  have HC3 := Lib.hid (HC1.out.trans (b3.mono HC1.out.size))
  clear b3
  go_wp2_with fail
  refine (HD.out _ HC3.out).mono ?_
  rintro e w5 ⟨rfl, b5⟩
  have HB5 := Lib.hid (HB3.out.trans (b5.mono HB3.out.size))
  have HC5 := Lib.hid (HC3.out.trans (b5.mono HC3.out.size))
  clear b5
  have c1 := HX.out _ HC5.out
  go_wp2_with fail
  refine (HN.out _).mono ?_
  rintro e w6 ⟨rfl, b6⟩
  have HB6 := Lib.hid (HB5.out.trans (b6.mono HB5.out.size))
  clear b6 c1
  go_wp2
  go_ret
  exact ⟨by simp, HB6.out⟩

set_option maxHeartbeats 4000000 in
set_option maxRecDepth 100000 in
theorem one3 (p : Pt) (w : World) (h : pointsB [p] = true) :
    Calls Try.prog 7 #[.agg #[.int .i64 p.1, .int .i64 p.2], .string ⟨#[99, 111, 117, 110, 116, 95, 111, 118, 101, 114]⟩] w fun e w' => e = .returned (.bool true) ∧ Below w.heap.size w w' := by
  have HP := Lib.hid (show Calls Try.prog 9 #[.slice (some ⟨w.heap.size + 1, 0, none⟩) 1 1] (oneW w p) fun e w' => e = .returned (.bool true) ∧ Below (oneW w p).heap.size (oneW w p) w' from by
    have := rpoints_any (some ⟨w.heap.size + 1, 0, none⟩) 1 [p] (oneW w p) (by simp [maxLen]) (oneW_sees w p)
    rw [h] at this; exact this)
  have HF := Lib.hid (fun W => (fn_any (nmOf 3) W).mono fun e w' q => (show e = .returned (.bool true) ∧ w' = W from by rw [fn_nm 3 (by omega)] at q; exact q))
  have HD := Lib.hid (fun W (hb : Below (oneW w p).heap.size (oneW w p) W) => (show Calls Try.prog 11 #[.string ⟨#[99, 111, 117, 110, 116, 95, 111, 118, 101, 114]⟩, .slice (some ⟨w.heap.size + 1, 0, none⟩) 1 1] W fun e w' => e = .returned (.tuple #[.int .i64 1, .bool true, .int .i64 0]) ∧ Below W.heap.size W w' from by
    have := wdo_form 3 (by omega) (some ⟨w.heap.size + 1, 0, none⟩) 1 [p] W rfl (by simp [maxLen]) ((oneW_sees w p).below hb)
    obtain ⟨h0, h1, h2, h3, h4, h5, h6, h7⟩ := over_one h
    rw [h3] at this; exact this))
  have HN := Lib.hid (fun W => (show Calls Try.prog 11 #[.string ⟨#[99, 111, 117, 110, 116, 95, 111, 118, 101, 114]⟩, .slice none 0 0] W fun e w' => e = .returned (.tuple #[.int .i64 0, .bool false, .int .i64 0]) ∧ Below W.heap.size W w' from by
    have := wdo_form 3 (by omega) none 0 [] W rfl (by simp [maxLen]) (.inl rfl)
    rw [over_none 3 (by omega)] at this; exact this))
  have HX := Lib.hid (oneW_box w p)
  have HAL := Lib.hid (fun W => alive_any W)
  have HB0 := Lib.hid (oneW_below w p)
  clear h
  go_enter Try.func7, Try.ntmps7
  go_wp2_with fail
  refine HP.out.mono ?_
  rintro e w1 ⟨rfl, b1⟩
  have HB1 := Lib.hid (HB0.out.trans (b1.mono HB0.out.size))
  have HC1 := Lib.hid b1
  clear b1
  go_wp2_with fail
  refine (HF.out _).mono ?_
  rintro e w2 ⟨rfl, rfl⟩
  go_wp2_with fail
  refine (HAL.out _).mono ?_
  rintro e w3 ⟨rfl, b3⟩
  have HB3 := Lib.hid (HB1.out.trans (b3.mono HB1.out.size))
  have HC3 := Lib.hid (HC1.out.trans (b3.mono HC1.out.size))
  clear b3
  go_wp2_with fail
  refine (HD.out _ HC3.out).mono ?_
  rintro e w5 ⟨rfl, b5⟩
  have HB5 := Lib.hid (HB3.out.trans (b5.mono HB3.out.size))
  have HC5 := Lib.hid (HC3.out.trans (b5.mono HC3.out.size))
  clear b5
  have c1 := HX.out _ HC5.out
  go_wp2_with fail
  refine (HN.out _).mono ?_
  rintro e w6 ⟨rfl, b6⟩
  have HB6 := Lib.hid (HB5.out.trans (b6.mono HB5.out.size))
  clear b6 c1
  go_wp2
  go_ret
  exact ⟨rfl, HB6.out⟩

set_option maxHeartbeats 4000000 in
set_option maxRecDepth 100000 in
theorem one4 (p : Pt) (w : World) (h : pointsB [p] = true) :
    Calls Try.prog 7 #[.agg #[.int .i64 p.1, .int .i64 p.2], .string ⟨#[97, 118, 103, 95, 111, 118, 101, 114]⟩] w fun e w' => e = .returned (.bool true) ∧ Below w.heap.size w w' := by
  have HP := Lib.hid (show Calls Try.prog 9 #[.slice (some ⟨w.heap.size + 1, 0, none⟩) 1 1] (oneW w p) fun e w' => e = .returned (.bool true) ∧ Below (oneW w p).heap.size (oneW w p) w' from by
    have := rpoints_any (some ⟨w.heap.size + 1, 0, none⟩) 1 [p] (oneW w p) (by simp [maxLen]) (oneW_sees w p)
    rw [h] at this; exact this)
  have HF := Lib.hid (fun W => (fn_any (nmOf 4) W).mono fun e w' q => (show e = .returned (.bool true) ∧ w' = W from by rw [fn_nm 4 (by omega)] at q; exact q))
  have HD := Lib.hid (fun W (hb : Below (oneW w p).heap.size (oneW w p) W) => (show Calls Try.prog 11 #[.string ⟨#[97, 118, 103, 95, 111, 118, 101, 114]⟩, .slice (some ⟨w.heap.size + 1, 0, none⟩) 1 1] W fun e w' => e = .returned (.tuple #[.int .i64 (p.2), .bool true, .int .i64 0]) ∧ Below W.heap.size W w' from by
    have := wdo_form 4 (by omega) (some ⟨w.heap.size + 1, 0, none⟩) 1 [p] W rfl (by simp [maxLen]) ((oneW_sees w p).below hb)
    obtain ⟨h0, h1, h2, h3, h4, h5, h6, h7⟩ := over_one h
    rw [h4] at this; exact this))
  have HN := Lib.hid (fun W => (show Calls Try.prog 11 #[.string ⟨#[97, 118, 103, 95, 111, 118, 101, 114]⟩, .slice none 0 0] W fun e w' => e = .returned (.tuple #[.int .i64 0, .bool false, .int .i64 0]) ∧ Below W.heap.size W w' from by
    have := wdo_form 4 (by omega) none 0 [] W rfl (by simp [maxLen]) (.inl rfl)
    rw [over_none 4 (by omega)] at this; exact this))
  have HX := Lib.hid (oneW_box w p)
  have HAL := Lib.hid (fun W => alive_any W)
  have HB0 := Lib.hid (oneW_below w p)
  clear h
  go_enter Try.func7, Try.ntmps7
  go_wp2_with fail
  refine HP.out.mono ?_
  rintro e w1 ⟨rfl, b1⟩
  have HB1 := Lib.hid (HB0.out.trans (b1.mono HB0.out.size))
  have HC1 := Lib.hid b1
  clear b1
  go_wp2_with fail
  refine (HF.out _).mono ?_
  rintro e w2 ⟨rfl, rfl⟩
  go_wp2_with fail
  refine (HAL.out _).mono ?_
  rintro e w3 ⟨rfl, b3⟩
  have HB3 := Lib.hid (HB1.out.trans (b3.mono HB1.out.size))
  have HC3 := Lib.hid (HC1.out.trans (b3.mono HC1.out.size))
  clear b3
  go_wp2_with fail
  refine (HD.out _ HC3.out).mono ?_
  rintro e w5 ⟨rfl, b5⟩
  have HB5 := Lib.hid (HB3.out.trans (b5.mono HB3.out.size))
  have HC5 := Lib.hid (HC3.out.trans (b5.mono HC3.out.size))
  clear b5
  have c1 := HX.out _ HC5.out
  go_wp2_with fail
  refine (HN.out _).mono ?_
  rintro e w6 ⟨rfl, b6⟩
  have HB6 := Lib.hid (HB5.out.trans (b6.mono HB5.out.size))
  clear b6 c1
  go_wp2
  go_ret
  exact ⟨by simp, HB6.out⟩

set_option maxHeartbeats 4000000 in
set_option maxRecDepth 100000 in
theorem one5 (p : Pt) (w : World) (h : pointsB [p] = true) :
    Calls Try.prog 7 #[.agg #[.int .i64 p.1, .int .i64 p.2], .string ⟨#[108, 97, 115, 116, 95, 111, 118, 101, 114]⟩] w fun e w' => e = .returned (.bool true) ∧ Below w.heap.size w w' := by
  have HP := Lib.hid (show Calls Try.prog 9 #[.slice (some ⟨w.heap.size + 1, 0, none⟩) 1 1] (oneW w p) fun e w' => e = .returned (.bool true) ∧ Below (oneW w p).heap.size (oneW w p) w' from by
    have := rpoints_any (some ⟨w.heap.size + 1, 0, none⟩) 1 [p] (oneW w p) (by simp [maxLen]) (oneW_sees w p)
    rw [h] at this; exact this)
  have HF := Lib.hid (fun W => (fn_any (nmOf 5) W).mono fun e w' q => (show e = .returned (.bool true) ∧ w' = W from by rw [fn_nm 5 (by omega)] at q; exact q))
  have HD := Lib.hid (fun W (hb : Below (oneW w p).heap.size (oneW w p) W) => (show Calls Try.prog 11 #[.string ⟨#[108, 97, 115, 116, 95, 111, 118, 101, 114]⟩, .slice (some ⟨w.heap.size + 1, 0, none⟩) 1 1] W fun e w' => e = .returned (.tuple #[.int .i64 (p.2), .bool true, .int .i64 0]) ∧ Below W.heap.size W w' from by
    have := wdo_form 5 (by omega) (some ⟨w.heap.size + 1, 0, none⟩) 1 [p] W rfl (by simp [maxLen]) ((oneW_sees w p).below hb)
    obtain ⟨h0, h1, h2, h3, h4, h5, h6, h7⟩ := over_one h
    rw [h5] at this; exact this))
  have HN := Lib.hid (fun W => (show Calls Try.prog 11 #[.string ⟨#[108, 97, 115, 116, 95, 111, 118, 101, 114]⟩, .slice none 0 0] W fun e w' => e = .returned (.tuple #[.int .i64 0, .bool false, .int .i64 0]) ∧ Below W.heap.size W w' from by
    have := wdo_form 5 (by omega) none 0 [] W rfl (by simp [maxLen]) (.inl rfl)
    rw [over_none 5 (by omega)] at this; exact this))
  have HX := Lib.hid (oneW_box w p)
  have HAL := Lib.hid (fun W => alive_any W)
  have HB0 := Lib.hid (oneW_below w p)
  clear h
  go_enter Try.func7, Try.ntmps7
  go_wp2_with fail
  refine HP.out.mono ?_
  rintro e w1 ⟨rfl, b1⟩
  have HB1 := Lib.hid (HB0.out.trans (b1.mono HB0.out.size))
  have HC1 := Lib.hid b1
  clear b1
  go_wp2_with fail
  refine (HF.out _).mono ?_
  rintro e w2 ⟨rfl, rfl⟩
  go_wp2_with fail
  refine (HAL.out _).mono ?_
  rintro e w3 ⟨rfl, b3⟩
  have HB3 := Lib.hid (HB1.out.trans (b3.mono HB1.out.size))
  have HC3 := Lib.hid (HC1.out.trans (b3.mono HC1.out.size))
  clear b3
  go_wp2_with fail
  refine (HD.out _ HC3.out).mono ?_
  rintro e w5 ⟨rfl, b5⟩
  have HB5 := Lib.hid (HB3.out.trans (b5.mono HB3.out.size))
  have HC5 := Lib.hid (HC3.out.trans (b5.mono HC3.out.size))
  clear b5
  have c1 := HX.out _ HC5.out
  go_wp2_with fail
  refine (HN.out _).mono ?_
  rintro e w6 ⟨rfl, b6⟩
  have HB6 := Lib.hid (HB5.out.trans (b6.mono HB5.out.size))
  clear b6 c1
  go_wp2
  go_ret
  exact ⟨by simp, HB6.out⟩

set_option maxHeartbeats 4000000 in
set_option maxRecDepth 100000 in
theorem one6 (p : Pt) (w : World) (h : pointsB [p] = true) :
    Calls Try.prog 7 #[.agg #[.int .i64 p.1, .int .i64 p.2], .string ⟨#[105, 110, 99, 114, 101, 97, 115, 101]⟩] w fun e w' => e = .returned (.bool true) ∧ Below w.heap.size w w' := by
  have HP := Lib.hid (show Calls Try.prog 9 #[.slice (some ⟨w.heap.size + 1, 0, none⟩) 1 1] (oneW w p) fun e w' => e = .returned (.bool true) ∧ Below (oneW w p).heap.size (oneW w p) w' from by
    have := rpoints_any (some ⟨w.heap.size + 1, 0, none⟩) 1 [p] (oneW w p) (by simp [maxLen]) (oneW_sees w p)
    rw [h] at this; exact this)
  have HF := Lib.hid (fun W => (fn_any (nmOf 6) W).mono fun e w' q => (show e = .returned (.bool true) ∧ w' = W from by rw [fn_nm 6 (by omega)] at q; exact q))
  have HD := Lib.hid (fun W (hb : Below (oneW w p).heap.size (oneW w p) W) => (show Calls Try.prog 11 #[.string ⟨#[105, 110, 99, 114, 101, 97, 115, 101]⟩, .slice (some ⟨w.heap.size + 1, 0, none⟩) 1 1] W fun e w' => e = .returned (.tuple #[.int .i64 0, .bool false, .int .i64 0]) ∧ Below W.heap.size W w' from by
    have := wdo_form 6 (by omega) (some ⟨w.heap.size + 1, 0, none⟩) 1 [p] W rfl (by simp [maxLen]) ((oneW_sees w p).below hb)
    obtain ⟨h0, h1, h2, h3, h4, h5, h6, h7⟩ := over_one h
    rw [h6] at this; exact this))
  have HN := Lib.hid (fun W => (show Calls Try.prog 11 #[.string ⟨#[105, 110, 99, 114, 101, 97, 115, 101]⟩, .slice none 0 0] W fun e w' => e = .returned (.tuple #[.int .i64 0, .bool false, .int .i64 0]) ∧ Below W.heap.size W w' from by
    have := wdo_form 6 (by omega) none 0 [] W rfl (by simp [maxLen]) (.inl rfl)
    rw [over_none 6 (by omega)] at this; exact this))
  have HX := Lib.hid (oneW_box w p)
  have HAL := Lib.hid (fun W => alive_any W)
  have HB0 := Lib.hid (oneW_below w p)
  clear h
  go_enter Try.func7, Try.ntmps7
  go_wp2_with fail
  refine HP.out.mono ?_
  rintro e w1 ⟨rfl, b1⟩
  have HB1 := Lib.hid (HB0.out.trans (b1.mono HB0.out.size))
  have HC1 := Lib.hid b1
  clear b1
  go_wp2_with fail
  refine (HF.out _).mono ?_
  rintro e w2 ⟨rfl, rfl⟩
  go_wp2_with fail
  refine (HAL.out _).mono ?_
  rintro e w3 ⟨rfl, b3⟩
  have HB3 := Lib.hid (HB1.out.trans (b3.mono HB1.out.size))
  have HC3 := Lib.hid (HC1.out.trans (b3.mono HC1.out.size))
  clear b3
  go_wp2_with fail
  refine (HD.out _ HC3.out).mono ?_
  rintro e w5 ⟨rfl, b5⟩
  have HB5 := Lib.hid (HB3.out.trans (b5.mono HB3.out.size))
  have HC5 := Lib.hid (HC3.out.trans (b5.mono HC3.out.size))
  clear b5
  go_wp2
  go_ret
  exact ⟨rfl, HB5.out⟩

set_option maxHeartbeats 4000000 in
set_option maxRecDepth 100000 in
theorem one7 (p : Pt) (w : World) (h : pointsB [p] = true) :
    Calls Try.prog 7 #[.agg #[.int .i64 p.1, .int .i64 p.2], .string ⟨#[114, 97, 116, 101]⟩] w fun e w' => e = .returned (.bool true) ∧ Below w.heap.size w w' := by
  have HP := Lib.hid (show Calls Try.prog 9 #[.slice (some ⟨w.heap.size + 1, 0, none⟩) 1 1] (oneW w p) fun e w' => e = .returned (.bool true) ∧ Below (oneW w p).heap.size (oneW w p) w' from by
    have := rpoints_any (some ⟨w.heap.size + 1, 0, none⟩) 1 [p] (oneW w p) (by simp [maxLen]) (oneW_sees w p)
    rw [h] at this; exact this)
  have HF := Lib.hid (fun W => (fn_any (nmOf 7) W).mono fun e w' q => (show e = .returned (.bool true) ∧ w' = W from by rw [fn_nm 7 (by omega)] at q; exact q))
  have HD := Lib.hid (fun W (hb : Below (oneW w p).heap.size (oneW w p) W) => (show Calls Try.prog 11 #[.string ⟨#[114, 97, 116, 101]⟩, .slice (some ⟨w.heap.size + 1, 0, none⟩) 1 1] W fun e w' => e = .returned (.tuple #[.int .i64 0, .bool false, .int .i64 0]) ∧ Below W.heap.size W w' from by
    have := wdo_form 7 (by omega) (some ⟨w.heap.size + 1, 0, none⟩) 1 [p] W rfl (by simp [maxLen]) ((oneW_sees w p).below hb)
    obtain ⟨h0, h1, h2, h3, h4, h5, h6, h7⟩ := over_one h
    rw [h7] at this; exact this))
  have HN := Lib.hid (fun W => (show Calls Try.prog 11 #[.string ⟨#[114, 97, 116, 101]⟩, .slice none 0 0] W fun e w' => e = .returned (.tuple #[.int .i64 0, .bool false, .int .i64 0]) ∧ Below W.heap.size W w' from by
    have := wdo_form 7 (by omega) none 0 [] W rfl (by simp [maxLen]) (.inl rfl)
    rw [over_none 7 (by omega)] at this; exact this))
  have HX := Lib.hid (oneW_box w p)
  have HAL := Lib.hid (fun W => alive_any W)
  have HB0 := Lib.hid (oneW_below w p)
  clear h
  go_enter Try.func7, Try.ntmps7
  go_wp2_with fail
  refine HP.out.mono ?_
  rintro e w1 ⟨rfl, b1⟩
  have HB1 := Lib.hid (HB0.out.trans (b1.mono HB0.out.size))
  have HC1 := Lib.hid b1
  clear b1
  go_wp2_with fail
  refine (HF.out _).mono ?_
  rintro e w2 ⟨rfl, rfl⟩
  go_wp2_with fail
  refine (HAL.out _).mono ?_
  rintro e w3 ⟨rfl, b3⟩
  have HB3 := Lib.hid (HB1.out.trans (b3.mono HB1.out.size))
  have HC3 := Lib.hid (HC1.out.trans (b3.mono HC1.out.size))
  clear b3
  go_wp2_with fail
  refine (HD.out _ HC3.out).mono ?_
  rintro e w5 ⟨rfl, b5⟩
  have HB5 := Lib.hid (HB3.out.trans (b5.mono HB3.out.size))
  have HC5 := Lib.hid (HC3.out.trans (b5.mono HC3.out.size))
  clear b5
  go_wp2
  go_ret
  exact ⟨rfl, HB5.out⟩

theorem wone_any (p : Pt) (s : ByteArray) (w : World) :
    Calls Try.prog 7 #[.agg #[.int .i64 p.1, .int .i64 p.2], .string s] w fun e w' => e = .returned (.bool true) ∧ Below w.heap.size w w' := by
  cases h : pointsB [p] with
  | false => exact one_bad p s w h
  | true =>
    rcases fn_cases s with ⟨k, hk, rfl⟩ | ⟨e, _⟩
    · exact eight_cases (p := fun k => Calls Try.prog 7 #[.agg #[.int .i64 p.1, .int .i64 p.2], .string (nmOf k)] w fun e w' => e = .returned (.bool true) ∧ Below w.heap.size w w') (one0 p w h) (one1 p w h) (one2 p w h) (one3 p w h) (one4 p w h) (one5 p w h) (one6 p w h) (one7 p w h) k hk
    · exact one_none p s w h e
end Go.Proofs.Ythbameabfmoibaa.Win
