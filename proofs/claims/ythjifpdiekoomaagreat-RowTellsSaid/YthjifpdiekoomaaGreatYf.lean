/- A walk: the first call of the statements on rows as bytes. -/
import Derived.Test.YthjifpdiekoomaaGreatYe
namespace Go.Proofs.YthjifpdiekoomaaGreat.Row
open Go.RowKit Go.Lib

abbrev lx : List Lab := [(⟨#[97]⟩, ⟨#[120]⟩)]
theorem lx_ok : okR lx 5 = true := by kernel_rfl
theorem lx_put : putS lx 5 = ⟨(putR lx 5).toArray⟩ := by unfold putS; rw [lx_ok]; rfl
theorem lx_err : putE lx 5 = 0 := by unfold putE; rw [lx_ok]; rfl
theorem lx_size : (putS lx 5).size = 11 := by rw [lx_put, str_size]; kernel_rfl
theorem lx_cost : ((16 + costL lx : Nat) : Int) = 26 := rfl
theorem lx_small : ∀ x ∈ lx, x.1.size ≤ 1000 ∧ x.2.size ≤ 1000 := fun x hx => by
  simp only [List.mem_singleton] at hx
  subst hx
  exact ⟨show 1 ≤ 1000 by omega, show 1 ≤ 1000 by omega⟩
theorem okR_right {xs : List Lab} {v : Int} (h : okR xs v = true) : rightB xs = true ∧ Fix.rgtB v = true := by
  unfold okR at h; rwa [Bool.and_eq_true] at h
theorem app_data (a b : ByteArray) : (a ++ b).data.toList = a.data.toList ++ b.data.toList := by simp
theorem get_putS (xs : List Lab) (v : Int) (b : ByteArray) (h : okR xs v = true) : getR (putS xs v ++ b).data.toList = some (xs, v, b.data.toList) := by
  obtain ⟨h1, h2⟩ := okR_right h
  rw [app_data, putS, if_pos h, str_data]
  exact get_put xs v _ (right_small h1) h1 h2
theorem got_put {B : Nat} {xs : List Lab} {v : Int} {b : ByteArray} {e : Ending} {w' : World} (h : okR xs v = true) (hg : GotR B (putS xs v ++ b).data.toList e w') : ∃ o c, e = .returned (.tuple #[.agg #[.slice o xs.length c, .int .i64 v], .string b, .int .i64 0]) ∧ w'.ownsRow B 58 2 (.slice o xs.length c) xs.length (flatL xs) := by
  unfold GotR at hg
  rw [get_putS xs v b h] at hg
  obtain ⟨o, c, h3, h4⟩ := hg
  rw [str_of] at h3
  exact ⟨o, c, h3, h4⟩
theorem putS_size (xs : List Lab) (v : Int) : (putS xs v).size ≤ 4103 := by
  unfold putS
  split
  · next h => rw [str_size]; exact putR_len (okR_right h).1
  · exact Nat.zero_le _
abbrev aL (w : World) : World := (w.alloc (.cells #[.string ⟨#[97]⟩, .string ⟨#[120]⟩] 58)).alloc (.cells #[.slice (some ⟨w.heap.size, 0, none⟩) 1 1, .int .i64 5] 24)
theorem aL_below (w : World) : Below w.heap.size w (aL w) := ((Below.refl _ _).alloc (Nat.le_refl _) _).alloc (by simp) _
theorem aL_lab (w : World) : (aL w).heap[w.heap.size]? = some (.cells #[.string ⟨#[97]⟩, .string ⟨#[120]⟩] 58 (0, 0)) := by
  rw [Below.heap_alloc _ _ _ (by simp)]; exact Array.getElem?_push_size
theorem aL_row (w : World) : (aL w).heap[w.heap.size + 1]? = some (.cells #[.slice (some ⟨w.heap.size, 0, none⟩) 1 1, .int .i64 5] 24 (0, 0)) := by
  have e : w.heap.size + 1 = (w.alloc (.cells #[.string ⟨#[97]⟩, .string ⟨#[120]⟩] 58)).heap.size := by simp
  rw [e]; exact Array.getElem?_push_size
theorem aL_size (w : World) : (aL w).heap.size = w.heap.size + 2 := by simp
theorem aL_sees (w : World) : SeesO (aL w) (some ⟨w.heap.size, 0, none⟩) lx := by
  have h1 := aL_lab w
  refine .inr ⟨w.heap.size, 0, rfl, (Array.getElem?_eq_some_iff.1 h1).1, fun j y hy => ?_, fun j y hy => ?_⟩
  · have hj : j = 0 := by have := (List.getElem?_eq_some_iff.1 hy).1; simpa using this
    subst hj
    simp at hy; subst hy
    simp [World.cell?, h1]
  · have hj : j = 0 := by have := (List.getElem?_eq_some_iff.1 hy).1; simpa using this
    subst hj
    simp at hy; subst hy
    simp [World.cell?, h1]

set_option maxHeartbeats 1000000 in
set_option maxRecDepth 100000 in
theorem alive_any (w : World) : Calls Tryz.prog 6 #[] w fun e w' => e = .returned (.bool true) ∧ Below w.heap.size w w' := by
  obtain ⟨s, hs⟩ : ∃ s, putS lx 5 = s := ⟨_, rfl⟩
  have hsz : s.size = 11 := by rw [← hs]; exact lx_size
  have HP := Lib.hid (show Calls Tryz.prog 8 #[.agg #[.slice (some ⟨w.heap.size, 0, none⟩) 1 1, .int .i64 5]] (aL w) fun e w' => e = .returned (.tuple #[.string s, .int .i64 0]) ∧ Below (aL w).heap.size (aL w) w' from by
    have := rput_any (some ⟨w.heap.size, 0, none⟩) 1 1 lx 5 (aL w) rfl (by decide) (aL_sees w)
    rwa [lx_err, hs] at this)
  have hs1 : (s ++ ⟨#[33]⟩ : ByteArray).size ≤ 1000000 := by rw [ByteArray.size_append, hsz, show (⟨#[33]⟩ : ByteArray).size = 1 from rfl]; omega
  have HG := Lib.hid (fun (W : World) => (show Calls Tryz.prog 14 #[.string (s ++ ⟨#[33]⟩)] W fun e w' => (∃ o c, e = .returned (.tuple #[.agg #[.slice o 1 c, .int .i64 5], .string ⟨#[33]⟩, .int .i64 0])) ∧ Below W.heap.size W w' from by
    have h0 := get_any (s ++ ⟨#[33]⟩) W hs1
    refine h0.mono ?_
    rintro e w' ⟨h1, h2⟩
    rw [← hs] at h1
    obtain ⟨o, c, h3, _⟩ := got_put lx_ok h1
    exact ⟨⟨o, c, h3⟩, h2⟩))
  have HC := Lib.hid (fun (W : World) (hb : Below (aL w).heap.size (aL w) W) => (show Calls Tryz.prog 11 #[.agg #[.slice (some ⟨w.heap.size, 0, none⟩) 1 1, .int .i64 5]] W fun e w' => e = .returned (.int .i64 26) ∧ Below W.heap.size W w' from by
    have h0 := cost_any (some ⟨w.heap.size, 0, none⟩) 1 1 lx 5 W rfl (by omega) lx_small ((aL_sees w).below hb)
    rwa [lx_cost] at h0))
  have HA := Lib.hid (aL_below w)
  have HZ := aL_size w
  have HL := Lib.hid (aL_row w)
  clear hs
  go_enter Tryz.func6, Tryz.ntmps6
  go_wp2_with fail
  refine HP.out.mono ?_
  rintro e w1 ⟨rfl, b1⟩
  have HB1 := Lib.hid b1
  clear b1
  go_wp2_with fail
  refine (HG.out _).mono ?_
  rintro e w2 ⟨⟨o, c, rfl⟩, b2⟩
  have HB2 := Lib.hid (HB1.out.trans (b2.mono HB1.out.size))
  have hz2 := HB2.out.size
  have hA := HB2.out.alloc (by omega) (Obj.cells #[Value.slice o 1 c, Value.int .i64 5] 24)
  obtain ⟨c0, c1⟩ := box_two ((hA.block (w.heap.size + 1) (by omega)).trans HL.out)
  have HA2 := Lib.hid hA
  clear b2 hA
  go_wp2_with fail
  refine (HC.out _ HA2.out).mono ?_
  rintro e w3 ⟨rfl, b3⟩
  have HB3 := Lib.hid (HA.out.trans ((HA2.out.trans (b3.mono HA2.out.size)).mono HA.out.size))
  clear b3
  go_wp2
  go_ret
  exact ⟨rfl, HB3.out⟩
end Go.Proofs.YthjifpdiekoomaaGreat.Row
