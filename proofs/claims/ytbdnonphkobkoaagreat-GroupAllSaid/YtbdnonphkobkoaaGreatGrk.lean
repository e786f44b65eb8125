/- Groups: numbers of rows, the greatest rows, what comes of a group: walks. -/
import Derived.Test.YtbdnonphkobkoaaGreatGre
import Derived.Test.YtbdnonphkobkoaaGreatGi
import Derived.Test.YtbdnonphkobkoaaGreatGri
import Derived.Test.YtbdnonphkobkoaaGreatGk
import Derived.Lib.SliceRun
namespace Go.Proofs.YtbdnonphkobkoaaGreat.Grp
open Go.RowKit Go.Lib Go.Sort Vec Fix

theorem sees_us {w : World} {b : Nat} : ∀ (xs : List Rw) (off : Nat), SeesG (ERow 0) 2 w b off xs → ∃ us : List (List Value), us.length = xs.length ∧ (∀ (j : Nat) (x : Rw), xs[j]? = some x → ∃ u, us[j]? = some u ∧ ERow 0 w u x) ∧ ∀ (j : Nat) (v : Value), us.flatten[j]? = some v → w.cell? ⟨b, off + j, none⟩ = some v
  | [], off, h => ⟨[], rfl, fun j x hx => by simp at hx, fun j v hv => by simp at hv⟩
  | x :: xs, off, h => by
    obtain ⟨u, hu, hc⟩ := h.at0 0 x rfl
    obtain ⟨us, h1, h2, h3⟩ := sees_us xs (off + 2) ⟨h.low, fun j y hy => by
      obtain ⟨u2, h4, h5⟩ := h.at0 (j + 1) y (by simpa using hy)
      refine ⟨u2, h4, fun i v hv => ?_⟩
      have := h5 i v hv
      rwa [show off + ((j + 1) * 2 + i) = off + 2 + (j * 2 + i) by omega] at this⟩
    have hl := (frow (B := 0)).wide _ _ _ hu
    refine ⟨u :: us, by simp [h1], fun j y hy => ?_, fun j v hv => ?_⟩
    · match j, hy with
      | 0, hy => simp at hy; subst hy; exact ⟨u, rfl, hu⟩
      | j + 1, hy => simpa using h2 j y (by simpa using hy)
    · rw [List.flatten_cons] at hv
      by_cases hj : j < 2
      · rw [List.getElem?_append_left (by omega)] at hv
        have := hc j v hv
        rwa [Nat.zero_mul, Nat.zero_add] at this
      · rw [List.getElem?_append_right (by omega), hl] at hv
        have := h3 (j - 2) v hv
        rwa [show off + 2 + (j - 2) = off + j by omega] at this

theorem box_below {w wr : World} (h : Below w.heap.size w wr) (o : Obj) : Below w.heap.size w (wr.alloc o) := h.alloc h.size o
theorem nums_at {xs : List Rw} {k : Nat} {x : Rw} {zs : List Int} (h : zs = nums (xs.take k)) (hx : xs[k]? = some x) : zs ++ [x.2] = nums (xs.take (k + 1)) := by
  rw [take_atG hx, h]; simp [nums]
theorem infoInt : (Tryz.prog.info? 3).map (fun i => (i.zero, i.size, i.bytes)) = some (some (.int .i64 0), 1, 8) := by kernel_rfl
theorem cell_int {n : Nat} (w : World) (v : Value) (t : TypeId) (hn : w.heap.size = n) : ∀ j u, [v][j]? = some u → (w.alloc (.cells #[v] t)).cell? ((⟨n, 0, none⟩ : Addr).add j) = some u := by
  subst hn; exact cells_k w [v] t
theorem own_nums {w : World} {B : Nat} {v : Value} {zs : List Int} (h : w.ownsRow B 3 1 v zs.length (zs.map (Value.int .i64))) : ∃ o c, v = .slice o zs.length c ∧ SeesI w o zs := by
  rcases h.2 with ⟨rfl, h0⟩ | ⟨g, cap, cur, rfl, hbg, hb, h1, h2, h3, h4⟩
  · exact ⟨none, 0, by rw [h0], .inl (List.eq_nil_of_length_eq_zero h0)⟩
  · refine ⟨some ⟨g, 0, none⟩, cap, rfl, .inr ⟨g, 0, rfl, heap_lt hb, fun j x hx => ?_⟩⟩
    have := h.cellAt j (by have := (List.getElem?_eq_some_iff.1 hx).1; omega)
    rw [Nat.zero_add, this, List.getElem?_map, hx]; rfl

set_option maxHeartbeats 4000000 in
set_option maxRecDepth 100000 in
theorem numbers_any (o : Option Addr) (n cap : Nat) (xs : List Rw) (w : World) (B : Nat) (hn : xs.length = n) (hm : n ≤ 1000000) (hS : RowsS w B o xs) :
    Calls Tryz.prog 137 #[.slice o n cap] w fun e w' => (∃ o2 c2, e = .returned (.slice o2 n c2) ∧ SeesI w' o2 (nums xs)) ∧ Below w.heap.size w w' := by
  obtain ⟨i0, hi, hz0, hz1, hz2⟩ := info_parts infoInt
  have HN := Lib.hid hn
  have HSO := Lib.hid hS
  clear hS hn
  go_enter Tryz.func137, Tryz.ntmps137
  go_wp2_with (at_make; go_must (refine wpList_make_own _ rfl _ _ 126 rfl w.heap.size 3 i0 (.int .i64 0) 1 Tryz.underlying126 hi hz0 hz1 _ _ _ n rfl rfl rfl (by rw [hz2]; omega) (by unfold maxLen; omega) (Nat.le_refl _) ?_); intro w1 hown1 hgrow1)
  have HB1 := Lib.hid (Below.grown (Below.refl _ _) hgrow1 (Nat.le_refl _) (fun j hj => by cases hj) : Below w.heap.size w w1)
  clear hgrow1
  go_loopw [3, 11] (fun v3 v11 wr => ∃ (k : Nat) (zs : List Int), v11 = .int .i64 k ∧ k ≤ n ∧ zs.length ≤ k ∧ Hid (zs = nums (xs.take k)) ∧ wr.ownsRow w.heap.size 3 1 v3 zs.length (zs.map (Value.int .i64)) ∧ Hid (Below w.heap.size w wr)) (fun _ v11 _ => n - (intOf v11).toNat)
  case atStart => exact ⟨0, [], rfl, Nat.zero_le _, Nat.zero_le _, rfl, hown1, HB1⟩
  case round =>
    obtain ⟨k, zs, rfl, hk, hyk, HY, hown, HB⟩ := hrel
    by_cases hkn : k < n
    · have j1 : (k : Int) < n := by omega
      obtain ⟨x, hx⟩ := get_ltG HN.out hkn
      obtain ⟨b, off, rfl, hS⟩ := (HSO.out.below frow HB.out).at hx
      obtain ⟨oL, cL, c0, c1, _, _⟩ := row_at hS hx
      obtain ⟨nL, hnL⟩ : ∃ nL, x.1.length = nL := ⟨_, rfl⟩
      rw [hnL] at c0
      have H2 := Lib.hid (nums_at HY.out hx)
      have HB1 := Lib.hid (box_below HB.out (Obj.cells #[Value.slice oL nL cL, Value.int .i64 x.2] 53))
      have hO2 := hown.alloc (Obj.cells #[Value.slice oL nL cL, Value.int .i64 x.2] 53)
      have hwz := HB.out.size
      have HZ := Lib.hid hwz
      clear hS hx hown hwz hnL
      go_wp2_with (at_builtin; go_must (refine wpList_append_own _ rfl _ _ 126 rfl w.heap.size 3 i0 (.int .i64 0) 1 8 Tryz.underlying126 hi hz0 hz1 hz2 rfl (by decide) _ _ _ rfl (hO2.alloc _) ⟨wr.heap.size + 1, 0, none⟩ 1 1 [.int .i64 x.2] rfl rfl (cell_int (wr.alloc (Obj.cells #[Value.slice oL nL cL, Value.int .i64 x.2] 53)) _ _ (by simp)) (by intro v hv; simp at hv; subst hv; rfl) (by unfold maxLen; omega) (by omega) (by have := HZ.out; simp; omega) ?_); intro v' w3 hown' hgrow3 hnil3)
      have hB3 : Below w.heap.size w w3 := Below.grown (HB1.out.alloc (by have := HB1.out.size; omega) _) hgrow3 (by have := HZ.out; simp; omega) (fun j hj => by have := (hO2.lt _ hj).1; omega)
      have hO3 : w3.ownsRow w.heap.size 3 1 v' (zs ++ [x.2]).length ((zs ++ [x.2]).map (Value.int .i64)) := by
        rw [List.length_append, List.map_append]; exact hown'
      have HB3 := Lib.hid hB3
      clear hown' hgrow3 hnil3 hO2 hB3
      go_roundw
      case rel => exact ⟨k + 1, zs ++ [x.2], by go_num, by omega, by simp; omega, H2, hO3, HB3⟩
      case measure => simp [intOf]; omega
    · have j1 : ¬ ((k : Int) < n) := by omega
      have H2 := Lib.hid (show zs = nums xs by rw [HY.out, List.take_of_length_le (by rw [HN.out]; omega)])
      obtain ⟨o2, c2, rfl, hs⟩ := own_nums hown
      have HR := Lib.hid (show SeesI wr o2 (nums xs) ∧ zs.length = n from ⟨by rw [← H2.out]; exact hs, by rw [H2.out]; simp [nums, HN.out]⟩)
      clear hown hs
      go_wp2
      go_ret
      exact ⟨⟨o2, ⟨c2, by first | rfl | (rw [HR.out.2]; rfl) | rw [HR.out.2]⟩, HR.out.1⟩, HB.out⟩

/-- The rows that stay: the first ones of the row of the call's own. -/
theorem sees_take {w : World} {o : Option Addr} {xs : List Rw} {B : Nat} (h : RowsS w B o xs) (k : Nat) : RowsS w B o (xs.take k) := by
  rcases h with rfl | ⟨b, off, e, h⟩
  · exact .inl (by simp)
  · exact .inr ⟨b, off, e, h.low, fun j x hx => h.at0 j x (by
      rw [List.getElem?_take] at hx
      split at hx
      · exact hx
      · cases hx)⟩

set_option maxHeartbeats 4000000 in
set_option maxRecDepth 100000 in
theorem cloneRows_any (b n cap : Nat) (xs : List Rw) (w : World) (hn : xs.length = n) (_h0 : xs ≠ []) (hm : n ≤ 100000) (hS : SeesG (ERow 0) 2 w b 0 xs) :
    Calls Tryz.prog 159 #[.slice (some ⟨b, 0, none⟩) n cap] w fun e w' => ∃ v us, e = .returned v ∧ OwnR w' w.heap.size v us xs ∧ Below w.heap.size w w' := by
  obtain ⟨i0, hi, hz0, hz1, hz2⟩ := info_parts infoRow
  obtain ⟨us, hu1, hu2, hu3⟩ := sees_us xs 0 hS
  have HU := Lib.hid (And.intro hu1 hu2)
  have hfl : us.flatten.length = n * 2 := by
    have : ∀ u ∈ us, u.length = 2 := fun u hu => by
      obtain ⟨j, hj⟩ := List.getElem?_of_mem hu
      obtain ⟨x, hx⟩ := get_ltG (xs := xs) rfl (show j < xs.length by rw [← hu1]; exact (List.getElem?_eq_some_iff.1 hj).1)
      obtain ⟨u2, h2, h3⟩ := hu2 j x hx
      rw [hj] at h2; cases h2
      exact (frow (B := 0)).wide _ _ _ h3
    rw [flat_lenG this, hu1, hn]
  have h1c : ∀ v ∈ us.flatten, v.oneCell' = true := fun v hv => by
    obtain ⟨u, hu, hv⟩ := List.mem_flatten.1 hv
    obtain ⟨j, hj⟩ := List.getElem?_of_mem hu
    obtain ⟨x, hx⟩ := get_ltG (xs := xs) rfl (show j < xs.length by rw [← hu1]; exact (List.getElem?_eq_some_iff.1 hj).1)
    obtain ⟨u2, h2, h3⟩ := hu2 j x hx
    rw [hj] at h2; cases h2
    exact (frow (B := 0)).cell _ _ _ h3 v hv
  have hN : xs.length = n := hn
  have HN := Lib.hid hN
  obtain ⟨W1, hW1⟩ : ∃ W1, w.alloc (Obj.cells #[] 53) = W1 := ⟨_, rfl⟩
  have HW1 := Lib.hid hW1
  have HB1 := Lib.hid (show Below w.heap.size w W1 from by rw [← hW1]; exact (Below.refl _ _).alloc (Nat.le_refl _) _)
  have hcells : ∀ j u, us.flatten[j]? = some u → W1.cell? ((⟨b, 0, none⟩ : Addr).add j) = some u := fun j u hu => by
    rw [Addr.add_lit]
    exact (HB1.out.cell (p := ⟨b, _, none⟩) hS.low).trans (hu3 j u hu)
  have hown : W1.ownsRow w.heap.size 53 2 (.slice (some ⟨w.heap.size, 0, none⟩) 0 0) 0 [] := by
    rw [← hW1]
    exact ⟨by simp, .inr ⟨w.heap.size, 0, #[], rfl, Nat.le_refl _, Array.getElem?_push_size, Nat.le_refl _, Nat.zero_le _, rfl, rfl⟩⟩
  have hw1s : w.heap.size ≤ W1.heap.size := HB1.out.size
  clear hu1 hu2 hu3 hS _h0 hn hN hW1
  have q := Lib.run_eql_slice_nil (P := Tryz.prog) w 22 53 (some ⟨b, 0, none⟩) n cap 0 0 Tryz.underlying22
  go_enter Tryz.func159, Tryz.ntmps159
  go_wp2_with (at_builtin; rw [HW1.out]; go_must (refine wpList_append_own _ rfl _ _ 22 rfl w.heap.size 53 i0 (.agg #[.slice none 0 0, .int .i64 0]) 2 32 Tryz.underlying22 hi hz0 hz1 hz2 rfl (by decide) (.slice (some ⟨w.heap.size, 0, none⟩) 0 0) 0 [] rfl hown ⟨b, 0, none⟩ n cap us.flatten rfl hfl hcells h1c (by unfold maxLen; omega) (by omega) hw1s ?_); intro vA wA hoA hgA hnA)
  have HR := Lib.hid (show OwnR wA w.heap.size vA us xs ∧ Below w.heap.size w wA from by
    refine ⟨⟨HU.out.1, by rw [HU.out.1, HN.out]; simpa using hoA, fun j x hx => ?_⟩, Below.grown HB1.out hgA hw1s (fun g hg => by cases hg; exact Nat.le_refl _)⟩
    obtain ⟨u, h2, h3⟩ := HU.out.2 j x hx
    exact ⟨u, h2, (frow (B := 0)).grown _ _ _ _ _ ((frow (B := 0)).below _ _ _ _ h3 HB1.out) (fun g hg => ⟨Nat.zero_le _, (own_row hown g hg).2⟩) hgA⟩)
  clear hoA hgA hnA hcells hown hfl h1c
  go_wp2
  go_ret
  exact ⟨_, us, rfl, HR.out.1, HR.out.2⟩
end Go.Proofs.YtbdnonphkobkoaaGreat.Grp
