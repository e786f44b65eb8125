/- Walks: the least and the greatest of numbers; the numbers of points; functions of numbers. -/
import Derived.Test.YthbameabfmoibaaGreatVd
import Derived.Test.YthbameabfmoibaaGreatFf
namespace Go.Proofs.YthbameabfmoibaaGreat.Win
open Go.RowKit Go.Lib

theorem minL_snoc {l : List Int} (x : Int) (h : l ≠ []) : minL (l ++ [x]) = min (minL l) x := by
  cases l with
  | nil => exact absurd rfl h
  | cons y ys => simp [minL, List.foldl_append]
theorem maxL_snoc {l : List Int} (x : Int) (h : l ≠ []) : maxL (l ++ [x]) = max (maxL l) x := by
  cases l with
  | nil => exact absurd rfl h
  | cons y ys => simp [maxL, List.foldl_append]
theorem take_ne {zs : List Int} {k : Nat} {x : Int} (h : zs[k]? = some x) (hk : 0 < k) : zs.take k ≠ [] := by
  intro e
  rcases List.take_eq_nil_iff.1 e with e | e
  · omega
  · rw [e] at h; simp at h
theorem minL_step {zs : List Int} {k : Nat} {x : Int} (h : zs[k]? = some x) (hk : 0 < k) : minL (zs.take (k + 1)) = min (minL (zs.take k)) x := by
  rw [take_at h]; exact minL_snoc x (take_ne h hk)
theorem maxL_step {zs : List Int} {k : Nat} {x : Int} (h : zs[k]? = some x) (hk : 0 < k) : maxL (zs.take (k + 1)) = max (maxL (zs.take k)) x := by
  rw [take_at h]; exact maxL_snoc x (take_ne h hk)
theorem minL_one {zs : List Int} {x : Int} (h : zs[0]? = some x) : minL (zs.take 1) = x := by
  cases zs with
  | nil => simp at h
  | cons y ys => simp at h; subst h; rfl
theorem maxL_one {zs : List Int} {x : Int} (h : zs[0]? = some x) : maxL (zs.take 1) = x := by
  cases zs with
  | nil => simp at h
  | cons y ys => simp at h; subst h; rfl

set_option maxHeartbeats 1000000 in
set_option maxRecDepth 100000 in
theorem min_any (o : Option Addr) (cap : Nat) (zs : List Int) (w : World) (hm : zs.length ≤ maxLen) (h0 : zs ≠ []) (hS : SeesI w o zs) :
    Calls Tryz.prog 98 #[.slice o zs.length cap] w fun e w' => e = .returned (.int .i64 (minL zs)) ∧ w' = w := by
  obtain ⟨n, hn⟩ : ∃ n, zs.length = n := ⟨_, rfl⟩
  have HN := Lib.hid hn
  unfold maxLen at hm
  have hn0 : 0 < n := by rw [← hn]; exact List.length_pos_iff.2 h0
  rw [hn] at hm ⊢
  have i1 : ¬ ((n : Int) < 1) := by omega
  have HS := Lib.hid hS
  obtain ⟨x0, hx0⟩ := get_lt hn hn0
  obtain ⟨b, off, rfl, c0⟩ := hS.at hx0
  rw [Nat.add_zero] at c0
  have H0 := Lib.hid (minL_one hx0)
  clear hS hn h0 hx0
  go_enter Tryz.func98, Tryz.ntmps98
  go_wp2
  go_loop [3, 4] (fun v3 v4 => ∃ k : Nat, v4 = .int .i64 k ∧ 0 < k ∧ k ≤ n ∧ v3 = .int .i64 (minL (zs.take k))) (fun _ v4 => n - (intOf v4).toNat)
  case atStart => exact ⟨1, rfl, Nat.one_pos, hn0, by rw [H0.out]⟩
  case round =>
    obtain ⟨k, rfl, hk0, hk, rfl⟩ := hrel
    by_cases hkn : k < n
    · have j1 : (k : Int) < n := by omega
      obtain ⟨x, hx⟩ := get_lt HN.out hkn
      obtain ⟨b', off', e, hc⟩ := HS.out.at hx
      cases e
      have HX := Lib.hid (minL_step hx hk0)
      clear hx
      go_wp2
      go_round
      case rel => exact ⟨k + 1, by go_num, by omega, by omega, by rw [HX.out]; congr 1; split <;> omega⟩
      case measure => simp [intOf]; omega
    · obtain rfl : k = n := by omega
      have H2 := Lib.hid (show minL (zs.take k) = minL zs by rw [List.take_of_length_le (by rw [HN.out]; exact Nat.le_refl _)])
      go_wp2
      go_ret
      exact ⟨ret_int H2.out, rfl⟩

set_option maxHeartbeats 1000000 in
set_option maxRecDepth 100000 in
theorem max_any (o : Option Addr) (cap : Nat) (zs : List Int) (w : World) (hm : zs.length ≤ maxLen) (h0 : zs ≠ []) (hS : SeesI w o zs) :
    Calls Tryz.prog 99 #[.slice o zs.length cap] w fun e w' => e = .returned (.int .i64 (maxL zs)) ∧ w' = w := by
  obtain ⟨n, hn⟩ : ∃ n, zs.length = n := ⟨_, rfl⟩
  have HN := Lib.hid hn
  unfold maxLen at hm
  have hn0 : 0 < n := by rw [← hn]; exact List.length_pos_iff.2 h0
  rw [hn] at hm ⊢
  have i1 : ¬ ((n : Int) < 1) := by omega
  have HS := Lib.hid hS
  obtain ⟨x0, hx0⟩ := get_lt hn hn0
  obtain ⟨b, off, rfl, c0⟩ := hS.at hx0
  rw [Nat.add_zero] at c0
  have H0 := Lib.hid (maxL_one hx0)
  clear hS hn h0 hx0
  go_enter Tryz.func99, Tryz.ntmps99
  go_wp2
  go_loop [3, 4] (fun v3 v4 => ∃ k : Nat, v4 = .int .i64 k ∧ 0 < k ∧ k ≤ n ∧ v3 = .int .i64 (maxL (zs.take k))) (fun _ v4 => n - (intOf v4).toNat)
  case atStart => exact ⟨1, rfl, Nat.one_pos, hn0, by rw [H0.out]⟩
  case round =>
    obtain ⟨k, rfl, hk0, hk, rfl⟩ := hrel
    by_cases hkn : k < n
    · have j1 : (k : Int) < n := by omega
      obtain ⟨x, hx⟩ := get_lt HN.out hkn
      obtain ⟨b', off', e, hc⟩ := HS.out.at hx
      cases e
      have HX := Lib.hid (maxL_step hx hk0)
      clear hx
      go_wp2
      go_round
      case rel => exact ⟨k + 1, by go_num, by omega, by omega, by rw [HX.out]; congr 1; split <;> omega⟩
      case measure => simp [intOf]; omega
    · obtain rfl : k = n := by omega
      have H2 := Lib.hid (show maxL (zs.take k) = maxL zs by rw [List.take_of_length_le (by rw [HN.out]; exact Nat.le_refl _)])
      go_wp2
      go_ret
      exact ⟨ret_int H2.out, rfl⟩

theorem infoI : (Tryz.prog.info? 3).map (fun i => (i.zero, i.size, i.bytes)) = some (some (.int .i64 0), 1, 8) := by kernel_rfl
theorem cell_one {n : Nat} (w : World) (v : Value) (t : TypeId) (hn : w.heap.size = n) : ∀ j u, [v][j]? = some u → (w.alloc (.cells #[v] t)).cell? ((⟨n, 0, none⟩ : Addr).add j) = some u := by
  subst hn
  intro j u hj
  match j, hj with
  | 0, hj => simp at hj; subst hj; simp [Addr.add]
  | j + 1, hj => simp at hj
theorem one_i (x : Int) : ∀ v ∈ [Value.int .i64 x], v.oneCell' = true := by
  intro v hv; simp at hv; subst hv; rfl
/-- A slice of the call's own reads as its numbers. -/
theorem own_ints {w : World} {B : Nat} {v : Value} {zs : List Int} (h : w.ownsRow B 3 1 v zs.length (zs.map (Value.int .i64))) : ∃ o c, v = .slice o zs.length c ∧ SeesI w o zs ∧ zs.length ≤ maxLen := by
  rcases h.2 with ⟨rfl, h0⟩ | ⟨g, cap, cur, rfl, hg, hh, hn, hcap, hsz, htake⟩
  · have h0' : zs = [] := List.eq_nil_of_length_eq_zero h0
    subst h0'
    exact ⟨none, 0, rfl, .inl rfl, Nat.zero_le _⟩
  · refine ⟨_, cap, rfl, .inr ⟨g, 0, rfl, (Array.getElem?_eq_some_iff.1 hh).1, fun j x hx => ?_⟩, Nat.le_trans hn hcap⟩
    have hj := (List.getElem?_eq_some_iff.1 hx).1
    have := h.cells (g := g) rfl j (.int .i64 x) (by rw [List.getElem?_map, hx]; rfl)
    rw [← this]; congr 1; simp [Addr.add]

theorem nums_take {xs : List Pt} {k : Nat} {x : Pt} {zs : List Int} (h : zs = numsF (xs.take k)) (hx : xs[k]? = some x) : zs ++ [x.2] = numsF (xs.take (k + 1)) := by
  rw [List.take_add_one, hx, h]; simp [numsF]

set_option maxHeartbeats 2000000 in
set_option maxRecDepth 100000 in
theorem numbers_any (o : Option Addr) (cap : Nat) (xs : List Pt) (w : World) (hm : xs.length ≤ 1000000) (hS : Pnt.SeesO w o xs) :
    Calls Tryz.prog 72 #[.slice o xs.length cap] w fun e w' => (∃ v, e = .returned v ∧ w'.ownsRow w.heap.size 3 1 v (numsF xs).length ((numsF xs).map (Value.int .i64))) ∧ Below w.heap.size w w' := by
  obtain ⟨i0, hi, hz0, hz1, hz2⟩ := info_parts infoI
  obtain ⟨n, hn⟩ : ∃ n, xs.length = n := ⟨_, rfl⟩
  have HN := Lib.hid hn
  rw [hn] at hm ⊢
  have HSO := Lib.hid hS
  clear hS hn
  go_enter Tryz.func72, Tryz.ntmps72
  go_wp2_with (at_make; go_must (refine wpList_make_own _ rfl _ _ 58 rfl w.heap.size 3 i0 (.int .i64 0) 1 Tryz.underlying58 hi hz0 hz1 _ _ _ n rfl rfl rfl (by rw [hz2]; omega) (by unfold maxLen; omega) (Nat.le_refl _) ?_); intro w1 hown1 hgrow1)
  have HB1 := Lib.hid (Below.grown (Below.refl _ _) hgrow1 (Nat.le_refl _) (fun j hj => by cases hj) : Below w.heap.size w w1)
  clear hgrow1
  go_loopw [3, 11] (fun v3 v11 wr => ∃ (k : Nat) (zs : List Int), v11 = .int .i64 k ∧ k ≤ n ∧ zs.length ≤ k ∧ Hid (zs = numsF (xs.take k)) ∧ wr.ownsRow w.heap.size 3 1 v3 zs.length (zs.map (Value.int .i64)) ∧ Hid (Below w.heap.size w wr)) (fun _ v11 _ => n - (intOf v11).toNat)
  case atStart => exact ⟨0, [], rfl, Nat.zero_le _, Nat.zero_le _, rfl, hown1, HB1⟩
  case round =>
    obtain ⟨k, zs, rfl, hk, hyk, HY, hown, HB⟩ := hrel
    by_cases hkn : k < n
    · have j1 : (k : Int) < n := by omega
      obtain ⟨x, hx⟩ := Pnt.get_lt HN.out hkn
      obtain ⟨b, off, rfl, hS⟩ := (HSO.out.below HB.out).at hx
      have c0 := hS.at0 k x hx
      have c1 := hS.at1 k x hx
      have H2 := Lib.hid (nums_take HY.out hx)
      have HB1 := Lib.hid (box_below HB.out (Obj.cells #[Value.int .i64 x.1, Value.int .i64 x.2] 43))
      have hO2 := hown.alloc (Obj.cells #[Value.int .i64 x.1, Value.int .i64 x.2] 43)
      have hwz := HB.out.size
      have HZ := Lib.hid hwz
      clear hS hx hown hwz
      go_wp2_with (at_builtin; go_must (refine wpList_append_own _ rfl _ _ 58 rfl w.heap.size 3 i0 (.int .i64 0) 1 8 Tryz.underlying58 hi hz0 hz1 hz2 rfl (by decide) _ _ _ rfl (hO2.alloc _) ⟨wr.heap.size + 1, 0, none⟩ 1 1 [.int .i64 x.2] rfl rfl (cell_one (wr.alloc (Obj.cells #[Value.int .i64 x.1, Value.int .i64 x.2] 43)) _ _ (World.size_alloc _ _)) (one_i _) (by unfold maxLen; omega) (by omega) (by simp; have := HZ.out; omega) ?_); intro v' w3 hown' hgrow3 hnil3)
      have hB3 : Below w.heap.size w w3 := Below.grown (HB1.out.alloc (by have := HB1.out.size; omega) _) hgrow3 (by have := HZ.out; simp; omega) (fun j hj => by have := (hO2.lt _ hj).1; omega)
      have hO3 : w3.ownsRow w.heap.size 3 1 v' (zs ++ [x.2]).length ((zs ++ [x.2]).map (Value.int .i64)) := by
        rw [List.length_append, List.map_append]; exact hown'
      have HB3 := Lib.hid hB3
      clear hown' hgrow3 hnil3 hO2 hB3
      go_roundw
      case rel => exact ⟨k + 1, zs ++ [x.2], by go_num, by omega, by simp; omega, H2, hO3, HB3⟩
      case measure => simp [intOf]; omega
    · have j1 : ¬ ((k : Int) < n) := by omega
      have H2 := Lib.hid (show zs = numsF xs by rw [HY.out, List.take_of_length_le (by rw [HN.out]; omega)])
      go_wp2
      go_ret
      refine ⟨?_, HB.out⟩
      rw [← H2.out]
      exact ⟨_, rfl, hown⟩
theorem numbers_form {n : Nat} (o : Option Addr) (cap : Nat) (xs : List Pt) (w : World) (hn : xs.length = n) (hm : n ≤ 1000000) (hS : Pnt.SeesO w o xs) :
    Calls Tryz.prog 72 #[.slice o n cap] w fun e w' => (∃ o2 c2, e = .returned (.slice o2 n c2) ∧ SeesI w' o2 (numsF xs)) ∧ Below w.heap.size w w' := by
  subst hn
  refine (numbers_any o cap xs w hm hS).mono ?_
  rintro e w' ⟨⟨v, rfl, ho⟩, hb⟩
  obtain ⟨o2, c2, rfl, hs, _⟩ := own_ints ho
  exact ⟨⟨o2, c2, by rw [nums_len], hs⟩, hb⟩

/-- Functions of numbers, by their places. -/
def overP (k : Nat) (zs : List Int) : Int × Int :=
  match k with
  | 0 => sumF zs
  | 1 => (minL zs, 0)
  | 2 => (maxL zs, 0)
  | 3 => (zs.length, 0)
  | 4 => meanF zs
  | _ => ((zs.getLast?).getD 0, 0)

set_option maxHeartbeats 2000000 in
set_option maxRecDepth 100000 in
theorem over0 (o : Option Addr) (cap : Nat) (zs : List Int) (w : World) (hm : zs.length ≤ maxLen) (_h0 : zs ≠ []) (hS : SeesI w o zs) :
    Calls Tryz.prog 71 #[.iface 82 (.agg #[]), .slice o zs.length cap] w fun e w' => e = .returned (.tuple #[.int .i64 (overP 0 zs).1, .int .i64 (overP 0 zs).2]) ∧ Below w.heap.size w w' := by
  have HC := Lib.hid (fun W (h : Below w.heap.size w W) => sum_any o cap zs W hm (hS.below h))
  show Calls _ _ _ _ fun e w' => e = .returned (.tuple #[.int .i64 (sumF zs).1, .int .i64 (sumF zs).2]) ∧ _
  generalize sumF zs = R at HC ⊢
  generalize zs.length = n at HC hm ⊢
  unfold maxLen at hm
  clear hS _h0
  have a0 := ta0_0
  go_enter Tryz.func71, Tryz.ntmps71
  go_wp2_with fail
  refine (HC.out _ (by repeat (first | exact Below.refl _ _ | refine Below.alloc ?_ (by simp <;> omega) _))).mono ?_
  rintro e w1 ⟨rfl, rfl⟩
  go_wp2
  go_ret2
  exact ⟨rfl, by repeat (first | exact Below.refl _ _ | refine Below.alloc ?_ (by simp <;> omega) _)⟩

set_option maxHeartbeats 2000000 in
set_option maxRecDepth 100000 in
theorem over4 (o : Option Addr) (cap : Nat) (zs : List Int) (w : World) (hm : zs.length ≤ maxLen) (_h0 : zs ≠ []) (hS : SeesI w o zs) :
    Calls Tryz.prog 71 #[.iface 86 (.agg #[]), .slice o zs.length cap] w fun e w' => e = .returned (.tuple #[.int .i64 (overP 4 zs).1, .int .i64 (overP 4 zs).2]) ∧ Below w.heap.size w w' := by
  have HC := Lib.hid (fun W (h : Below w.heap.size w W) => mean_any o cap zs W hm (hS.below h))
  show Calls _ _ _ _ fun e w' => e = .returned (.tuple #[.int .i64 (meanF zs).1, .int .i64 (meanF zs).2]) ∧ _
  generalize meanF zs = R at HC ⊢
  generalize zs.length = n at HC hm ⊢
  unfold maxLen at hm
  clear hS _h0
  have a0 := ta4_0
  have a4 := ta4_4
  go_enter Tryz.func71, Tryz.ntmps71
  go_wp2_with fail
  refine (HC.out _ (by repeat (first | exact Below.refl _ _ | refine Below.alloc ?_ (by simp <;> omega) _))).mono ?_
  rintro e w1 ⟨rfl, rfl⟩
  go_wp2
  go_ret2
  exact ⟨rfl, by repeat (first | exact Below.refl _ _ | refine Below.alloc ?_ (by simp <;> omega) _)⟩

set_option maxHeartbeats 2000000 in
set_option maxRecDepth 100000 in
theorem over1 (o : Option Addr) (cap : Nat) (zs : List Int) (w : World) (hm : zs.length ≤ maxLen) (h0 : zs ≠ []) (hS : SeesI w o zs) :
    Calls Tryz.prog 71 #[.iface 83 (.agg #[]), .slice o zs.length cap] w fun e w' => e = .returned (.tuple #[.int .i64 (overP 1 zs).1, .int .i64 (overP 1 zs).2]) ∧ Below w.heap.size w w' := by
  have HC := Lib.hid (fun W (h : Below w.heap.size w W) => min_any o cap zs W hm h0 (hS.below h))
  show Calls _ _ _ _ fun e w' => e = .returned (.tuple #[.int .i64 (minL zs), .int .i64 0]) ∧ _
  generalize minL zs = R at HC ⊢
  generalize zs.length = n at HC hm ⊢
  unfold maxLen at hm
  clear hS h0
  have a0 := ta1_0
  have a4 := ta1_4
  have a1 := ta1_1
  go_enter Tryz.func71, Tryz.ntmps71
  go_wp2_with fail
  refine (HC.out _ (by repeat (first | exact Below.refl _ _ | refine Below.alloc ?_ (by simp <;> omega) _))).mono ?_
  rintro e w1 ⟨rfl, rfl⟩
  go_wp2
  go_ret2
  exact ⟨rfl, by repeat (first | exact Below.refl _ _ | refine Below.alloc ?_ (by simp <;> omega) _)⟩

set_option maxHeartbeats 2000000 in
set_option maxRecDepth 100000 in
theorem over2 (o : Option Addr) (cap : Nat) (zs : List Int) (w : World) (hm : zs.length ≤ maxLen) (h0 : zs ≠ []) (hS : SeesI w o zs) :
    Calls Tryz.prog 71 #[.iface 84 (.agg #[]), .slice o zs.length cap] w fun e w' => e = .returned (.tuple #[.int .i64 (overP 2 zs).1, .int .i64 (overP 2 zs).2]) ∧ Below w.heap.size w w' := by
  have HC := Lib.hid (fun W (h : Below w.heap.size w W) => max_any o cap zs W hm h0 (hS.below h))
  show Calls _ _ _ _ fun e w' => e = .returned (.tuple #[.int .i64 (maxL zs), .int .i64 0]) ∧ _
  generalize maxL zs = R at HC ⊢
  generalize zs.length = n at HC hm ⊢
  unfold maxLen at hm
  clear hS h0
  have a0 := ta2_0
  have a4 := ta2_4
  have a1 := ta2_1
  have a2 := ta2_2
  go_enter Tryz.func71, Tryz.ntmps71
  go_wp2_with fail
  refine (HC.out _ (by repeat (first | exact Below.refl _ _ | refine Below.alloc ?_ (by simp <;> omega) _))).mono ?_
  rintro e w1 ⟨rfl, rfl⟩
  go_wp2
  go_ret2
  exact ⟨rfl, by repeat (first | exact Below.refl _ _ | refine Below.alloc ?_ (by simp <;> omega) _)⟩

set_option maxHeartbeats 2000000 in
set_option maxRecDepth 100000 in
theorem over3 (o : Option Addr) (cap : Nat) (zs : List Int) (w : World) (_hm : zs.length ≤ maxLen) (_h0 : zs ≠ []) (_hS : SeesI w o zs) :
    Calls Tryz.prog 71 #[.iface 85 (.agg #[]), .slice o zs.length cap] w fun e w' => e = .returned (.tuple #[.int .i64 (overP 3 zs).1, .int .i64 (overP 3 zs).2]) ∧ Below w.heap.size w w' := by
  show Calls _ _ _ _ fun e w' => e = .returned (.tuple #[.int .i64 zs.length, .int .i64 0]) ∧ _
  generalize zs.length = n at _hm ⊢
  unfold maxLen at _hm
  clear _hS _h0
  have a0 := ta3_0
  have a4 := ta3_4
  have a1 := ta3_1
  have a2 := ta3_2
  have a3 := ta3_3
  go_enter Tryz.func71, Tryz.ntmps71
  go_wp2
  go_ret2
  exact ⟨rfl, by repeat (first | exact Below.refl _ _ | refine Below.alloc ?_ (by simp <;> omega) _)⟩

set_option maxHeartbeats 2000000 in
set_option maxRecDepth 100000 in
theorem over5 (o : Option Addr) (cap : Nat) (zs : List Int) (w : World) (hm : zs.length ≤ maxLen) (h0 : zs ≠ []) (hS : SeesI w o zs) :
    Calls Tryz.prog 71 #[.iface 87 (.agg #[]), .slice o zs.length cap] w fun e w' => e = .returned (.tuple #[.int .i64 (overP 5 zs).1, .int .i64 (overP 5 zs).2]) ∧ Below w.heap.size w w' := by
  show Calls _ _ _ _ fun e w' => e = .returned (.tuple #[.int .i64 ((zs.getLast?).getD 0), .int .i64 0]) ∧ _
  obtain ⟨p, hp⟩ : ∃ p, zs.length = p + 1 := ⟨zs.length - 1, by have := List.length_pos_iff.2 h0; omega⟩
  obtain ⟨x, hx⟩ := get_lt hp (show p < p + 1 by omega)
  have e1 : zs.getLast? = some x := by rw [List.getLast?_eq_getElem?, hp]; exact hx
  rcases hS with hS | ⟨b, off, rfl, hl, hc⟩
  · exact absurd hS h0
  have c1 : (((((((w).alloc (Obj.cells #[] 82)).alloc (Obj.cells #[] 86)).alloc (Obj.cells #[] 83)).alloc (Obj.cells #[] 84)).alloc (Obj.cells #[] 85)).alloc (Obj.cells #[] 87)).cell? ⟨b, off + p, none⟩ = some (.int .i64 x) := (Below.cell (show Below w.heap.size w (((((((w).alloc (Obj.cells #[] 82)).alloc (Obj.cells #[] 86)).alloc (Obj.cells #[] 83)).alloc (Obj.cells #[] 84)).alloc (Obj.cells #[] 85)).alloc (Obj.cells #[] 87)) from by repeat (first | exact Below.refl _ _ | refine Below.alloc ?_ (by simp <;> omega) _)) (p := ⟨b, off + p, none⟩) hl).trans (hc p x hx)
  rw [e1]
  rw [hp] at hm ⊢
  unfold maxLen at hm
  clear hc h0 hx e1 hp
  have a0 := ta5_0
  have a4 := ta5_4
  have a1 := ta5_1
  have a2 := ta5_2
  have a3 := ta5_3
  have a5 := ta5_5
  go_enter Tryz.func71, Tryz.ntmps71
  go_wp2
  go_ret2
  exact ⟨rfl, by repeat (first | exact Below.refl _ _ | refine Below.alloc ?_ (by simp <;> omega) _)⟩

theorem over_any (k : Nat) (hk : k < 6) (o : Option Addr) (cap : Nat) (zs : List Int) (w : World) (hm : zs.length ≤ maxLen) (h0 : zs ≠ []) (hS : SeesI w o zs) :
    Calls Tryz.prog 71 #[fnV k, .slice o zs.length cap] w fun e w' => e = .returned (.tuple #[.int .i64 (overP k zs).1, .int .i64 (overP k zs).2]) ∧ Below w.heap.size w w' := by
  match k, hk with
  | 0, _ => exact over0 o cap zs w hm h0 hS
  | 1, _ => exact over1 o cap zs w hm h0 hS
  | 2, _ => exact over2 o cap zs w hm h0 hS
  | 3, _ => exact over3 o cap zs w hm h0 hS
  | 4, _ => exact over4 o cap zs w hm h0 hS
  | 5, _ => exact over5 o cap zs w hm h0 hS
end Go.Proofs.YthbameabfmoibaaGreat.Win
