/- Walks: the document's own word on names; its own while. -/
import Derived.Test.YthbameabfmoibaaGreatVd
import Derived.Test.YthbameabfmoibaaGreatVb
namespace Go.Proofs.YthbameabfmoibaaGreat.Win
open Go.RowKit Go.Lib

set_option maxHeartbeats 1000000 in
theorem rfn0 (w : World) : Calls Tryz.prog 16 #[.string ⟨#[115, 117, 109, 95, 111, 118, 101, 114]⟩] w fun e w' => e = .returned (.bool true) ∧ w' = w := by
  go_enter Tryz.func16, Tryz.ntmps16
  go_wp2
  go_ret
  exact ⟨rfl, rfl⟩

set_option maxHeartbeats 1000000 in
theorem rfn1 (w : World) : Calls Tryz.prog 16 #[.string ⟨#[109, 105, 110, 95, 111, 118, 101, 114]⟩] w fun e w' => e = .returned (.bool true) ∧ w' = w := by
  go_enter Tryz.func16, Tryz.ntmps16
  go_wp2
  go_ret
  exact ⟨rfl, rfl⟩

set_option maxHeartbeats 1000000 in
theorem rfn2 (w : World) : Calls Tryz.prog 16 #[.string ⟨#[109, 97, 120, 95, 111, 118, 101, 114]⟩] w fun e w' => e = .returned (.bool true) ∧ w' = w := by
  go_enter Tryz.func16, Tryz.ntmps16
  go_wp2
  go_ret
  exact ⟨rfl, rfl⟩

set_option maxHeartbeats 1000000 in
theorem rfn3 (w : World) : Calls Tryz.prog 16 #[.string ⟨#[99, 111, 117, 110, 116, 95, 111, 118, 101, 114]⟩] w fun e w' => e = .returned (.bool true) ∧ w' = w := by
  go_enter Tryz.func16, Tryz.ntmps16
  go_wp2
  go_ret
  exact ⟨rfl, rfl⟩

set_option maxHeartbeats 1000000 in
theorem rfn4 (w : World) : Calls Tryz.prog 16 #[.string ⟨#[97, 118, 103, 95, 111, 118, 101, 114]⟩] w fun e w' => e = .returned (.bool true) ∧ w' = w := by
  go_enter Tryz.func16, Tryz.ntmps16
  go_wp2
  go_ret
  exact ⟨rfl, rfl⟩

set_option maxHeartbeats 1000000 in
theorem rfn5 (w : World) : Calls Tryz.prog 16 #[.string ⟨#[108, 97, 115, 116, 95, 111, 118, 101, 114]⟩] w fun e w' => e = .returned (.bool true) ∧ w' = w := by
  go_enter Tryz.func16, Tryz.ntmps16
  go_wp2
  go_ret
  exact ⟨rfl, rfl⟩

set_option maxHeartbeats 1000000 in
theorem rfn6 (w : World) : Calls Tryz.prog 16 #[.string ⟨#[105, 110, 99, 114, 101, 97, 115, 101]⟩] w fun e w' => e = .returned (.bool true) ∧ w' = w := by
  go_enter Tryz.func16, Tryz.ntmps16
  go_wp2
  go_ret
  exact ⟨rfl, rfl⟩

set_option maxHeartbeats 1000000 in
theorem rfn7 (w : World) : Calls Tryz.prog 16 #[.string ⟨#[114, 97, 116, 101]⟩] w fun e w' => e = .returned (.bool true) ∧ w' = w := by
  go_enter Tryz.func16, Tryz.ntmps16
  go_wp2
  go_ret
  exact ⟨rfl, rfl⟩

set_option maxHeartbeats 1000000 in
theorem rfn_none (s : ByteArray) (w : World) (h : NoFn s) : Calls Tryz.prog 16 #[.string s] w fun e w' => e = .returned (.bool false) ∧ w' = w := by
  obtain ⟨n0, n1, n2, n3, n4, n5, n6, n7⟩ := h
  have t0 := beq_eq_false_iff_ne.2 n0
  have t1 := beq_eq_false_iff_ne.2 n1
  have t2 := beq_eq_false_iff_ne.2 n2
  have t3 := beq_eq_false_iff_ne.2 n3
  have t4 := beq_eq_false_iff_ne.2 n4
  have t5 := beq_eq_false_iff_ne.2 n5
  have t6 := beq_eq_false_iff_ne.2 n6
  have t7 := beq_eq_false_iff_ne.2 n7
  clear n0 n1 n2 n3 n4 n5 n6 n7
  go_enter Tryz.func16, Tryz.ntmps16
  go_wp2
  go_ret
  exact ⟨rfl, rfl⟩
theorem rfn_any (s : ByteArray) (w : World) : Calls Tryz.prog 16 #[.string s] w fun e w' => e = .returned (.bool (decide (fnF s < 8))) ∧ w' = w := by
  rcases fn_cases s with ⟨k, hk, rfl⟩ | ⟨e, hn⟩
  · rw [fn_nm k hk]
    exact eight_cases (p := fun k => Calls Tryz.prog 16 #[.string (nmOf k)] w fun e w' => e = .returned (.bool (decide (k < 8))) ∧ w' = w) (rfn0 w) (rfn1 w) (rfn2 w) (rfn3 w) (rfn4 w) (rfn5 w) (rfn6 w) (rfn7 w) k hk
  · rw [e]; exact rfn_none s w hn

set_option maxHeartbeats 2000000 in
set_option maxRecDepth 100000 in
theorem rwindow_bad (o : Option Addr) (cap : Nat) (xs : List Pt) (t wh : Int) (w : World) (hm : xs.length ≤ maxLen) (hS : Pnt.SeesO w o xs) (hb : ¬ (pointsB xs = true ∧ timeP t ∧ timeP wh)) :
    Calls Tryz.prog 6 #[.slice o xs.length cap, .int .i64 t, .int .i64 wh] w fun e w' => e = .returned (.slice none 0 0) ∧ Below w.heap.size w w' := by
  have HP := Lib.hid (rpoints_any o cap xs w hm hS)
  generalize xs.length = n at HP hm ⊢
  unfold maxLen at hm
  clear hS
  cases hp : pointsB xs with
  | false =>
    rw [hp] at HP
    clear hb hp
    go_enter Tryz.func6, Tryz.ntmps6
    go_wp2_with fail
    refine HP.out.mono ?_
    rintro e w1 ⟨rfl, b1⟩
    have HB1 := Lib.hid b1
    clear b1
    go_wp2
    go_ret
    exact ⟨rfl, HB1.out⟩
  | true =>
  rw [hp] at HP hb
  have hb : ¬ (timeP t ∧ timeP wh) := fun h => hb ⟨rfl, h⟩
  by_cases h1 : t < 0
  case' pos => clear hb
  case' neg =>
    by_cases h2 : 1000000000 < t
    case' pos => clear hb
    case' neg =>
      by_cases h3 : wh < 0
      case' pos => clear hb
      case' neg =>
        have h4 : 1000000000 < wh := by
          by_cases h4 : wh ≤ 1000000000
          · exact absurd ⟨⟨by omega, by omega⟩, ⟨by omega, h4⟩⟩ hb
          · omega
        clear hb
  all_goals
    clear hp
    go_enter Tryz.func6, Tryz.ntmps6
    go_wp2_with fail
    refine HP.out.mono ?_
    rintro e w1 ⟨rfl, b1⟩
    have HB1 := Lib.hid b1
    clear b1
    go_wp2
    go_ret
    exact ⟨rfl, HB1.out⟩

set_option maxHeartbeats 4000000 in
set_option maxRecDepth 100000 in
theorem rwindow_any (o : Option Addr) (cap : Nat) (xs : List Pt) (t wh : Int) (w : World) (hm : xs.length ≤ maxLen) (hS : Pnt.SeesO w o xs) :
    Calls Tryz.prog 6 #[.slice o xs.length cap, .int .i64 t, .int .i64 wh] w fun e w' => (∃ v, e = .returned v ∧ w'.ownsRow w.heap.size 43 2 v (ofF xs t wh).length (Pnt.flatL (ofF xs t wh))) ∧ Below w.heap.size w w' := by
  by_cases hb : pointsB xs = true ∧ timeP t ∧ timeP wh
  case neg =>
    rw [of_bad hb]
    exact (rwindow_bad o cap xs t wh w hm hS hb).mono fun e w' h => ⟨⟨_, h.1, World.ownsRow_nil _ _ _ _⟩, h.2⟩
  obtain ⟨hp, ht, hw⟩ := hb
  rw [of_good ⟨hp, ht, hw⟩]
  have HP := Lib.hid (rpoints_any o cap xs w hm hS)
  rw [hp] at HP
  have hn25 : xs.length ≤ 25 := ((points_iff xs).1 hp).1
  obtain ⟨t1, t2⟩ := ht
  obtain ⟨u1, u2⟩ := hw
  obtain ⟨i0, hi, hz0, hz1, hz2⟩ := info_parts Pnt.info38
  obtain ⟨n, hn⟩ : ∃ n, xs.length = n := ⟨_, rfl⟩
  have HN := Lib.hid hn
  rw [hn] at HP hm hn25 ⊢
  have HSO := Lib.hid hS
  unfold maxLen at hm
  clear hS hn hp
  go_enter Tryz.func6, Tryz.ntmps6
  go_wp2_with fail
  refine HP.out.mono ?_
  rintro e w1 ⟨rfl, b1⟩
  have HB1 := Lib.hid b1
  clear b1
  go_wp2
  go_loopw [7, 8] (fun v7 v8 wr => ∃ (k : Nat) (ys : List Pt), v8 = .int .i64 k ∧ k ≤ n ∧ ys.length ≤ k ∧ Hid (ys = (xs.take k).filter (inW (t - wh) t)) ∧ wr.ownsRow w.heap.size 43 2 v7 ys.length (Pnt.flatL ys) ∧ Hid (Below w.heap.size w wr)) (fun _ v8 _ => n - (intOf v8).toNat)
  case atStart => exact ⟨0, [], rfl, Nat.zero_le _, Nat.zero_le _, rfl, World.ownsRow_nil _ _ _ _, HB1⟩
  case round =>
    obtain ⟨k, ys, rfl, hk, hyk, HY, hown, HB⟩ := hrel
    by_cases hkn : k < n
    · have j1 : (k : Int) < n := by omega
      obtain ⟨x, hx⟩ := Pnt.get_lt HN.out hkn
      obtain ⟨b, off, rfl, hS⟩ := (HSO.out.below HB.out).at hx
      have c0 := hS.at0 k x hx
      have c1 := hS.at1 k x hx
      have HX := Lib.hid hx
      have HO := Lib.hid hown
      have hwz := HB.out.size
      have HZ := Lib.hid hwz
      clear hS hx hown hwz
      cases hin : inW (t - wh) t x with
      | false =>
        have H2 := Lib.hid (show ys = (xs.take (k + 1)).filter (inW (t - wh) t) by rw [Pnt.filter_step HY.out HX.out, hin]; simp)
        have hin' : ¬ (t - wh < x.1 ∧ x.1 ≤ t) := fun h => by
          unfold inW at hin
          rw [decide_eq_true h.1, decide_eq_true h.2] at hin; cases hin
        clear hin
        by_cases h1 : t - wh < x.1
        · have h2 : ¬ x.1 ≤ t := fun h2 => hin' ⟨h1, h2⟩
          clear hin'
          go_wp2
          go_roundw
          case rel => exact ⟨k + 1, ys, by go_num, by omega, by omega, H2, HO.out, HB⟩
          case measure => simp [intOf]; omega
        · clear hin'
          go_wp2
          go_roundw
          case rel => exact ⟨k + 1, ys, by go_num, by omega, by omega, H2, HO.out, HB⟩
          case measure => simp [intOf]; omega
      | true =>
        have H2 := Lib.hid (show ys ++ [x] = (xs.take (k + 1)).filter (inW (t - wh) t) by rw [Pnt.filter_step HY.out HX.out, hin]; simp)
        have hin' : t - wh < x.1 ∧ x.1 ≤ t := by
          unfold inW at hin
          simpa using hin
        obtain ⟨h1, h2⟩ := hin'
        have hO2 := HO.out
        clear hin
        go_wp2_with (at_builtin; go_must (refine wpList_append_own _ rfl _ _ 22 rfl w.heap.size 43 i0 (.agg #[.int .i64 0, .int .i64 0]) 2 16 Tryz.underlying22 hi hz0 hz1 hz2 rfl (by decide) _ _ _ rfl (hO2.alloc _) ⟨wr.heap.size, 0, none⟩ 1 1 [.int .i64 x.1, .int .i64 x.2] rfl rfl (cells_2s wr _ _ _ rfl) (Pnt.one_2 _ _) (by unfold maxLen; omega) (by omega) (by simp; have := HZ.out; omega) ?_); intro v' w3 hown' hgrow3 hnil3)
        have hB3 : Below w.heap.size w w3 := Below.grown (HB.out.alloc HZ.out _) hgrow3 (by have := HZ.out; simp; omega) (fun j hj => by have := (hO2.lt _ hj).1; omega)
        have hO3 : w3.ownsRow w.heap.size 43 2 v' (ys ++ [x]).length (Pnt.flatL (ys ++ [x])) := by
          rw [List.length_append, Pnt.flatL_snoc]; exact hown'
        have HB3 := Lib.hid hB3
        clear hown' hgrow3 hnil3 hO2 hB3
        go_roundw
        case rel => exact ⟨k + 1, ys ++ [x], by go_num, by omega, by simp; omega, H2, hO3, HB3⟩
        case measure => simp [intOf]; omega
    · have j1 : ¬ ((k : Int) < n) := by omega
      have H2 := Lib.hid (show ys = xs.filter (inW (t - wh) t) by rw [HY.out, List.take_of_length_le (by rw [HN.out]; omega)])
      go_wp2
      go_ret
      refine ⟨?_, HB.out⟩
      rw [← H2.out]
      exact ⟨_, rfl, hown⟩
theorem rwindow_form {n m : Nat} (o : Option Addr) (cap : Nat) (xs ys : List Pt) (t wh : Int) (w : World) (hn : xs.length = n) (hy : ofF xs t wh = ys) (hl : ys.length = m) (hm : n ≤ maxLen) (hS : Pnt.SeesO w o xs) :
    Calls Tryz.prog 6 #[.slice o n cap, .int .i64 t, .int .i64 wh] w fun e w' => (∃ o2 c2, e = .returned (.slice o2 m c2) ∧ Pnt.SeesO w' o2 ys) ∧ Below w.heap.size w w' := by
  subst hn hy hl
  refine (rwindow_any o cap xs t wh w hm hS).mono ?_
  rintro e w' ⟨⟨v, rfl, ho⟩, hb⟩
  obtain ⟨o2, c2, rfl, hs, _⟩ := Pnt.own_sees ho
  exact ⟨⟨o2, c2, rfl, hs⟩, hb⟩
end Go.Proofs.YthbameabfmoibaaGreat.Win
