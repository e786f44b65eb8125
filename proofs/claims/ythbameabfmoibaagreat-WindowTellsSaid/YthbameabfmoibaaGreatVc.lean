/- Walks: the points of a while; the last of them. -/
import Derived.Test.YthbameabfmoibaaGreatVa
import Derived.OwnWalk
namespace Go.Proofs.YthbameabfmoibaaGreat.Win
open Go.RowKit Go.Lib

theorem cells_2s {n : Nat} (w : World) (a b : Value) (t : TypeId) (hn : w.heap.size = n) : ∀ j u, [a, b][j]? = some u → (w.alloc (.cells #[a, b] t)).cell? ((⟨n, 0, none⟩ : Addr).add j) = some u := by
  subst hn; exact Pnt.cells_2 w a b t
theorem of_bad {l : List Pt} {t w : Int} (h : ¬ (pointsB l = true ∧ timeP t ∧ timeP w)) : ofF l t w = [] := by unfold ofF; rw [if_neg h]
theorem of_good {l : List Pt} {t w : Int} (h : pointsB l = true ∧ timeP t ∧ timeP w) : ofF l t w = l.filter (inW (t - w) t) := by unfold ofF; rw [if_pos h]
theorem of_len (l : List Pt) (t w : Int) : (ofF l t w).length ≤ 25 := by
  unfold ofF
  split
  · next h => exact Nat.le_trans (List.length_filter_le _ _) ((points_iff l).1 h.1).1
  · simp

set_option maxHeartbeats 2000000 in
set_option maxRecDepth 100000 in
theorem of_any (o : Option Addr) (cap : Nat) (xs : List Pt) (t wh : Int) (w : World) (hm : xs.length ≤ maxLen) (hS : Pnt.SeesO w o xs) :
    Calls Tryz.prog 7 #[.slice o xs.length cap, .int .i64 t, .int .i64 wh] w fun e w' => (∃ v, e = .returned v ∧ w'.ownsRow w.heap.size 43 2 v (ofF xs t wh).length (Pnt.flatL (ofF xs t wh))) ∧ Below w.heap.size w w' := by
  have HR := Lib.hid (wright_any o cap xs w hm hS)
  obtain ⟨n, hn⟩ : ∃ n, xs.length = n := ⟨_, rfl⟩
  have HN := Lib.hid hn
  rw [hn] at HR hm ⊢
  unfold maxLen at hm
  cases hp : pointsB xs with
  | false =>
    rw [hp] at HR
    rw [of_bad (by rw [hp]; simp)]
    clear hS hn
    go_enter Tryz.func7, Tryz.ntmps7
    go_wp2_with fail
    refine HR.out.mono ?_
    rintro e w1 ⟨rfl, b1⟩
    go_wp2
    go_ret
    exact ⟨⟨_, rfl, World.ownsRow_nil _ _ _ _⟩, b1⟩
  | true =>
  rw [hp] at HR
  by_cases ht : timeP t
  case neg =>
    rw [of_bad (fun h => ht h.2.1)]
    have HT := Lib.hid (fun W => time_no t W ht)
    clear hS hn ht
    go_enter Tryz.func7, Tryz.ntmps7
    go_wp2_with fail
    refine HR.out.mono ?_
    rintro e w1 ⟨rfl, b1⟩
    go_wp2_with fail
    refine (HT.out _).mono ?_
    rintro e w2 ⟨rfl, rfl⟩
    go_wp2
    go_ret
    exact ⟨⟨_, rfl, World.ownsRow_nil _ _ _ _⟩, b1⟩
  by_cases hw : timeP wh
  case neg =>
    rw [of_bad (fun h => hw h.2.2)]
    have HT := Lib.hid (fun W => time_yes t W ht)
    have HU := Lib.hid (fun W => time_no wh W hw)
    clear hS hn ht hw
    go_enter Tryz.func7, Tryz.ntmps7
    go_wp2_with fail
    refine HR.out.mono ?_
    rintro e w1 ⟨rfl, b1⟩
    go_wp2_with fail
    refine (HT.out _).mono ?_
    rintro e w2 ⟨rfl, rfl⟩
    go_wp2_with fail
    refine (HU.out _).mono ?_
    rintro e w2 ⟨rfl, rfl⟩
    go_wp2
    go_ret
    exact ⟨⟨_, rfl, World.ownsRow_nil _ _ _ _⟩, b1⟩
  rw [of_good ⟨hp, ht, hw⟩]
  have HT := Lib.hid (fun W => time_yes t W ht)
  have HU := Lib.hid (fun W => time_yes wh W hw)
  have hn25 : n ≤ 25 := by rw [← hn]; exact ((points_iff xs).1 hp).1
  obtain ⟨t1, t2⟩ := ht
  obtain ⟨u1, u2⟩ := hw
  obtain ⟨i0, hi, hz0, hz1, hz2⟩ := info_parts Pnt.info38
  have HSO := Lib.hid hS
  clear hS hn hp
  go_enter Tryz.func7, Tryz.ntmps7
  go_wp2_with fail
  refine HR.out.mono ?_
  rintro e w1 ⟨rfl, b1⟩
  go_wp2_with fail
  refine (HT.out _).mono ?_
  rintro e w2 ⟨rfl, rfl⟩
  go_wp2_with fail
  refine (HU.out _).mono ?_
  rintro e w2 ⟨rfl, rfl⟩
  have HB1 := Lib.hid b1
  clear b1
  go_wp2
  go_loopw [7, 25] (fun v7 v25 wr => ∃ (k : Nat) (ys : List Pt), v25 = .int .i64 k ∧ k ≤ n ∧ ys.length ≤ k ∧ Hid (ys = (xs.take k).filter (inW (t - wh) t)) ∧ wr.ownsRow w.heap.size 43 2 v7 ys.length (Pnt.flatL ys) ∧ Hid (Below w.heap.size w wr)) (fun _ v25 _ => n - (intOf v25).toNat)
  case atStart => exact ⟨0, [], rfl, Nat.zero_le _, Nat.zero_le _, rfl, World.ownsRow_nil _ _ _ _, HB1⟩
  case round =>
    obtain ⟨k, ys, rfl, hk, hyk, HY, hown, HB⟩ := hrel
    by_cases hkn : k < n
    · have j1 : (k : Int) < n := by omega
      obtain ⟨x, hx⟩ := Pnt.get_lt HN.out hkn
      obtain ⟨b, off, rfl, hS⟩ := (HSO.out.below HB.out).at hx
      have c0 := hS.at0 k x hx
      have c1 := hS.at1 k x hx
      have HX := Lib.hid hx
      have HB1 := Lib.hid (box_below HB.out (Obj.cells #[Value.int .i64 x.1, Value.int .i64 x.2] 43))
      have HO := Lib.hid hown
      have hwz := HB.out.size
      have HZ := Lib.hid hwz
      clear hS hx hown hwz
      cases hin : inW (t - wh) t x with
      | false =>
        have H2 := Lib.hid (show ys = (xs.take (k + 1)).filter (inW (t - wh) t) by rw [Pnt.filter_step HY.out HX.out, hin]; simp)
        have hin' : ¬ (t - wh < x.1 ∧ x.1 ≤ t) := fun h => by
          unfold inW at hin
          rw [decide_eq_true h.1, decide_eq_true h.2] at hin; cases hin
        have HOq := Lib.hid (HO.out.alloc (Obj.cells #[Value.int .i64 x.1, Value.int .i64 x.2] 43))
        clear hin
        by_cases h1 : t - wh < x.1
        · have h2 : ¬ x.1 ≤ t := fun h2 => hin' ⟨h1, h2⟩
          clear hin'
          go_wp2
          go_roundw
          case rel => exact ⟨k + 1, ys, by go_num, by omega, by omega, H2, HOq.out, HB1⟩
          case measure => simp [intOf]; omega
        · clear hin'
          go_wp2
          go_roundw
          case rel => exact ⟨k + 1, ys, by go_num, by omega, by omega, H2, HOq.out, HB1⟩
          case measure => simp [intOf]; omega
      | true =>
        have H2 := Lib.hid (show ys ++ [x] = (xs.take (k + 1)).filter (inW (t - wh) t) by rw [Pnt.filter_step HY.out HX.out, hin]; simp)
        have hin' : t - wh < x.1 ∧ x.1 ≤ t := by
          unfold inW at hin
          simpa using hin
        obtain ⟨h1, h2⟩ := hin'
        have hO2 := HO.out.alloc (Obj.cells #[Value.int .i64 x.1, Value.int .i64 x.2] 43)
        clear hin
        go_wp2_with (at_builtin; go_must (refine wpList_append_own _ rfl _ _ 22 rfl w.heap.size 43 i0 (.agg #[.int .i64 0, .int .i64 0]) 2 16 Tryz.underlying22 hi hz0 hz1 hz2 rfl (by decide) _ _ _ rfl (hO2.alloc _) ⟨wr.heap.size + 1, 0, none⟩ 1 1 [.int .i64 x.1, .int .i64 x.2] rfl rfl (cells_2s (wr.alloc (Obj.cells #[Value.int .i64 x.1, Value.int .i64 x.2] 43)) _ _ _ (World.size_alloc _ _)) (Pnt.one_2 _ _) (by unfold maxLen; omega) (by omega) (by simp; have := HZ.out; omega) ?_); intro v' w3 hown' hgrow3 hnil3)
        have hB3 : Below w.heap.size w w3 := Below.grown (HB1.out.alloc (by have := HB1.out.size; omega) _) hgrow3 (by have := HZ.out; simp; omega) (fun j hj => by have := (hO2.lt _ hj).1; omega)
        have hO3 : w3.ownsRow w.heap.size 43 2 v' (ys ++ [x]).length (Pnt.flatL (ys ++ [x])) := by
          rw [List.length_append, Pnt.flatL_snoc]; exact hown'
        have HB3 := Lib.hid hB3
        clear hown' hgrow3 hnil3 hO2 hB3
        go_roundw
        case rel => exact ⟨k + 1, ys ++ [x], by go_num, by omega, by simp; omega, H2, hO3, HB3⟩
        case measure => simp [intOf]; omega
    · have j1 : ¬ ((k : Int) < n) := by omega
      have H2 := Lib.hid (show ys = xs.filter (inW (t - wh) t) by rw [HY.out, List.take_of_length_le (by rw [HN.out]; omega)])
      go_wp2
      go_ret
      refine ⟨?_, HB.out⟩
      rw [← H2.out]
      exact ⟨_, rfl, hown⟩

/-- .. opened: the slice, its length shown. -/
theorem of_form {n m : Nat} (o : Option Addr) (cap : Nat) (xs ys : List Pt) (t wh : Int) (w : World) (hn : xs.length = n) (hy : ofF xs t wh = ys) (hl : ys.length = m) (hm : n ≤ maxLen) (hS : Pnt.SeesO w o xs) :
    Calls Tryz.prog 7 #[.slice o n cap, .int .i64 t, .int .i64 wh] w fun e w' => (∃ o2 c2, e = .returned (.slice o2 m c2) ∧ w'.ownsRow w.heap.size 43 2 (.slice o2 m c2) m (Pnt.flatL ys) ∧ Pnt.SeesO w' o2 ys) ∧ Below w.heap.size w w' := by
  subst hn hy hl
  refine (of_any o cap xs t wh w hm hS).mono ?_
  rintro e w' ⟨⟨v, rfl, ho⟩, hb⟩
  obtain ⟨o2, c2, rfl, hs, _⟩ := Pnt.own_sees ho
  exact ⟨⟨o2, c2, rfl, ho, hs⟩, hb⟩

set_option maxHeartbeats 1000000 in
set_option maxRecDepth 100000 in
theorem last_any (o : Option Addr) (cap : Nat) (xs : List Pt) (t wh : Int) (w : World) (hm : xs.length ≤ maxLen) (hS : Pnt.SeesO w o xs) :
    Calls Tryz.prog 9 #[.slice o xs.length cap, .int .i64 t, .int .i64 wh] w fun e w' => e = .returned (.tuple #[.int .i64 (lastF xs t wh).1, .bool (lastF xs t wh).2]) ∧ Below w.heap.size w w' := by
  obtain ⟨ys, hys⟩ : ∃ ys, ofF xs t wh = ys := ⟨_, rfl⟩
  obtain ⟨m, hm2⟩ : ∃ m, ys.length = m := ⟨_, rfl⟩
  have h25 : m ≤ 25 := by rw [← hm2, ← hys]; exact of_len _ _ _
  have HO := Lib.hid (of_form o cap xs ys t wh w rfl hys hm2 hm hS)
  have HE := Lib.hid (show lastF xs t wh = match ys.getLast? with | some x => (x.2, true) | none => (0, false) by unfold lastF; rw [hys]; cases ys.getLast? <;> rfl)
  have HM := Lib.hid hm2
  clear hys hS hm2
  generalize xs.length = n at hm HO ⊢
  unfold maxLen at hm
  rw [HE.out]
  clear HE
  by_cases h0 : m = 0
  · subst h0
    have e0 : ys = [] := List.eq_nil_of_length_eq_zero HM.out
    subst e0
    go_enter Tryz.func9, Tryz.ntmps9
    go_wp2_with fail
    refine HO.out.mono ?_
    rintro e w1 ⟨⟨o2, c2, rfl, _, _⟩, b1⟩
    have HB := Lib.hid b1
    clear b1
    go_wp2
    go_ret2
    exact ⟨rfl, HB.out⟩
  · obtain ⟨p, rfl⟩ : ∃ p, m = p + 1 := ⟨m - 1, by omega⟩
    obtain ⟨x, hx⟩ := Pnt.get_lt HM.out (show p < p + 1 by omega)
    have e1 : ys.getLast? = some x := by rw [List.getLast?_eq_getElem?, HM.out]; exact hx
    rw [e1]
    have HX := Lib.hid hx
    have t0 : (((p + 1 : Nat) : Int) == 0) = false := beq_eq_false_iff_ne.2 (by omega)
    clear hx e1
    go_enter Tryz.func9, Tryz.ntmps9
    go_wp2_with fail
    refine HO.out.mono ?_
    rintro e w1 ⟨⟨o2, c2, rfl, _, hs⟩, b1⟩
    have HB := Lib.hid b1
    obtain ⟨b, off, rfl, hS⟩ := hs.at HX.out
    have c1 := hS.at1 p x HX.out
    clear b1 hs hS
    go_wp2
    go_ret2
    exact ⟨rfl, HB.out⟩
end Go.Proofs.YthbameabfmoibaaGreat.Win
