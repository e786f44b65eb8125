/- The law: two rows have the same bytes just if they are the same. -/
import Derived.Test.YthjifpdiekoomaaYf
namespace Go.Proofs.Ythjifpdiekoomaa.Row
open Go.RowKit Go.Lib Go.Proofs.Ythjifpdiekoomaa.Vec

theorem one_rows {w : World} {B k n c : Nat} {o : Option Addr} {xs : List Lab} {v : Int} (h : w.heap[k]? = some (.cells #[.slice o n c, .int .i64 v] 24 (0, 0))) (hn : xs.length = n) (hm : n ≤ maxLen) (hL : LabS w B o xs) : RowsS w B (some ⟨k, 0, none⟩) [(xs, v)] := by
  refine .inr ⟨k, 0, rfl, (Array.getElem?_eq_some_iff.1 h).1, fun j x hx => ?_⟩
  have hj : j = 0 := by have := (List.getElem?_eq_some_iff.1 hx).1; simpa using this
  subst hj
  simp at hx; subst hx
  refine ⟨[.slice o n c, .int .i64 v], ⟨o, c, by rw [← hn], hL, by rw [hn]; exact hm⟩, fun i u hi => ?_⟩
  match i, hi with
  | 0, hi => simp at hi; subst hi; unfold World.cell?; simp only [h]; rfl
  | 1, hi => simp at hi; subst hi; unfold World.cell?; simp only [h]; rfl
  | i + 2, hi => simp at hi
theorem labS_of {w : World} {o : Option Addr} {xs : List Lab} (h : SeesO w o xs) : LabS w w.heap.size o xs :=
  ⟨h, fun hne b off e => .inl (by
    rcases h with h | ⟨b', off', e', hs⟩
    · exact absurd h hne
    · rw [e] at e'; cases e'; exact hs.low)⟩
/-- Bytes alike, or not. -/
theorem put_same {xs ys : List Lab} {v u : Int} (hx : okR xs v = true) (hy : okR ys u = true) : ((putS xs v).toList == (putS ys u).toList) = ((v == u) && sameL xs ys) := by
  rw [Bool.eq_iff_iff, beq_iff_eq, toList_inj, Bool.and_eq_true, beq_iff_eq, sameL_iff]
  constructor
  · intro h
    unfold putS at h
    rw [if_pos hx, if_pos hy] at h
    have h2 : putR xs v ++ [] = putR ys u := by
      have := congrArg (fun s : ByteArray => s.data.toList) h
      simpa using this
    obtain ⟨h3, h4, _⟩ := put_app (okR_right hx).1 (okR_right hy).1 (okR_right hx).2 (okR_right hy).2 h2
    exact ⟨h4, h3⟩
  · rintro ⟨rfl, rfl⟩; rfl
theorem put_begins {xs ys : List Lab} {v u : Int} (hx : okR xs v = true) (hy : okR ys u = true) (hl : (putS xs v).size < (putS ys u).size) : (((putS ys u).extract 0 (putS xs v).size).toList == (putS xs v).toList) = false := by
  rw [beq_eq_false_iff_ne, Ne, toList_inj]
  intro h
  have h1 := congrArg (fun s : ByteArray => s.data.toList) h
  simp only [ext_upto] at h1
  have h2 : putR xs v ++ (putR ys u).drop (putS xs v).size = putR ys u := by
    have e1 : (putS xs v).data.toList = putR xs v := by rw [putS, if_pos hx, str_data]
    have e2 : (putS ys u).data.toList = putR ys u := by rw [putS, if_pos hy, str_data]
    rw [e2, e1] at h1
    conv => rhs; rw [← List.take_append_drop (putS xs v).size (putR ys u), h1]
  obtain ⟨_, _, h5⟩ := put_app (okR_right hx).1 (okR_right hy).1 (okR_right hx).2 (okR_right hy).2 h2
  have h6 := congrArg List.length h5
  have e2 : (putS ys u).size = (putR ys u).length := by rw [putS, if_pos hy, str_size]
  rw [List.length_drop, List.length_nil] at h6
  omega

set_option maxHeartbeats 16000000 in
set_option maxRecDepth 100000 in
theorem unlike_any (oa ob : Option Addr) (na ca nb cb : Nat) (va vb : Int) (xs ys : List Lab) (w : World) (hna : xs.length = na) (hnb : ys.length = nb) (hma : na ≤ maxLen) (hmb : nb ≤ maxLen) (hS : SeesO w oa xs) (hT : SeesO w ob ys) :
    Calls Try.prog 3 #[.agg #[.slice oa na ca, .int .i64 va], .agg #[.slice ob nb cb, .int .i64 vb]] w fun e w' => e = .returned (.bool true) ∧ Below w.heap.size w w' := by
  have HAL := Lib.hid (fun W => alive_any W)
  have HL1 := Lib.hid (fun (W : World) (hb : Below w.heap.size w W) => (show Calls Try.prog 5 #[.slice oa na ca] W fun e w' => e = .returned (.bool (lightB xs)) ∧ Below W.heap.size W w' from by
    have := light_any oa ca xs W (by omega) (hS.below hb)
    rwa [hna] at this))
  have HL2 := Lib.hid (fun (W : World) (hb : Below w.heap.size w W) => (show Calls Try.prog 5 #[.slice ob nb cb] W fun e w' => e = .returned (.bool (lightB ys)) ∧ Below W.heap.size W w' from by
    have := light_any ob cb ys W (by omega) (hT.below hb)
    rwa [hnb] at this))
  have HP1 := Lib.hid (fun (W : World) (hb : Below w.heap.size w W) => rput_any oa na ca xs va W hna hma (hS.below hb))
  have HP2 := Lib.hid (fun (W : World) (hb : Below w.heap.size w W) => rput_any ob nb cb ys vb W hnb hmb (hT.below hb))
  have HSm := Lib.hid (fun (W : World) (hb : Below w.heap.size w W) => (show Calls Try.prog 8 #[.slice oa na ca, .slice ob nb cb] W fun e w' => e = .returned (.bool (sameL xs ys)) ∧ Below W.heap.size W w' from by
    have := sameLabels_any oa ob ca cb xs ys W (by omega) (by omega) (hS.below hb) (hT.below hb)
    rwa [hna, hnb] at this))
  have HRS := Lib.hid (fun (W : World) (k j : Nat) (hb : Below w.heap.size w W) (h1 : W.heap[k]? = some (.cells #[.slice oa na ca, .int .i64 va] 24 (0, 0))) (h2 : W.heap[j]? = some (.cells #[.slice ob nb cb, .int .i64 vb] 24 (0, 0))) =>
    (show Calls Try.prog 9 #[.slice (some ⟨k, 0, none⟩) 1 1, .slice (some ⟨j, 0, none⟩) 1 1] W fun e w' => e = .returned (.bool (sameR [(xs, va)] [(ys, vb)])) ∧ Below W.heap.size W w' from
      rsame_any _ _ 1 1 1 1 [(xs, va)] [(ys, vb)] W W.heap.size rfl rfl (by decide) (by decide) (one_rows h1 hna hma (labS_of (hS.below hb))) (one_rows h2 hnb hmb (labS_of (hT.below hb)))))
  have HSR : sameR [(xs, va)] [(ys, vb)] = ((va == vb) && sameL xs ys) := by
    rw [sameR, sameR, Bool.and_true, eqR_eq]
  clear hS hT hna hnb hma hmb
  have hbx := box_row w (.slice oa na ca) (.int .i64 va) 24
  have hz0 : (w.alloc (Obj.cells #[Value.slice oa na ca, Value.int .i64 va] 24)).heap.size = w.heap.size + 1 := Array.size_push _
  have hby := box_row (w.alloc (Obj.cells #[Value.slice oa na ca, Value.int .i64 va] 24)) (.slice ob nb cb) (.int .i64 vb) 24
  obtain ⟨W0, hW0⟩ : ∃ W0, (w.alloc (Obj.cells #[Value.slice oa na ca, Value.int .i64 va] 24)).alloc (Obj.cells #[Value.slice ob nb cb, Value.int .i64 vb] 24) = W0 := ⟨_, rfl⟩
  have hz1 : W0.heap.size = w.heap.size + 2 := by rw [← hW0]; exact (Array.size_push _).trans (by rw [hz0])
  have HB0 := Lib.hid (show Below w.heap.size w W0 by rw [← hW0]; exact ((Below.refl _ _).alloc (Nat.le_refl _) _).alloc (by omega) _)
  have HX := Lib.hid (show W0.heap[w.heap.size]? = some (.cells #[.slice oa na ca, .int .i64 va] 24 (0, 0)) by
    rw [← hW0]; exact (Below.heap_alloc _ _ _ (by omega)).trans hbx)
  have HY := Lib.hid (show W0.heap[w.heap.size + 1]? = some (.cells #[.slice ob nb cb, .int .i64 vb] 24 (0, 0)) by
    rw [← hW0]; rw [hz0] at hby; exact hby)
  have HW0 := Lib.hid hW0
  have HK := Lib.hid (fun (W : World) (hb : Below W0.heap.size W0 W) => And.intro (And.intro (box_two ((hb.block _ (by omega)).trans HX.out)) (box_two ((hb.block _ (by omega)).trans HY.out))) (show Below w.heap.size w W from HB0.out.trans (hb.mono HB0.out.size)))
  have HK2 := Lib.hid (fun (W : World) (hb : Below W0.heap.size W0 W) => And.intro ((hb.block _ (by omega)).trans HX.out) ((hb.block _ (by omega)).trans HY.out))
  clear hbx hby hW0
  cases hl1 : lightB xs with
  | false =>
    rw [hl1] at HL1
    clear hl1
    go_enter Try.func3, Try.ntmps3
    go_wp2_with fail
    rw [HW0.out]
    refine (HL1.out _ HB0.out).mono ?_
    rintro e w1 ⟨rfl, b1⟩
    have HB1 := Lib.hid b1
    clear b1
    go_wp2_with fail
    refine (HAL.out _).mono ?_
    rintro e w2 ⟨rfl, b2⟩
    have HB2 := Lib.hid (HK.out _ (HB1.out.trans (b2.mono HB1.out.size))).2
    clear b2
    go_wp2
    go_ret
    exact ⟨rfl, HB2.out⟩
  | true =>
  rw [hl1] at HL1
  clear hl1
  cases hl2 : lightB ys with
  | false =>
    rw [hl2] at HL2
    clear hl2
    go_enter Try.func3, Try.ntmps3
    go_wp2_with fail
    rw [HW0.out]
    refine (HL1.out _ HB0.out).mono ?_
    rintro e w1 ⟨rfl, b1⟩
    have HB1 := Lib.hid b1
    obtain ⟨⟨⟨c0, c1⟩, d0, d1⟩, hw1⟩ := HK.out _ b1
    clear b1
    go_wp2_with fail
    refine (HL2.out _ hw1).mono ?_
    rintro e w2 ⟨rfl, b2⟩
    have HB2 := Lib.hid (HB1.out.trans (b2.mono HB1.out.size))
    clear b2 c0 c1 d0 d1 hw1
    go_wp2_with fail
    refine (HAL.out _).mono ?_
    rintro e w3 ⟨rfl, b3⟩
    have HB3 := Lib.hid (HK.out _ (HB2.out.trans (b3.mono HB2.out.size))).2
    clear b3
    go_wp2
    go_ret
    exact ⟨rfl, HB3.out⟩
  | true =>
  rw [hl2] at HL2
  clear hl2
  go_enter Try.func3, Try.ntmps3
  go_wp2_with fail
  rw [HW0.out]
  refine (HL1.out _ HB0.out).mono ?_
  rintro e w1 ⟨rfl, b1⟩
  have HB1 := Lib.hid b1
  obtain ⟨⟨⟨c0, c1⟩, d0, d1⟩, hw1⟩ := HK.out _ b1
  clear b1
  go_wp2_with fail
  refine (HL2.out _ hw1).mono ?_
  rintro e w2 ⟨rfl, b2⟩
  have HB2 := Lib.hid (HB1.out.trans (b2.mono HB1.out.size))
  clear b2 c0 c1 d0 d1 hw1
  go_wp2_with fail
  refine (HAL.out _).mono ?_
  rintro e w3 ⟨rfl, b3⟩
  have HB3 := Lib.hid (HB2.out.trans (b3.mono HB2.out.size))
  clear b3
  obtain ⟨⟨⟨c0, c1⟩, d0, d1⟩, hw3⟩ := HK.out _ HB3.out
  go_wp2_with fail
  refine (HP1.out _ hw3).mono ?_
  rintro e w4 ⟨rfl, b4⟩
  have HB4 := Lib.hid (HB3.out.trans (b4.mono HB3.out.size))
  clear b4 c0 c1 d0 d1 hw3
  obtain ⟨⟨⟨c0, c1⟩, d0, d1⟩, hw4⟩ := HK.out _ HB4.out
  go_wp2_with fail
  refine (HP2.out _ hw4).mono ?_
  rintro e w5 ⟨rfl, b5⟩
  have HB5 := Lib.hid (HB4.out.trans (b5.mono HB4.out.size))
  clear b5 c0 c1 d0 d1 hw4
  obtain ⟨⟨⟨c0, c1⟩, d0, d1⟩, hw5⟩ := HK.out _ HB5.out
  have HW5 := Lib.hid hw5
  clear hw5
  have hpe : ∀ (xs : List Lab) (v : Int), okR xs v = false → putE xs v = 1 := fun xs v h => by unfold putE; rw [h]; rfl
  have hpo : ∀ (xs : List Lab) (v : Int), okR xs v = true → putE xs v = 0 := fun xs v h => by unfold putE; rw [h]; rfl
  cases hox : okR xs va with
  | false =>
    rw [hpe _ _ hox]
    clear hpe hpo hox HSR
    go_wp2
    go_ret
    exact ⟨rfl, HW5.out⟩
  | true =>
  cases hoy : okR ys vb with
  | false =>
    rw [hpo _ _ hox, hpe _ _ hoy]
    clear hpe hpo hox hoy HSR
    go_wp2
    go_ret
    exact ⟨rfl, HW5.out⟩
  | true =>
  rw [hpo _ _ hox, hpo _ _ hoy]
  have HPS := put_same hox hoy
  have HPB := put_begins hox hoy
  obtain ⟨s, hs⟩ : ∃ s, putS xs va = s := ⟨_, rfl⟩
  obtain ⟨t, ht⟩ : ∃ t, putS ys vb = t := ⟨_, rfl⟩
  have hss := putS_size xs va
  have hts := putS_size ys vb
  rw [hs] at hss HPS HPB ⊢
  rw [ht] at hts HPS HPB ⊢
  have hst : (s.toList == t.toList) = true → ¬ s.size < t.size := fun h => by
    rw [beq_iff_eq, toList_inj] at h; subst h; omega
  clear hpe hpo hox hoy hs ht
  cases hv : va == vb with
  | false =>
    rw [hv, Bool.false_and] at HPS HSR
    rw [HSR] at HRS
    clear hst HSR
    have hz5 := HB5.out.size
    have hA := HB5.out.alloc (by omega) (Obj.cells #[Value.slice oa na ca, Value.int .i64 va] 24)
    have hzA : (w5.alloc (Obj.cells #[Value.slice oa na ca, Value.int .i64 va] 24)).heap.size = w5.heap.size + 1 := Array.size_push _
    have hA2 := hA.alloc (by omega) (Obj.cells #[Value.slice ob nb cb, Value.int .i64 vb] 24)
    have hk := box_row w5 (.slice oa na ca) (.int .i64 va) 24
    have hj := box_row (w5.alloc (Obj.cells #[Value.slice oa na ca, Value.int .i64 va] 24)) (.slice ob nb cb) (.int .i64 vb) 24
    rw [hzA] at hj
    have hk2 := (Below.heap_alloc (w5.alloc (Obj.cells #[Value.slice oa na ca, Value.int .i64 va] 24)) (Obj.cells #[Value.slice ob nb cb, Value.int .i64 vb] 24) w5.heap.size (by omega)).trans hk
    have HC8 := Lib.hid (HRS.out _ w5.heap.size (w5.heap.size + 1) (HK.out _ hA2).2 hk2 hj)
    have HA2 := Lib.hid hA2
    obtain ⟨⟨e0, e1⟩, f0, f1⟩ := (HK.out _ hA).1
    clear hA hA2 hk hj hk2
    go_wp2_with fail
    refine HC8.out.mono ?_
    rintro e w8 ⟨rfl, b8⟩
    have HB8 := Lib.hid (HK.out _ (HA2.out.trans (b8.mono HA2.out.size))).2
    clear b8 e0 e1 f0 f1 HC8
    by_cases hlt : s.size < t.size
    · have hpb := HPB hlt
      have j1 : (s.size : Int) < t.size := by omega
      have j2 : (s.size : Int) ≤ t.size := by omega
      clear hlt HPB
      go_wp2
      go_ret
      exact ⟨rfl, HB8.out⟩
    · have j1 : (t.size : Int) ≤ s.size := by omega
      clear hlt HPB
      go_wp2
      go_ret
      exact ⟨rfl, HB8.out⟩
  | true =>
    cases hL : sameL xs ys with
    | false =>
      rw [hv, hL, Bool.true_and] at HPS HSR
      rw [HSR] at HRS
      rw [hL] at HSm
      clear hst HSR hL
      go_wp2_with fail
      refine (HSm.out _ HW5.out).mono ?_
      rintro e w6 ⟨rfl, b6⟩
      have HB6 := Lib.hid (HB5.out.trans (b6.mono HB5.out.size))
      clear b6 c0 c1 d0 d1
      obtain ⟨⟨⟨c0, c1⟩, d0, d1⟩, hw6⟩ := HK.out _ HB6.out
      clear hw6
      have hz5 := HB6.out.size
      have hA := HB6.out.alloc (by omega) (Obj.cells #[Value.slice oa na ca, Value.int .i64 va] 24)
      have hzA : (w6.alloc (Obj.cells #[Value.slice oa na ca, Value.int .i64 va] 24)).heap.size = w6.heap.size + 1 := Array.size_push _
      have hA2 := hA.alloc (by omega) (Obj.cells #[Value.slice ob nb cb, Value.int .i64 vb] 24)
      have hk := box_row w6 (.slice oa na ca) (.int .i64 va) 24
      have hj := box_row (w6.alloc (Obj.cells #[Value.slice oa na ca, Value.int .i64 va] 24)) (.slice ob nb cb) (.int .i64 vb) 24
      rw [hzA] at hj
      have hk2 := (Below.heap_alloc (w6.alloc (Obj.cells #[Value.slice oa na ca, Value.int .i64 va] 24)) (Obj.cells #[Value.slice ob nb cb, Value.int .i64 vb] 24) w6.heap.size (by omega)).trans hk
      have HC8 := Lib.hid (HRS.out _ w6.heap.size (w6.heap.size + 1) (HK.out _ hA2).2 hk2 hj)
      have HA2 := Lib.hid hA2
      obtain ⟨⟨e0, e1⟩, f0, f1⟩ := (HK.out _ hA).1
      clear hA hA2 hk hj hk2
      go_wp2_with fail
      refine HC8.out.mono ?_
      rintro e w8 ⟨rfl, b8⟩
      have HB8 := Lib.hid (HK.out _ (HA2.out.trans (b8.mono HA2.out.size))).2
      clear b8 e0 e1 f0 f1 HC8
      by_cases hlt : s.size < t.size
      · have hpb := HPB hlt
        have j1 : (s.size : Int) < t.size := by omega
        have j2 : (s.size : Int) ≤ t.size := by omega
        clear hlt HPB
        go_wp2
        go_ret
        exact ⟨rfl, HB8.out⟩
      · have j1 : (t.size : Int) ≤ s.size := by omega
        clear hlt HPB
        go_wp2
        go_ret
        exact ⟨rfl, HB8.out⟩
    | true =>
      rw [hv, hL, Bool.true_and] at HPS HSR
      rw [HSR] at HRS
      rw [hL] at HSm
      clear HSR hL
      go_wp2_with fail
      refine (HSm.out _ HW5.out).mono ?_
      rintro e w6 ⟨rfl, b6⟩
      have HB6 := Lib.hid (HB5.out.trans (b6.mono HB5.out.size))
      clear b6 c0 c1 d0 d1
      obtain ⟨⟨⟨c0, c1⟩, d0, d1⟩, hw6⟩ := HK.out _ HB6.out
      clear hw6
      have hz5 := HB6.out.size
      have hA := HB6.out.alloc (by omega) (Obj.cells #[Value.slice oa na ca, Value.int .i64 va] 24)
      have hzA : (w6.alloc (Obj.cells #[Value.slice oa na ca, Value.int .i64 va] 24)).heap.size = w6.heap.size + 1 := Array.size_push _
      have hA2 := hA.alloc (by omega) (Obj.cells #[Value.slice ob nb cb, Value.int .i64 vb] 24)
      have hk := box_row w6 (.slice oa na ca) (.int .i64 va) 24
      have hj := box_row (w6.alloc (Obj.cells #[Value.slice oa na ca, Value.int .i64 va] 24)) (.slice ob nb cb) (.int .i64 vb) 24
      rw [hzA] at hj
      have hk2 := (Below.heap_alloc (w6.alloc (Obj.cells #[Value.slice oa na ca, Value.int .i64 va] 24)) (Obj.cells #[Value.slice ob nb cb, Value.int .i64 vb] 24) w6.heap.size (by omega)).trans hk
      have HC8 := Lib.hid (HRS.out _ w6.heap.size (w6.heap.size + 1) (HK.out _ hA2).2 hk2 hj)
      have HA2 := Lib.hid hA2
      obtain ⟨⟨e0, e1⟩, f0, f1⟩ := (HK.out _ hA).1
      clear hA hA2 hk hj hk2
      go_wp2_with fail
      refine HC8.out.mono ?_
      rintro e w8 ⟨rfl, b8⟩
      have HB8 := Lib.hid (HK.out _ (HA2.out.trans (b8.mono HA2.out.size))).2
      clear b8 e0 e1 f0 f1 HC8
      have hlt := hst HPS
      have j1 : (t.size : Int) ≤ s.size := by omega
      clear hlt HPB hst
      go_wp2
      go_ret
      exact ⟨rfl, HB8.out⟩
end Go.Proofs.Ythjifpdiekoomaa.Row
