/- The law: pages of whatever size, one behind the other, are all rows. -/
import Derived.Test.YtldlfmeppcdbbaaRum
namespace Go.Proofs.Ytldlfmeppcdbbaa.Run
open Go.RowKit Go.Lib Go.Proofs.Ytldlfmeppcdbbaa.Crc Go.Proofs.Ytldlfmeppcdbbaa.Row Go.Proofs.Ytldlfmeppcdbbaa.Vec

/-- The cells of rows that are read. -/
theorem rows_cells {B b : Nat} {w : World} : ∀ (P : List Rw) (off : Nat), SeesG (ERow B) 2 w b off P → ∃ us : List (List Value), us.length = P.length ∧ (∀ (j : Nat) (x : Rw), P[j]? = some x → ∃ u, us[j]? = some u ∧ ERow B w u x) ∧ (∀ u ∈ us, u.length = 2 ∧ ∀ v ∈ u, v.oneCell' = true) ∧ ∀ (i : Nat) (v : Value), us.flatten[i]? = some v → w.cell? ⟨b, off + i, none⟩ = some v
  | [], _, _ => ⟨[], rfl, fun j x h => by simp at h, fun u h => by simp at h, fun i v h => by simp at h⟩
  | x :: P, off, h => by
    obtain ⟨u, h1, h2⟩ := h.at0 0 x rfl
    obtain ⟨us, i1, i2, i3, i4⟩ := rows_cells P (off + 2) ⟨h.low, fun j y hy => by
      obtain ⟨u, h1, h2⟩ := h.at0 (j + 1) y (by simpa using hy)
      exact ⟨u, h1, fun i v hv => by rw [← h2 i v hv]; congr 2; omega⟩⟩
    have hu : u.length = 2 := (frow (B := B)).wide _ _ _ h1
    refine ⟨u :: us, by rw [List.length_cons, i1, List.length_cons], fun j y hy => ?_, fun v hv => ?_, fun i v hv => ?_⟩
    · cases j with
      | zero => simp at hy; subst hy; exact ⟨u, rfl, h1⟩
      | succ j => exact i2 j y (by simpa using hy)
    · rcases List.mem_cons.1 hv with rfl | hv
      · exact ⟨hu, (frow (B := B)).cell _ _ _ h1⟩
      · exact i3 v hv
    · rw [List.flatten_cons] at hv
      by_cases hi : i < 2
      · rw [List.getElem?_append_left (by omega)] at hv
        rw [← h2 i v hv]; congr 2; omega
      · rw [List.getElem?_append_right (by omega), hu] at hv
        rw [← i4 (i - 2) v hv]; congr 2; omega
theorem add_off (b off j : Nat) : (⟨b, off, none⟩ : Addr).add j = ⟨b, off + j, none⟩ := by
  unfold Addr.add
  split
  · next h => subst h; rfl
  · rfl
theorem page_out (xs : List Rw) (hl : xs.length ≤ 2000) (n : Int) : pageF (runF xs) ((xs.length : Int) + 1) n = (1, []) := by
  unfold pageF
  rw [run_parts, count_run xs _ hl]
  simp only []
  rw [if_pos (by omega)]

set_option maxHeartbeats 16000000 in
set_option maxRecDepth 100000 in
theorem pages_any (o : Option Addr) (n c : Nat) (size : Int) (xs : List Rw) (w : World) (B : Nat) (hn : xs.length = n) (hS : RowsS w B o xs) :
    Calls Try.prog 4 #[.slice o n c, .int .i64 size] w fun e w' => e = .returned (.bool true) ∧ Below w.heap.size w w' := by
  obtain ⟨i0, hi, hz0, hz1, hz2⟩ := info_parts infoRow
  have HAL := Lib.hid (fun W => alive_any W)
  have HL := Lib.hid (lightR_any o n c xs w B hn hS)
  cases hl : lightR xs with
  | false =>
    rw [hl] at HL
    clear hl hn hS hi hz0 hz1 hz2
    go_enter Try.func4, Try.ntmps4
    go_wp2_with fail
    refine HL.out.mono ?_
    rintro e w1 ⟨rfl, b1⟩
    have HB1 := Lib.hid b1
    clear b1
    go_wp2_with fail
    refine (HAL.out _).mono ?_
    rintro e w2 ⟨rfl, b2⟩
    have HB2 := Lib.hid (HB1.out.trans (b2.mono HB1.out.size))
    clear b2
    go_wp2
    go_ret
    exact ⟨rfl, HB2.out⟩
  | true =>
  rw [hl] at HL
  by_cases hs1 : size < 1
  · clear hl hn hS hi hz0 hz1 hz2
    go_enter Try.func4, Try.ntmps4
    go_wp2_with fail
    refine HL.out.mono ?_
    rintro e w1 ⟨rfl, b1⟩
    have HB1 := Lib.hid b1
    clear b1
    go_wp2_with fail
    refine (HAL.out _).mono ?_
    rintro e w2 ⟨rfl, b2⟩
    have HB2 := Lib.hid (HB1.out.trans (b2.mono HB1.out.size))
    clear b2
    go_wp2
    go_ret
    exact ⟨rfl, HB2.out⟩
  by_cases hs2 : 100 < size
  · have hs3 : 1 ≤ size := by omega
    clear hl hn hS hi hz0 hz1 hz2 hs1
    go_enter Try.func4, Try.ntmps4
    go_wp2_with fail
    refine HL.out.mono ?_
    rintro e w1 ⟨rfl, b1⟩
    have HB1 := Lib.hid b1
    clear b1
    go_wp2_with fail
    refine (HAL.out _).mono ?_
    rintro e w2 ⟨rfl, b2⟩
    have HB2 := Lib.hid (HB1.out.trans (b2.mono HB1.out.size))
    clear b2
    go_wp2
    go_ret
    exact ⟨rfl, HB2.out⟩
  obtain ⟨z, rfl⟩ : ∃ z : Nat, size = z := ⟨size.toNat, by omega⟩
  have hz1' : (1 : Int) ≤ z := by omega
  have hz100 : (z : Int) ≤ 100 := by omega
  clear hs1 hs2
  obtain ⟨R, hR⟩ : ∃ R, vecT xs = R := ⟨_, rfl⟩
  obtain ⟨m, hm⟩ : ∃ m, R.length = m := ⟨_, rfl⟩
  have hRo : ∀ x ∈ R, okX x = true := by rw [← hR]; exact okX_vec xs
  have hm6 : m ≤ 60 := by rw [← hm, ← hR]; exact Nat.le_trans (vecT_len xs) (lightR_mk hl).1
  have HT := Lib.hid (fun (W : World) (hb : Below w.heap.size w W) => tidy_file o n c xs W B hn hl (hS.below frow hb) R hR m hm)
  have HM := Lib.hid hm
  have HRO := Lib.hid hRo
  clear hl hn hS hR hm hRo
  go_enter Try.func4, Try.ntmps4
  go_wp2_with fail
  refine HL.out.mono ?_
  rintro e w1 ⟨rfl, b1⟩
  have HB1 := Lib.hid b1
  clear b1
  go_wp2_with fail
  refine (HAL.out _).mono ?_
  rintro e w2 ⟨rfl, b2⟩
  have HB2 := Lib.hid (HB1.out.trans (b2.mono HB1.out.size))
  clear b2
  go_wp2_with fail
  refine (HT.out _ HB2.out).mono ?_
  rintro e w4 ⟨⟨oR, cR, us, rfl, hO, hc⟩, b4⟩
  have HB4 := Lib.hid (HB2.out.trans (b4.mono HB2.out.size))
  have HO4 := Lib.hid hO
  have HC := Lib.hid hc
  clear b4 hO hc
  go_wp2_with fail
  refine (make_own HO4.out HM.out (by omega) HC.out HRO.out).mono ?_
  rintro e w5 ⟨rfl, b5⟩
  have HB5 := Lib.hid (HB4.out.trans (b5.mono HB4.out.size))
  have HS5 := Lib.hid (own_rows (HO4.out.below frow b5))
  clear b5 HO4
  by_cases h1 : (runF R).length ≤ 60000
  case neg =>
    rw [makeV_no h1]
    have HD := Lib.hid (drun_any oR m cR R w5 0 HM.out hm6 HRO.out HS5.out)
    obtain ⟨s, hs⟩ : ∃ s : ByteArray, ⟨(runF R).toArray⟩ = s := ⟨_, rfl⟩
    rw [hs] at HD
    have hsl : (60000 : Int) < s.size := by rw [← hs, Crc.str_size]; omega
    clear hs h1
    go_wp2_with fail
    refine HD.out.mono ?_
    rintro e w6 ⟨rfl, b6⟩
    have HB6 := Lib.hid (HB5.out.trans (b6.mono HB5.out.size))
    clear b6
    go_wp2
    go_ret
    exact ⟨rfl, HB6.out⟩
  case pos =>
    rw [makeV_ok h1]
    obtain ⟨s, hs⟩ : ∃ s : ByteArray, ⟨(runF R).toArray⟩ = s := ⟨_, rfl⟩
    have hsd : s.data.toList = runF R := by rw [← hs, Crc.str_data]
    have hss : s.size ≤ 1000000 := by rw [Lib.size_eq, hsd]; omega
    rw [hs]
    have HSD := Lib.hid hsd
    have HP := Lib.hid (fun (a b : Int) (W : World) => page_any s a b W hss)
    have hz5 := HB5.out.size
    clear hs h1 hsd hss
    go_wp2
    go_loopw [7, 8, 9, 10] (fun v7 v8 _ _ wr => ∃ (k : Nat) (us : List (List Value)), v8 = .int .i64 (k : Int) ∧ k ≤ 160 ∧ Hid (OwnR wr w5.heap.size v7 us (R.take k)) ∧ Hid (Below w5.heap.size w5 wr)) (fun _ v8 _ _ _ => m - (Go.RowKit.intOf v8).toNat)
    case atStart => exact ⟨0, [], rfl, by omega, (show OwnR _ _ _ _ _ from OwnG.nil _ _), Below.refl _ _⟩
    case round =>
      obtain ⟨k, us2, rfl, hk, HO, HB⟩ := hrel
      obtain ⟨oA, cA, rfl, hSA, _⟩ := HO.out.sees frow
      obtain ⟨nA, hnA⟩ : ∃ nA, (R.take k).length = nA := ⟨_, rfl⟩
      have HNA2 := Lib.hid (show nA = min k m by rw [← hnA, List.length_take, HM.out])
      have hnA3 : nA ≤ 60 := by have := HNA2.out; omega
      rw [hnA] at HO ⊢
      have HNA := Lib.hid hnA
      have hzr := HB.out.size
      clear hSA hnA
      by_cases hkm : k < m
      · have j1 : (k : Int) < m := by omega
        obtain ⟨P, hP⟩ : ∃ P, (R.drop k).take z = P := ⟨_, rfl⟩
        obtain ⟨p, hp⟩ : ∃ p, P.length = p := ⟨_, rfl⟩
        have hpz : p = min z (m - k) := by rw [← hp, ← hP, List.length_take, List.length_drop, HM.out]
        have HPP := Lib.hid (show Calls Try.prog 9 #[.string s, .int .i64 k, .int .i64 z] wr fun e w' => (∃ b off c, e = .returned (.tuple #[.slice (some ⟨b, off, none⟩) p c, .int .i64 0]) ∧ SeesG (ERow 0) 2 w' b off P) ∧ Below wr.heap.size wr w' from by
          refine (HP.out k z wr).mono ?_
          rintro e w' ⟨h1, h2⟩
          rw [HSD.out, page_all R HRO.out (by rw [HM.out]; omega) k z (by omega) (by rw [HM.out]; omega) (by omega)] at h1
          obtain ⟨o2, c2, rfl, hS2⟩ := h1
          simp only [Int.toNat_natCast, hP, hp] at hS2 ⊢
          rcases hS2 with h | ⟨b, off, rfl, hs⟩
          · rw [h] at hp; simp at hp; omega
          · exact ⟨⟨b, off, c2, rfl, hs⟩, h2⟩)
        have HTK := Lib.hid (show R.take (k + z) = R.take k ++ P by rw [List.take_add, hP])
        have hp1 : 1 ≤ p := by omega
        have hp2 : p ≤ 60 := by omega
        have mn : ∀ (W : World) (ts : Array TypeId) (t : TypeId), (Builtin.min_ ts t #[.int .i64 (z : Int), .int .i64 ((m : Int) - k)]).run Try.prog W = .ok (.int .i64 (p : Int)) W := fun W ts t => by rw [run_min_int2]; congr 2; split <;> omega
        have HPL := Lib.hid hp
        clear hP hp hpz
        go_wp2_with fail
        refine HPP.out.mono ?_
        rintro e w6 ⟨⟨b, off, c2, rfl, hs6⟩, b6⟩
        have HB6 := Lib.hid (HB.out.trans (b6.mono HB.out.size))
        have HO6 := Lib.hid (HO.out.below frow b6)
        obtain ⟨us3, i1, i2, i3, i4⟩ := rows_cells P off hs6
        have HU := Lib.hid (And.intro i1 i2)
        have hus3 : us3.length = p := by rw [i1, HPL.out]
        have hnews : ∀ j u, us3.flatten[j]? = some u → w6.cell? ((⟨b, off, none⟩ : Addr).add j) = some u := fun j u h => by rw [add_off]; exact i4 j u h
        have HNW := Lib.hid hnews
        have h1c : ∀ u ∈ us3.flatten, u.oneCell' = true := fun u hu => by obtain ⟨q, hq, hu⟩ := List.mem_flatten.1 hu; exact (i3 q hq).2 u hu
        have hfl : us3.flatten.length = p * 2 := by rw [flat_lenG (fun u hu => (i3 u hu).1), hus3]
        have H1C := Lib.hid (And.intro h1c hfl)
        have hz6 := HB6.out.size
        have husl : us2.length = nA := by rw [HO6.out.len, HNA.out]
        have HOW := Lib.hid (show w6.ownsRow w5.heap.size 40 2 (.slice oA nA cA) us2.length us2.flatten from HO6.out.own)
        have HUS := Lib.hid hus3
        clear b6 hs6 i1 i2 i3 i4 hnews h1c hfl HPP hus3
        go_wp2_with (at_builtin; go_must (refine wpList_append_own _ rfl _ _ 23 rfl w5.heap.size 40 i0 (.agg #[.slice none 0 0, .int .i64 0]) 2 32 Try.underlying23 hi hz0 hz1 hz2 rfl (by decide) _ _ _ rfl HOW.out ⟨b, off, none⟩ p c2 us3.flatten rfl H1C.out.2 HNW.out H1C.out.1 (by unfold maxLen; omega) (by omega) hz6 ?_); intro v' w7 hown' hgrow7 hnil7)
        have HO7 := Lib.hid (show OwnR w7 w5.heap.size v' (us2 ++ us3) (R.take (k + z)) by
          rw [HTK.out]
          exact HO6.out.app frow (Nat.zero_le _) HU.out.1 (fun j x hx => by
            obtain ⟨u, h1, h2⟩ := HU.out.2 j x hx
            exact ⟨u, h1, h2⟩) (by rw [HUS.out]; exact hown') hgrow7)
        have HB7 := Lib.hid (Below.grown HB6.out hgrow7 hz6 (fun j hj => (HO6.out.own.lt j hj).1))
        clear hown' hgrow7 hnil7 HOW HO6
        go_wp2
        go_roundw
        case rel => exact ⟨k + z, _, by go_num, by omega, HO7, HB7⟩
        case measure => simp [Go.RowKit.intOf]; omega
      · have j1 : (m : Int) ≤ k := by omega
        have hnm : nA = m := by have := HNA2.out; omega
        clear HNA2
        subst hnm
        have HTR := Lib.hid (show R.take k = R from List.take_of_length_le (by rw [HM.out]; omega))
        have HP1 := Lib.hid (fun (W : World) => (show Calls Try.prog 9 #[.string s, .int .i64 nA, .int .i64 z] W fun e w' => (∃ o c, e = .returned (.tuple #[.slice o 0 c, .int .i64 0])) ∧ Below W.heap.size W w' from by
          refine (HP.out nA z W).mono ?_
          rintro e w' ⟨h1, h2⟩
          rw [HSD.out, page_all R HRO.out (by rw [HM.out]; omega) nA z (by omega) (by rw [HM.out]; omega) (by omega), Int.toNat_natCast, List.drop_eq_nil_of_le (by rw [HM.out]; omega), List.take_nil] at h1
          obtain ⟨o2, c2, rfl, _⟩ := h1
          exact ⟨⟨_, _, rfl⟩, h2⟩))
        have HP2 := Lib.hid (fun (W : World) => (show Calls Try.prog 9 #[.string s, .int .i64 ((nA : Int) + 1), .int .i64 z] W fun e w' => (∃ o c, e = .returned (.tuple #[.slice o 0 c, .int .i64 1])) ∧ Below W.heap.size W w' from by
          refine (HP.out ((nA : Int) + 1) z W).mono ?_
          rintro e w' ⟨h1, h2⟩
          have hpo := page_out R (by rw [HM.out]; omega) z
          rw [HM.out] at hpo
          rw [HSD.out, hpo] at h1
          obtain ⟨o2, c2, rfl, _⟩ := h1
          exact ⟨⟨_, _, rfl⟩, h2⟩))
        have HSa := Lib.hid (fun (W : World) (hb : Below w5.heap.size w5 W) (hO : OwnR W w5.heap.size (.slice oA nA cA) us2 (R.take k)) => (show Calls Try.prog 11 #[.slice oA nA cA, .slice oR nA cR] W fun e w' => e = .returned (.bool true) ∧ Below W.heap.size W w' from by
          rw [HTR.out] at hO
          have h := sameRows_any oA oR cA cR R R W (by rw [HM.out]; unfold maxLen; omega) (by rw [HM.out]; unfold maxLen; omega) 0 (own_rows hO) (HS5.out.below frow hb)
          rwa [HM.out, (sameR_iff R R).2 rfl] at h))
        go_wp2_with fail
        refine (HP1.out _).mono ?_
        rintro e w6 ⟨⟨o2, c2, rfl⟩, b6⟩
        have HB6 := Lib.hid (HB.out.trans (b6.mono HB.out.size))
        have HO6 := Lib.hid (HO.out.below frow b6)
        clear b6
        go_wp2_with fail
        refine (HP2.out _).mono ?_
        rintro e w7 ⟨⟨o3, c3, rfl⟩, b7⟩
        have HB7 := Lib.hid (HB6.out.trans (b7.mono HB6.out.size))
        have HO7 := Lib.hid (HO6.out.below frow b7)
        clear b7
        go_wp2_with fail
        refine (HSa.out _ HB7.out HO7.out).mono ?_
        rintro e w8 ⟨rfl, b8⟩
        have HB8 := Lib.hid (HB5.out.trans ((HB7.out.trans (b8.mono HB7.out.size)).mono HB5.out.size))
        clear b8
        go_wp2
        go_ret
        exact ⟨rfl, HB8.out⟩
end Go.Proofs.Ytldlfmeppcdbbaa.Run
