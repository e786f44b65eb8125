/- The walk of the statement on patterns that are too long. -/
import Derived.Test.YtfpdhmecomgbdaaPu
namespace Go.Proofs.Ytfpdhmecomgbdaa
open Go.RowKit

/-- The three outcomes of Compile. -/
theorem comp_cases (S : ByteArray) (W : World) (hs : S.size ≤ 1000000) :
    (40 < (spell S.data.toList).length ∧ Calls Try.prog 12 #[.string S] W fun e w' => e = .returned (.tuple #[.pointer none, .int .i64 1]) ∧ Below W.heap.size W w') ∨
    (¬ 40 < (spell S.data.toList).length ∧ Calls Try.prog 12 #[.string S] W fun e w' => e = .returned (.tuple #[.pointer none, .int .i64 2]) ∧ Below W.heap.size W w') ∨
    (¬ 40 < (spell S.data.toList).length ∧ ∃ T, Calls Try.prog 12 #[.string S] W (Comp W S T)) := by
  by_cases h : 40 < (spell S.data.toList).length
  · exact .inl ⟨h, compile_long S W hs h⟩
  · cases hr : readP (spell S.data.toList) with
    | none => exact .inr (.inl ⟨h, compile_form S W hs h hr⟩)
    | some x => exact .inr (.inr ⟨h, _, compile_ok S x W hs h hr⟩)

set_option maxHeartbeats 8000000 in
set_option maxRecDepth 100000 in
theorem long_any (p : ByteArray) (n : Int) (w : World) :
    Calls Try.prog 9 #[.string p, .int .i64 n] w fun e w' => e = .returned (.bool true) ∧ Below w.heap.size w w' := by
  have HAL := Lib.hid (fun W => alive_any W)
  by_cases h0 : p.size = 0
  · have t0 : ((p.size : Int) == 0) = true := by simp [h0]
    clear h0
    go_enter Try.func9, Try.ntmps9
    go_wp2_with fail
    refine (HAL.out _).mono ?_
    rintro e w1 ⟨rfl, b1⟩
    go_wp2
    go_ret
    exact ⟨rfl, b1⟩
  have t0 : ((p.size : Int) == 0) = false := beq_eq_false_iff_ne.2 (by omega)
  by_cases h1 : 20 < p.size
  · have t1 : decide ((20 : Int) < p.size) = true := by simp; omega
    have i1 : (20 : Int) < p.size := by omega
    clear h0 h1
    go_enter Try.func9, Try.ntmps9
    go_wp2_with fail
    refine (HAL.out _).mono ?_
    rintro e w1 ⟨rfl, b1⟩
    go_wp2
    go_ret
    exact ⟨rfl, b1⟩
  have t1 : decide ((20 : Int) < p.size) = false := by simp; omega
  have i1 : (p.size : Int) ≤ 20 := by omega
  by_cases h2 : n < 1
  · have t2 : decide (n < 1) = true := by simpa using h2
    clear h0 h1
    go_enter Try.func9, Try.ntmps9
    go_wp2_with fail
    refine (HAL.out _).mono ?_
    rintro e w1 ⟨rfl, b1⟩
    go_wp2
    go_ret
    exact ⟨rfl, b1⟩
  have t2 : decide (n < 1) = false := by simpa using h2
  by_cases h3 : 60 < n
  · have t3 : decide (60 < n) = true := by simpa using h3
    clear h0 h1
    go_enter Try.func9, Try.ntmps9
    go_wp2_with fail
    refine (HAL.out _).mono ?_
    rintro e w1 ⟨rfl, b1⟩
    go_wp2
    go_ret
    exact ⟨rfl, b1⟩
  have t3 : decide (60 < n) = false := by simpa using h3
  have i3 : n ≤ 60 := by omega
  have i2 : 1 ≤ n := by omega
  have hp20 : p.size ≤ 20 := by omega
  clear h0 h1 h2 h3
  go_enter Try.func9, Try.ntmps9
  go_wp2_with fail
  refine (HAL.out _).mono ?_
  rintro e w1 ⟨rfl, b1⟩
  have HB1 := Lib.hid b1
  clear b1
  go_wp2_with fail
  go_loopw [5, 6] (fun v5 v6 wr => ∃ (i : Nat) (S : ByteArray), v5 = .string S ∧ v6 = .int .i64 i ∧ (i : Int) ≤ n ∧ S.size ≤ i * 20 ∧ Hid (Below w.heap.size w wr)) (fun _ v6 _ => n.toNat - (intOf v6).toNat)
  case atStart => exact ⟨0, ByteArray.empty, rfl, rfl, by omega, by simp, HB1.out⟩
  case round =>
    obtain ⟨i, S, rfl, rfl, hi, hS, HB⟩ := hrel
    by_cases hin : (i : Int) < n
    · go_wp2_with fail
      go_roundw
      case rel => exact ⟨i + 1, S ++ p, rfl, by go_num, by omega, by rw [ByteArray.size_append]; omega, HB⟩
      case measure => simp [intOf]; omega
    · have hS2 : S.size ≤ 1200 := by omega
      have HSP := Lib.hid (fun W => spell_any S W (by omega))
      have HCM := Lib.hid (comp_cases S wr (by omega))
      obtain ⟨K, hK⟩ : ∃ K, (spell S.data.toList).length = K := ⟨_, rfl⟩
      have hKs : K ≤ 1200 := by
        rw [← hK]
        have h1 : (spell S.data.toList).length ≤ S.data.toList.length := by unfold spell; rw [List.length_map]; exact sufs_len _
        rw [← Lib.size_eq] at h1
        omega
      have HK := Lib.hid hK
      have hSo := Lib.hid (fun (W : World) => (HSP.out W).mono fun e w' q => (show (∃ o c, e = .returned (.slice o K c)) ∧ Below W.heap.size W w' from by
        obtain ⟨⟨v, he, hown⟩, hb⟩ := q
        obtain ⟨o, c, rfl⟩ := own_shape hown
        exact ⟨⟨o, c, by rw [he, HK.out]⟩, hb⟩))
      clear hK HSP
      rcases HCM.out with ⟨h40, hc⟩ | ⟨h40, hc⟩ | ⟨h40, T, hc⟩
      · rw [HK.out] at h40
        have k1 : (40 : Int) < K := by omega
        have HC := Lib.hid hc
        clear hc h40
        go_wp2_with fail
        refine HC.out.mono ?_
        rintro e w2 ⟨rfl, b2⟩
        have HB2 := Lib.hid (HB.out.trans (b2.mono HB.out.size))
        clear b2
        go_wp2_with fail
        refine (hSo.out w2).mono ?_
        rintro e w3 ⟨⟨o, c, rfl⟩, b3⟩
        have HB3 := Lib.hid (HB2.out.trans (b3.mono HB2.out.size))
        clear b3
        go_wp2
        go_ret
        exact ⟨rfl, HB3.out⟩
      · rw [HK.out] at h40
        have k1 : (K : Int) ≤ 40 := by omega
        have HC := Lib.hid hc
        clear hc h40
        go_wp2_with fail
        refine HC.out.mono ?_
        rintro e w2 ⟨rfl, b2⟩
        have HB2 := Lib.hid (HB.out.trans (b2.mono HB.out.size))
        clear b2
        go_wp2_with fail
        refine (hSo.out w2).mono ?_
        rintro e w3 ⟨⟨o, c, rfl⟩, b3⟩
        have HB3 := Lib.hid (HB2.out.trans (b3.mono HB2.out.size))
        clear b3
        go_wp2
        go_ret
        exact ⟨ret_bool (by simp; omega), HB3.out⟩
      · rw [HK.out] at h40
        have k1 : (K : Int) ≤ 40 := by omega
        have HC := Lib.hid hc
        clear hc h40
        go_wp2_with fail
        refine HC.out.mono ?_
        rintro e w2 ⟨bp, rfl, _, b2⟩
        have HB2 := Lib.hid (HB.out.trans (b2.mono HB.out.size))
        clear b2
        go_wp2_with fail
        refine (hSo.out w2).mono ?_
        rintro e w3 ⟨⟨o, c, rfl⟩, b3⟩
        have HB3 := Lib.hid (HB2.out.trans (b3.mono HB2.out.size))
        clear b3
        go_wp2
        go_ret
        exact ⟨ret_bool (by simp; omega), HB3.out⟩
end Go.Proofs.Ytfpdhmecomgbdaa
