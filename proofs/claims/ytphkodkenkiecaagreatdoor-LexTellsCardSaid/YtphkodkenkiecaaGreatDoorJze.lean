/- A walk (the document's words): the first token. -/
import Derived.Test.YtphkodkenkiecaaGreatDoorJzd
namespace Go.Proofs.YtphkodkenkiecaaGreatDoor
open Go.RowKit

theorem uVal_some (t : List UInt8) : uVal' (some t) = .tuple #[.string ⟨t.toArray⟩, .bool true] := rfl
theorem uVal_none : uVal' none = .tuple #[.string ⟨#[]⟩, .bool false] := rfl
set_option maxHeartbeats 8000000 in
set_option maxRecDepth 100000 in
theorem dtoken_any (s : ByteArray) (hne : s.data.toList ≠ []) (w : World) (hs : s.size ≤ 100000) : Calls Tryz.prog 17 #[.string s] w fun e w' => e = .returned (tokV (firstL s.data.toList)) ∧ Below w.heap.size w w' := by
  have HZ := Lib.hid (show s.data.toList.length = s.size by rw [← Lib.size_eq])
  have HF := Lib.hid (fun W => dfirst_any s hne W)
  have CK := Lib.hid (fun r W => rkind_any r W)
  have HB0 := Lib.hid (show Below w.heap.size w (w.alloc (.cells #[.int .i64 0, .int .i64 0, .string ⟨#[]⟩] 45)) from (Below.refl _ _).alloc (Nat.le_refl _) _)
  have hs2 : (s.size : Int) ≤ 100000 := by omega
  obtain ⟨r, hr⟩ : ∃ r, rune s.data.toList = r := ⟨_, rfl⟩
  rw [hr] at HF
  have hcl := chainL_le s.data.toList
  rw [HZ.out] at hcl
  by_cases k1 : kindZ r = 1
  · have hf : firstL s.data.toList = if runesL s.data.toList ≤ 30 then some (1, s.data.toList.take (chainL s.data.toList), chainL s.data.toList) else none := by
      unfold firstL; rw [hr, if_pos k1, name_chain _ hne (by rw [hr]; exact k1)]; simp
    have HW := Lib.hid (fun W => dword_any s W hs)
    have HX := Lib.hid (show (⟨(s.data.toList.take (chainL s.data.toList)).toArray⟩ : ByteArray) = s.extract 0 (chainL s.data.toList) by rw [← ext_take, str_of])
    have hrl := runesL_le s.data.toList
    generalize runesL s.data.toList = m at *
    generalize chainL s.data.toList = n at *
    have hn2 : (n : Int) ≤ s.size := by omega
    by_cases hm : m ≤ 30
    · rw [if_pos hm] at hf
      have HR := Lib.hid hf
      have q : (m : Int) ≤ 30 := by omega
      clear hf hr hne hcl hs hrl hm
      go_enter Tryz.func17, Tryz.ntmps17
      go_wp2_with fail
      refine (HF.out _).mono ?_
      rintro e w1 ⟨rfl, b1⟩
      obtain ⟨hc1, hf1⟩ := kcell b1
      have hz1 := b1.size
      simp at hz1
      have HB := Lib.hid (HB0.out.trans (b1.mono (by simp)))
      have hlt1 : w.heap.size < w1.heap.size := by omega
      clear b1
      go_wp2_with fail
      refine (CK.out _ _).mono ?_
      rintro e w1' ⟨rfl, rfl⟩
      go_wp2_with fail
      refine (HW.out _).mono ?_
      rintro e w2 ⟨rfl, b2⟩
      obtain ⟨hc2, hf2⟩ := kcell b2
      have hz2 := b2.size
      have HB2 := Lib.hid (HB.out.trans (b2.mono (by omega)))
      have hlt2 : w.heap.size < w2.heap.size := by omega
      clear b2
      go_wp2
      exact bodyPost_ret (v := .tuple #[.agg #[.int .i64 1, .int .i64 0, .string (s.extract 0 n)], .int .i64 n]) (by simp [results, Tryz.results17, go_sem, hc1, hc2, hlt1]) rfl ⟨by rw [HR.out]; unfold tokV; dsimp only; rw [HX.out]; rfl, ((HB2.out.setCell (Nat.le_refl _) _).setCell (Nat.le_refl _) _).setCell (Nat.le_refl _) _⟩
    · rw [if_neg hm] at hf
      have HR := Lib.hid hf
      have q : (30 : Int) < m := by omega
      clear hf hr hne hcl hs hrl hm
      go_enter Tryz.func17, Tryz.ntmps17
      go_wp2_with fail
      refine (HF.out _).mono ?_
      rintro e w1 ⟨rfl, b1⟩
      obtain ⟨hc1, hf1⟩ := kcell b1
      have hz1 := b1.size
      simp at hz1
      have HB := Lib.hid (HB0.out.trans (b1.mono (by simp)))
      have hlt1 : w.heap.size < w1.heap.size := by omega
      clear b1
      go_wp2_with fail
      refine (CK.out _ _).mono ?_
      rintro e w1' ⟨rfl, rfl⟩
      go_wp2_with fail
      refine (HW.out _).mono ?_
      rintro e w2 ⟨rfl, b2⟩
      obtain ⟨hc2, hf2⟩ := kcell b2
      have hz2 := b2.size
      have HB2 := Lib.hid (HB.out.trans (b2.mono (by omega)))
      have hlt2 : w.heap.size < w2.heap.size := by omega
      clear b2
      go_wp2
      exact bodyPost_ret (v := .tuple #[.agg #[.int .i64 0, .int .i64 0, .string ⟨#[]⟩], .int .i64 0]) (by simp [results, Tryz.results17, go_sem, hc1, hc2, hlt1]) rfl ⟨by rw [HR.out]; rfl, ((HB2.out.setCell (Nat.le_refl _) _).setCell (Nat.le_refl _) _).setCell (Nat.le_refl _) _⟩
  · by_cases k2 : kindZ r = 2
    · have hf : firstL s.data.toList = numR s.data.toList := by unfold firstL; rw [hr, if_neg k1, if_pos k2, numR_eq]
      have HW := Lib.hid (fun W => dnumber_any s W hs)
      have HR := Lib.hid hf
      generalize numR s.data.toList = o at *
      obtain ⟨k, t, m, ho⟩ : ∃ k t m, tokV o = .tuple #[.agg #[.int .i64 (k : Int), .int .i64 0, .string t], .int .i64 (m : Int)] := by cases o <;> exact ⟨_, _, _, rfl⟩
      rw [ho] at HW
      have HO := Lib.hid ho
      clear hf hr hne hcl hs ho k1
      go_enter Tryz.func17, Tryz.ntmps17
      go_wp2_with fail
      refine (HF.out _).mono ?_
      rintro e w1 ⟨rfl, b1⟩
      obtain ⟨hc1, hf1⟩ := kcell b1
      have hz1 := b1.size
      simp at hz1
      have HB := Lib.hid (HB0.out.trans (b1.mono (by simp)))
      have hlt1 : w.heap.size < w1.heap.size := by omega
      clear b1
      go_wp2_with fail
      refine (CK.out _ _).mono ?_
      rintro e w1' ⟨rfl, rfl⟩
      go_wp2_with fail
      refine (HW.out _).mono ?_
      rintro e w2 ⟨rfl, b2⟩
      obtain ⟨hc2, hf2⟩ := kcell b2
      have hz2 := b2.size
      have HB2 := Lib.hid (HB.out.trans (b2.mono (by omega)))
      have hlt2 : w.heap.size < w2.heap.size := by omega
      clear b2
      go_wp2
      exact bodyPost_ret (v := .tuple #[.agg #[.int .i64 (k : Int), .int .i64 0, .string t], .int .i64 (m : Int)]) (by simp [results, Tryz.results17, go_sem, hc1, hc2, hlt1]) rfl ⟨by rw [HR.out, HO.out], ((HB2.out.setCell (Nat.le_refl _) _).setCell (Nat.le_refl _) _).setCell (Nat.le_refl _) _⟩
    · by_cases k3 : r = 34
      · subst k3
        have hcq := quote_first hne hr
        have hf : firstL s.data.toList = match unquoteL (s.data.toList.take (closeL s.data.toList)) with | some t => some (3, t, closeL s.data.toList) | none => none := by
          unfold firstL; rw [hr, if_neg k1, if_neg k2, if_pos rfl]
          cases unquoteL (s.data.toList.take (closeL s.data.toList)) <;> rfl
        have HR := Lib.hid hf
        have HQ := Lib.hid hcq
        have k4 : kindZ 34 = 4 := by decide
        have HP := Lib.hid (show 0 < s.size by rw [← HZ.out]; exact List.length_pos_iff.2 hne)
        have HU := Lib.hid (fun n W => unqR_any (s.extract 0 n) (by rw [ByteArray.size_extract]; omega) W)
        clear hf hr hne hcl hs k1 k2 hcq
        go_enter Tryz.func17, Tryz.ntmps17
        go_wp2_with fail
        refine (HF.out _).mono ?_
        rintro e w1 ⟨rfl, b1⟩
        obtain ⟨hc1, hf1⟩ := kcell b1
        have hz1 := b1.size
        simp at hz1
        have HB := Lib.hid (HB0.out.trans (b1.mono (by simp)))
        have hlt1 : w.heap.size < w1.heap.size := by omega
        clear b1
        go_wp2_with fail
        refine (CK.out _ _).mono ?_
        rintro e w1' ⟨rfl, rfl⟩
        go_wp2
        go_loop [7] (fun v7 => ∃ i : Nat, v7 = .int .i64 i ∧ 1 ≤ i ∧ i ≤ s.size + 1 ∧ Hid (closeGo i false (s.data.toList.drop i) = closeL s.data.toList)) (fun v7 => s.size + 1 - (intOf v7).toNat)
        case atStart => exact ⟨1, rfl, Nat.le_refl _, by omega, HQ.out.symm⟩
        case round =>
          obtain ⟨i, rfl, hi1, hi2, H⟩ := hrel
          have q0 : (1 : Int) ≤ i := by omega
          by_cases hlt : i < s.size
          · have q1 : (i : Int) < s.size := by omega
            by_cases h92 : s[i].toNat = 92
            · have t1 : ((s[i].toNat : Int) == 92) = true := by simp; omega
              have H2 := Lib.hid ((close_slash hlt h92).symm.trans H.out)
              clear H h92
              go_wp2
              go_round
              case rel => exact ⟨i + 2, by go_num, by omega, by omega, H2⟩
              case measure => simp [intOf]; omega
            · have t1 : ((s[i].toNat : Int) == 92) = false := by simp; omega
              by_cases h34 : s[i].toNat = 34
              · have t2 : ((s[i].toNat : Int) == 34) = true := by simp; omega
                have H2 := Lib.hid ((close_quot hlt (by omega) h34).symm.trans H.out)
                have HU2 := Lib.hid (fun W => HU.out (i + 1) W)
                rw [ext_take] at HU2
                have hR := HR.out
                rw [← H2.out] at hR
                clear H h92 h34 HR HU
                cases hu : unquoteL (s.data.toList.take (i + 1)) with
                | none =>
                  rw [hu, uVal_none] at HU2
                  rw [hu] at hR
                  have HR := Lib.hid hR
                  clear hR hu
                  go_wp2_with fail
                  refine (HU2.out _).mono ?_
                  rintro e w2 ⟨rfl, b2⟩
                  obtain ⟨hc2, hf2⟩ := kcell b2
                  have hz2 := b2.size
                  have HB2 := Lib.hid (HB.out.trans (b2.mono (by omega)))
                  have hlt2 : w.heap.size < w2.heap.size := by omega
                  clear b2
                  go_wp2
                  exact bodyPost_ret (v := .tuple #[.agg #[.int .i64 0, .int .i64 0, .string ⟨#[]⟩], .int .i64 0]) (by simp [results, Tryz.results17, go_sem, hc1, hc2, hlt1]) rfl ⟨by rw [HR.out]; rfl, ((HB2.out.setCell (Nat.le_refl _) _).setCell (Nat.le_refl _) _).setCell (Nat.le_refl _) _⟩
                | some t =>
                  rw [hu, uVal_some] at HU2
                  rw [hu] at hR
                  have HR := Lib.hid hR
                  clear hR hu
                  go_wp2_with fail
                  refine (HU2.out _).mono ?_
                  rintro e w2 ⟨rfl, b2⟩
                  obtain ⟨hc2, hf2⟩ := kcell b2
                  have hz2 := b2.size
                  have HB2 := Lib.hid (HB.out.trans (b2.mono (by omega)))
                  have hlt2 : w.heap.size < w2.heap.size := by omega
                  clear b2
                  go_wp2
                  exact bodyPost_ret (v := .tuple #[.agg #[.int .i64 3, .int .i64 0, .string ⟨t.toArray⟩], .int .i64 (i + 1)]) (by simp [results, Tryz.results17, go_sem, hc1, hc2, hlt1]) rfl ⟨by rw [HR.out]; rfl, ((HB2.out.setCell (Nat.le_refl _) _).setCell (Nat.le_refl _) _).setCell (Nat.le_refl _) _⟩
              · have t2 : ((s[i].toNat : Int) == 34) = false := by simp; omega
                have H2 := Lib.hid ((close_else hlt h92 h34).symm.trans H.out)
                clear H h92 h34
                go_wp2
                go_round
                case rel => exact ⟨i + 1, by go_num, by omega, by omega, H2⟩
                case measure => simp [intOf]; omega
          · have q1 : (s.size : Int) ≤ i := by omega
            have H2 := Lib.hid (show 0 = closeL s.data.toList by rw [← H.out, drop_end hlt]; rfl)
            have hR := HR.out
            rw [← H2.out, List.take_zero, unquote_nil] at hR
            have HR2 := Lib.hid hR
            clear H hR HR
            go_wp2
            exact bodyPost_ret (v := .tuple #[.agg #[.int .i64 0, .int .i64 0, .string ⟨#[]⟩], .int .i64 0]) (by simp [results, Tryz.results17, go_sem, hc1]) rfl ⟨by rw [HR2.out]; rfl, ((HB.out.setCell (Nat.le_refl _) _).setCell (Nat.le_refl _) _).setCell (Nat.le_refl _) _⟩
      · have hf : firstL s.data.toList = signL s.data.toList := by unfold firstL; rw [hr, if_neg k1, if_neg k2, if_neg k3]
        have HS := Lib.hid ((signUp_all s.data.toList).trans hf.symm)
        rw [HZ.out] at HS
        have k4 : (kindZ r == 1) = false := by simp [k1]
        have k5 : (kindZ r == 2) = false := by simp [k2]
        have k6 : (r == 34) = false := by simp [k3]
        obtain ⟨m, hm, hm2, hms⟩ : ∃ m, min 2 s.size = m ∧ m ≤ 2 ∧ m ≤ s.size := ⟨_, rfl, by omega, by omega⟩
        rw [hm] at HS
        have mn : ∀ W ts t, (Builtin.min_ ts t #[.int .i64 2, .int .i64 s.size]).run Tryz.prog W = .ok (.int .i64 (m : Nat)) W := by
          intro W ts t
          rw [run_min_int2]
          congr 3
          omega
        clear hm hf hr hne hcl hs k1 k2 k3
        go_enter Tryz.func17, Tryz.ntmps17
        go_wp2_with fail
        refine (HF.out _).mono ?_
        rintro e w1 ⟨rfl, b1⟩
        obtain ⟨hc1, hf1⟩ := kcell b1
        have hz1 := b1.size
        simp at hz1
        have HB := Lib.hid (HB0.out.trans (b1.mono (by simp)))
        have hlt1 : w.heap.size < w1.heap.size := by omega
        clear b1
        go_wp2_with fail
        refine (CK.out _ _).mono ?_
        rintro e w1' ⟨rfl, rfl⟩
        go_wp2
        go_loop [10] (fun v => ∃ n : Nat, v = .int .i64 n ∧ n ≤ 2 ∧ n ≤ s.size ∧ Hid (signUp s.data.toList n = firstL s.data.toList)) (fun v => (intOf v).toNat)
        case atStart => exact ⟨m, rfl, hm2, hms, HS⟩
        case round =>
          obtain ⟨n, rfl, hn2, hns, H⟩ := hrel
          by_cases h0 : 0 < n
          · obtain ⟨k, rfl⟩ : ∃ k, n = k + 1 := ⟨n - 1, by omega⟩
            have i1 : (k : Int) + 1 ≤ s.size := by omega
            cases hb : signB (s.data.toList.take (k + 1)) with
            | true =>
              have HI := Lib.hid (fun W => (dsign_is (s.extract 0 (k + 1)) W).mono (R' := fun e w' => e = .returned (.bool true) ∧ W = w') (fun e w' ⟨h1, h2⟩ => ⟨by rw [h1, ext_take, hb], h2⟩))
              have H2 := Lib.hid (show firstL s.data.toList = some (5, s.data.toList.take (k + 1), k + 1) by rw [← H.out]; unfold signUp; rw [if_pos hb])
              have HX := Lib.hid (show (⟨(s.data.toList.take (k + 1)).toArray⟩ : ByteArray) = s.extract 0 (k + 1) by rw [← ext_take, str_of])
              clear H hb
              go_wp2_with fail
              refine (HI.out _).mono ?_
              rintro e w2 ⟨rfl, rfl⟩
              go_wp2
              exact bodyPost_ret (v := .tuple #[.agg #[.int .i64 5, .int .i64 0, .string (s.extract 0 (k + 1))], .int .i64 (k + 1)]) (by simp [results, Tryz.results17, go_sem, hc1]) rfl ⟨by rw [H2.out]; unfold tokV; dsimp only; rw [HX.out]; rfl, ((HB.out.setCell (Nat.le_refl _) _).setCell (Nat.le_refl _) _).setCell (Nat.le_refl _) _⟩
            | false =>
              have HI := Lib.hid (fun W => (dsign_is (s.extract 0 (k + 1)) W).mono (R' := fun e w' => e = .returned (.bool false) ∧ W = w') (fun e w' ⟨h1, h2⟩ => ⟨by rw [h1, ext_take, hb], h2⟩))
              have H2 := Lib.hid (show signUp s.data.toList k = firstL s.data.toList by rw [← H.out]; rw [signUp, hb]; rfl)
              clear H hb
              go_wp2_with fail
              refine (HI.out _).mono ?_
              rintro e w2 ⟨rfl, rfl⟩
              go_wp2
              go_round
              case rel => exact ⟨k, by go_num, by omega, by omega, H2⟩
              case measure => simp [intOf]
          · obtain rfl : n = 0 := by omega
            have H2 := Lib.hid (show none = firstL s.data.toList by rw [← H.out]; rfl)
            clear H
            go_wp2
            exact bodyPost_ret (v := .tuple #[.agg #[.int .i64 0, .int .i64 0, .string ⟨#[]⟩], .int .i64 0]) (by simp [results, Tryz.results17, go_sem, hc1]) rfl ⟨by rw [← H2.out]; rfl, ((HB.out.setCell (Nat.le_refl _) _).setCell (Nat.le_refl _) _).setCell (Nat.le_refl _) _⟩
end Go.Proofs.YtphkodkenkiecaaGreatDoor
