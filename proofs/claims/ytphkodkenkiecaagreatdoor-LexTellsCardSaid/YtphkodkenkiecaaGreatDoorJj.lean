/- Walks (lex): a token that begins with a digit; the first token. -/
import Derived.Test.YtphkodkenkiecaaGreatDoorJi
import Derived.IntWalk
namespace Go.Proofs.YtphkodkenkiecaaGreatDoor
open Go.RowKit

theorem secs_le (l : List UInt8) : secsL l ≤ 3600 := by unfold secsL; repeat' split
                                                        all_goals omega
theorem take_dig (l : List UInt8) : ∀ c ∈ l.take (digitsL l), digB c = true := by
  intro c hc
  unfold digitsL at hc
  rw [← List.prefix_iff_eq_take.1 (List.takeWhile_prefix _)] at hc
  exact List.all_eq_true.1 List.all_takeWhile c hc

set_option maxHeartbeats 2000000 in
set_option maxRecDepth 100000 in
theorem number_any (s : ByteArray) (w : World) (h : Env w) (hs : s.size ≤ 274877906944) (hd : 1 ≤ digitsL s.data.toList) : Calls Tryz.prog 60 #[.string s] w fun e w' => e = .returned (tokV (numL s.data.toList)) ∧ Below w.heap.size w w' := by
  have hz : s.data.toList.length = s.size := by rw [← Lib.size_eq]
  have hdl := digitsL_le s.data.toList
  have HN := Lib.hid (fun W => digits_any s W (by unfold maxLen; omega))
  have HSec := Lib.hid (fun W => seconds_any (s.extract (digitsL s.data.toList) s.size) W)
  have HV := Lib.hid (fun W => value_any (s.extract 0 (digitsL s.data.toList)) (by rw [ext_take]; intro h0; have := congrArg List.length h0; rw [List.length_take, List.length_nil] at this; omega) (by rw [ext_take]; exact take_dig _) (by rw [ByteArray.size_extract]; unfold maxLen; omega) W)
  have HI := Lib.hid (fun (p : Nat) W (hp : p ≤ 9223372036854775807) (hb : Below w.heap.size w W) => itoa_any p hp W (h.below hb))
  rw [ext_take] at HV
  rw [ext_drop] at HSec
  have hk := secs_le (s.data.toList.drop (digitsL s.data.toList))
  unfold numL
  rw [hz]
  have hlen : (s.data.toList.take (digitsL s.data.toList)).length = digitsL s.data.toList := by rw [List.length_take]; omega
  unfold valV at HV
  rw [hlen] at HV
  clear hlen h hd
  generalize digitsL s.data.toList = n at *
  generalize valL (s.data.toList.take n) = v at *
  generalize secsL (s.data.toList.drop n) = k at *
  have hs2 : (s.size : Int) ≤ 274877906944 := by omega
  have hns : (n : Int) ≤ s.size := by omega
  clear hs hz hdl
  have B0 : Below w.heap.size w (w.alloc (.cells #[.int .i64 0, .int .i64 0, .string ⟨#[]⟩] 45)) := (Below.refl _ _).alloc (Nat.le_refl _) _
  by_cases hg : 13 < n ∨ 1000000000000 < v
  · rw [if_pos hg] at HV
    rw [if_pos hg]
    clear hg B0
    go_enter Tryz.func60, Tryz.ntmps60
    go_wp2_with fail
    refine (HN.out _).mono ?_
    rintro e w1 ⟨rfl, b1⟩
    obtain ⟨hc1, hf1⟩ := kcell b1
    have hz1 := b1.size
    simp at hz1
    have HB := Lib.hid (((Below.refl _ _).alloc (Nat.le_refl _) _).trans (b1.mono (by simp)))
    have hlt : w.heap.size < w1.heap.size := by omega
    clear b1
    go_wp2_with fail
    refine (HV.out _).mono ?_
    rintro e w2 ⟨rfl, b2⟩
    obtain ⟨hc2, hf2⟩ := kcell b2
    have hz2 := b2.size
    have HB2 := Lib.hid (HB.out.trans (b2.mono (by omega)))
    clear b2
    go_wp2
    exact bodyPost_ret (v := .tuple #[.agg #[.int .i64 0, .int .i64 0, .string ⟨#[]⟩], .int .i64 0]) (by simp [results, Tryz.results60, go_sem, hc1, hc2, hlt]) rfl ⟨rfl, ((HB2.out.setCell (Nat.le_refl _) _).setCell (Nat.le_refl _) _).setCell (Nat.le_refl _) _⟩
  · rw [if_neg hg] at HV
    rw [if_neg hg]
    have hv : (v : Int) ≤ 1000000000000 := by omega
    have hk2 : (k : Int) ≤ 3600 := by omega
    clear hg
    by_cases hn : n = s.size
    · rw [if_pos hn]
      have hn2 : (n : Int) = s.size := by omega
      have HNS := Lib.hid hn
      have i1 : (s.size : Int) ≤ n := by omega
      clear hn hn2
      go_enter Tryz.func60, Tryz.ntmps60
      go_wp2_with fail
      refine (HN.out _).mono ?_
      rintro e w1 ⟨rfl, b1⟩
      obtain ⟨hc1, hf1⟩ := kcell b1
      have hz1 := b1.size
      simp at hz1
      have HB := Lib.hid (B0.trans (b1.mono (by simp)))
      have hlt : w.heap.size < w1.heap.size := by omega
      clear b1
      go_wp2_with fail
      refine (HV.out _).mono ?_
      rintro e w2 ⟨rfl, b2⟩
      obtain ⟨hc2, hf2⟩ := kcell b2
      have hz2 := b2.size
      have HB2 := Lib.hid (HB.out.trans (b2.mono (by omega)))
      have hlt2 : w.heap.size < w2.heap.size := by omega
      clear b2
      go_wp2_with fail
      refine (HI.out v _ (by omega) HB2.out).mono ?_
      rintro e w3 ⟨rfl, b3⟩
      obtain ⟨hc3, hf3⟩ := kcell b3
      have hz3 := b3.size
      have HB3 := Lib.hid (HB2.out.trans (b3.mono (by omega)))
      clear b3
      go_wp2
      exact bodyPost_ret (v := .tuple #[.agg #[.int .i64 2, .int .i64 0, .string ⟨(Lib.decDigits v).toArray⟩], .int .i64 s.size]) (by simp [results, Tryz.results60, go_sem, hc1, hc2, hc3, hlt, hlt2]) rfl ⟨rfl, ((HB3.out.setCell (Nat.le_refl _) _).setCell (Nat.le_refl _) _).setCell (Nat.le_refl _) _⟩
    · rw [if_neg hn]
      have hn2 : (n : Int) < s.size := by omega
      have hn3 : decide ((n : Int) = s.size) = false := by simp; omega
      clear hn
      by_cases hk0 : k = 0
      · subst hk0
        rw [if_pos (.inl rfl)]
        go_enter Tryz.func60, Tryz.ntmps60
        go_wp2_with fail
        refine (HN.out _).mono ?_
        rintro e w1 ⟨rfl, b1⟩
        obtain ⟨hc1, hf1⟩ := kcell b1
        have hz1 := b1.size
        simp at hz1
        have HB := Lib.hid (B0.trans (b1.mono (by simp)))
        have hlt : w.heap.size < w1.heap.size := by omega
        clear b1
        go_wp2_with fail
        refine (HV.out _).mono ?_
        rintro e w2 ⟨rfl, b2⟩
        obtain ⟨hc2, hf2⟩ := kcell b2
        have hz2 := b2.size
        have HB2 := Lib.hid (HB.out.trans (b2.mono (by omega)))
        have hlt2 : w.heap.size < w2.heap.size := by omega
        clear b2
        go_wp2_with fail
        refine (HSec.out _).mono ?_
        rintro e w0 ⟨rfl, rfl⟩
        go_wp2
        exact bodyPost_ret (v := .tuple #[.agg #[.int .i64 0, .int .i64 0, .string ⟨#[]⟩], .int .i64 0]) (by simp [results, Tryz.results60, go_sem, hc1, hc2, hlt]) rfl ⟨rfl, ((HB2.out.setCell (Nat.le_refl _) _).setCell (Nat.le_refl _) _).setCell (Nat.le_refl _) _⟩
      · have hk1 : (0 : Int) < k := by omega
        have hk3 : ((k : Int) == 0) = false := by simp; omega
        have hle : v * k ≤ 1000000000000 * 3600 := Nat.mul_le_mul (by omega) (by omega)
        obtain ⟨p, hp⟩ : ∃ p, v * k = p := ⟨_, rfl⟩
        have hm : (v : Int) * (k : Int) = (p : Int) := by rw [← hp]; exact (Int.natCast_mul v k).symm
        rw [hp] at hle ⊢
        clear hk0
        have hle2 : (p : Int) ≤ 3600000000000000 := by omega
        clear hp
        by_cases hg : 1000000000 < p
        · rw [if_pos (.inr hg)]
          have hg2 : (1000000000 : Int) < p := by omega
          go_enter Tryz.func60, Tryz.ntmps60
          go_wp2_with fail
          refine (HN.out _).mono ?_
          rintro e w1 ⟨rfl, b1⟩
          obtain ⟨hc1, hf1⟩ := kcell b1
          have hz1 := b1.size
          simp at hz1
          have HB := Lib.hid (B0.trans (b1.mono (by simp)))
          have hlt : w.heap.size < w1.heap.size := by omega
          clear b1
          go_wp2_with fail
          refine (HV.out _).mono ?_
          rintro e w2 ⟨rfl, b2⟩
          obtain ⟨hc2, hf2⟩ := kcell b2
          have hz2 := b2.size
          have HB2 := Lib.hid (HB.out.trans (b2.mono (by omega)))
          have hlt2 : w.heap.size < w2.heap.size := by omega
          clear b2
          go_wp2_with fail
          refine (HSec.out _).mono ?_
          rintro e w0 ⟨rfl, rfl⟩
          go_wp2
          exact bodyPost_ret (v := .tuple #[.agg #[.int .i64 0, .int .i64 0, .string ⟨#[]⟩], .int .i64 0]) (by simp [results, Tryz.results60, go_sem, hc1, hc2, hlt]) rfl ⟨rfl, ((HB2.out.setCell (Nat.le_refl _) _).setCell (Nat.le_refl _) _).setCell (Nat.le_refl _) _⟩
        · rw [if_neg (by omega)]
          have hg2 : (p : Int) ≤ 1000000000 := by omega
          go_enter Tryz.func60, Tryz.ntmps60
          go_wp2_with fail
          refine (HN.out _).mono ?_
          rintro e w1 ⟨rfl, b1⟩
          obtain ⟨hc1, hf1⟩ := kcell b1
          have hz1 := b1.size
          simp at hz1
          have HB := Lib.hid (B0.trans (b1.mono (by simp)))
          have hlt : w.heap.size < w1.heap.size := by omega
          clear b1
          go_wp2_with fail
          refine (HV.out _).mono ?_
          rintro e w2 ⟨rfl, b2⟩
          obtain ⟨hc2, hf2⟩ := kcell b2
          have hz2 := b2.size
          have HB2 := Lib.hid (HB.out.trans (b2.mono (by omega)))
          have hlt2 : w.heap.size < w2.heap.size := by omega
          clear b2
          go_wp2_with fail
          refine (HSec.out _).mono ?_
          rintro e w0 ⟨rfl, rfl⟩
          go_wp2_with fail
          refine (HI.out p _ (by omega) HB2.out).mono ?_
          rintro e w3 ⟨rfl, b3⟩
          obtain ⟨hc3, hf3⟩ := kcell b3
          have hz3 := b3.size
          have HB3 := Lib.hid (HB2.out.trans (b3.mono (by omega)))
          clear b3
          go_wp2
          exact bodyPost_ret (v := .tuple #[.agg #[.int .i64 4, .int .i64 0, .string ⟨(Lib.decDigits p).toArray⟩], .int .i64 s.size]) (by simp [results, Tryz.results60, go_sem, hc1, hc2, hc3, hlt, hlt2]) rfl ⟨rfl, ((HB3.out.setCell (Nat.le_refl _) _).setCell (Nat.le_refl _) _).setCell (Nat.le_refl _) _⟩
end Go.Proofs.YtphkodkenkiecaaGreatDoor
