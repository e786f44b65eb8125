import Derived.Test.YtbcemjhaecelnaaGreatDoorMg41
section
set_option maxHeartbeats 8000000
set_option maxRecDepth 100000
namespace Go.Proofs.YtbcemjhaecelnaaGreatDoor
open Go.RowKit
theorem zfx (l : List UInt8) : numR l = (
 if 13 < zab l \/ 1000000000000 < valL (l.take (min (zab l) 13)) then none
 else if zad (l.drop (zab l)) = 0 then some (2, Lib.decDigits (valL (l.take (min (zab l) 13))), zab l)
 else if zbc ((l.drop (zab l)).take (zad (l.drop (zab l)))) = 0 \/ 1000000000 / zbc ((l.drop (zab l)).take (zad (l.drop (zab l)))) < valL (l.take (min (zab l) 13)) then none
 else some (4, Lib.decDigits (valL (l.take (min (zab l) 13)) * zbc ((l.drop (zab l)).take (zad (l.drop (zab l))))), zab l + 1)) := rfl
theorem zg2 (s : ByteArray) (a b : Nat) (_hb : a + b <= s.size) : (s.extract a (a + b)).data.toList = (s.data.toList.drop a).take b := by
 rw [ByteArray.data_extract, Array.toList_extract]
 simp [List.extract]
theorem drop_cons {s : ByteArray} {n : Nat} (h : n < s.size) : s.data.toList.drop n = s[n] :: s.data.toList.drop (n + 1) := by
 rw [List.drop_eq_getElem_cons (by rw [<- Lib.size_eq]; exact h)]; rfl
theorem dnumber_any (s : ByteArray) (w : World) (hs : s.size <= 100000) : Calls Tryz.prog 70 #[.string s] w fun e w' => e = .returned (tokV (numR s.data.toList)) /\ Below w.heap.size w w' := by
 have HZ := zh (show s.data.toList.length = s.size by rw [<- Lib.size_eq])
 have HD := zh (fun (p : Nat) (hp : p <= 9223372036854775807) W => rdigits_any p hp W)
 have HW := zh (fun n W => zfO (s.extract n s.size) W (by rw [ByteArray.size_extract]; omega))
 have hs2 : (s.size : Int) <= 100000 := by omega
 have B0 : Below w.heap.size w (w.alloc (.cells #[.int .i64 0, .int .i64 0, .string ⟨#[]⟩] 78)) := (Below.refl _ _).alloc (Nat.le_refl _) _
 have HB0 := zh B0
 clear B0 hs
 go_enter Tryz.func70, Tryz.ntmps70
 go_wp2
 go_loop [4, 5] (fun v4 v5 => ∃ (n v : Nat), v4 = .int .i64 n /\ v5 = .int .i64 v /\ n <= s.size /\ Hid (n + zab (s.data.toList.drop n) = zab s.data.toList) /\ Hid (v = valL (s.data.toList.take (min n 13))) /\ Hid (∀ c ∈ s.data.toList.take n, digB c = true) /\ v < 10000000000000) (fun v4 _ => s.size - (intOf v4).toNat)
 case atStart => exact ⟨0, 0, rfl, rfl, Nat.zero_le _, (by show _ = _; simp), rfl, (by show ∀ c ∈ _, _; intro c hc; rw [List.take_zero] at hc; cases hc), by omega⟩
 case round =>
  obtain ⟨n, v, rfl, rfl, hn, HN, HV, HA, hv⟩ := hrel
  by_cases hlt : n < s.size
  ·have q1 : (n : Int) < s.size := by omega
   have hdc := drop_cons hlt
   have hdg := zbJ s[n] (s.data.toList.drop (n + 1))
   rw [<- hdc] at hdg
   have htk : s.data.toList.take (n + 1) = s.data.toList.take n ++ [s[n]] := by
    rw [List.take_add_one, List.getElem?_eq_getElem (by rw [HZ.out]; exact hlt)]; rfl
   by_cases hd : digB s[n] = true
   ·have hd2 : 48 <= s[n].toNat /\ s[n].toNat <= 57 := of_decide_eq_true hd
    rw [if_pos hd] at hdg
    have H2 := zh (show n + 1 + zab (s.data.toList.drop (n + 1)) = zab s.data.toList by rw [<- HN.out, hdg]; omega)
    have H4 := zh (show ∀ c ∈ s.data.toList.take (n + 1), digB c = true by
     rw [htk]; intro c hc
     rcases List.mem_append.1 hc with hc | hc
     ·exact HA.out c hc
     ·rw [List.mem_singleton.1 hc]; exact hd)
    have q2 : (48 : Int) <= s[n].toNat := by omega
    have q3 : (s[n].toNat : Int) <= 57 := by omega
    have q4 : (v : Int) < 10000000000000 := by omega
    by_cases h13 : n < 13
    ·have q5 : (n : Int) < 13 := by omega
     have H3 := zh (show v * 10 + (s[n].toNat - 48) = valL (s.data.toList.take (min (n + 1) 13)) by
      rw [Nat.min_eq_left (by omega), htk, val_snoc, HV.out, Nat.min_eq_left (by omega)])
     have hb : v * 10 + (s[n].toNat - 48) < 10000000000000 := by
      rw [H3.out]
      refine val_bound _ ?_ ?_
      ·intro c hc; rw [Nat.min_eq_left (by omega)] at hc; exact H4.out c hc
      ·rw [List.length_take]; omega
     have H5 := zh hb
     have HV5 := zh hv
     have HN5 := zh hlt
     clear hdc hdg htk hd hd2 HN HV HA hb hv hn
     go_wp2
     go_round
     case rel => exact ⟨n + 1, v * 10 + (s[n].toNat - 48), by go_num, ziM (by omega), by omega, H2, H3, H4, H5.out⟩
     case measure => simp [intOf]; omega
    ·have q5 : (13 : Int) <= n := by omega
     have H3 := zh (show v = valL (s.data.toList.take (min (n + 1) 13)) by
      rw [HV.out, Nat.min_eq_right (by omega), Nat.min_eq_right (by omega)])
     have HV5 := zh hv
     clear hdc hdg htk hd hd2 HN HV HA hv hn h13 q4
     go_wp2
     go_round
     case rel => exact ⟨n + 1, v, by go_num, rfl, by omega, H2, H3, H4, HV5.out⟩
     case measure => simp [intOf]; omega
   ·have hd2 : ¬ (48 <= s[n].toNat /\ s[n].toNat <= 57) := fun h => hd (decide_eq_true h)
    rw [if_neg hd] at hdg
    have H2 := zh (show n = zab s.data.toList by rw [<- HN.out, hdg]; rfl)
    have q2 : (s[n].toNat : Int) < 48 \/ ((48 : Int) <= s[n].toNat /\ (57 : Int) < s[n].toNat) := by omega
    clear hdc hdg htk hd hd2 HN HA
    rcases q2 with q2 | ⟨q2, q3⟩
    ·have HWd := zh (fun W => HW.out n W)
     rw [zaF] at HWd
     have hR := zfx s.data.toList
     rw [<- H2.out, <- HV.out] at hR
     have hml : zad (s.data.toList.drop n) <= s.size - n := by have := zbh (s.data.toList.drop n); rw [List.length_drop, HZ.out] at this; exact this
     have hex := zg2 s n (zad (s.data.toList.drop n)) (by omega)
     obtain ⟨m, hm⟩ : ∃ m, zad (s.data.toList.drop n) = m := ⟨_, rfl⟩
     rw [hm] at HWd hml hex hR
     rw [<- hex] at hR
     generalize zbp (s.data.toList.drop n) = rn at HWd
     obtain ⟨xb, hxb⟩ : ∃ xb, s.extract n (n + m) = xb := ⟨_, rfl⟩
     rw [hxb] at hR
     have hv0 : v <= 9999999999999 := by omega
     have HV0 := zh hv0
     have g0 : (n : Int) + m <= s.size := by omega
     have gn : (n : Int) <= 100000 := by omega
     clear hex hm hv hv0 HV H2 HW HZ
     by_cases hg : 13 < n \/ 1000000000000 < v
     ·rw [if_pos hg] at hR
      have hg2 : 13 < (n : Int) \/ ((n : Int) <= 13 /\ (1000000000000 : Int) < v) := by omega
      clear hg hxb hml
      have HR := zh hR
      clear hR
      rcases hg2 with hg2 | ⟨hg2, hg3⟩
      all_goals
       go_wp2
       exact bodyPost_ret (v := .tuple #[.agg #[.int .i64 0, .int .i64 0, .string ⟨#[]⟩], .int .i64 0]) (by simp [results, Tryz.results70, go_sem]) rfl ⟨by rw [HR.out]; rfl, HB0.out⟩
     ·rw [if_neg hg] at hR
      have hg2 : (n : Int) <= 13 := by omega
      have hg3 : (v : Int) <= 1000000000000 := by omega
      clear hg
      by_cases hm0 : m = 0
      ·rw [if_pos hm0] at hR
       subst hm0
       clear hxb hml
       have HR := zh hR
       clear hR
       go_wp2_with fail
       refine (HWd.out _).mono ?_
       rintro e w1 ⟨rfl, b1⟩
       obtain ⟨hc1, hf1⟩ := zas b1
       have hz1 := b1.size
       simp at hz1
       have HB := zh (HB0.out.trans (b1.mono (by simp)))
       have hlt1 : w.heap.size < w1.heap.size := by omega
       clear b1
       go_wp2_with fail
       refine (HD.out v (by omega) _).mono ?_
       rintro e w2 ⟨rfl, b2⟩
       obtain ⟨hc2, hf2⟩ := zas b2
       have hz2 := b2.size
       have HB2 := zh (HB.out.trans (b2.mono (by omega)))
       clear b2
       go_wp2
       exact bodyPost_ret (v := .tuple #[.agg #[.int .i64 2, .int .i64 0, .string ⟨(Lib.decDigits v).toArray⟩], .int .i64 n]) (by simp [results, Tryz.results70, go_sem, hc1, hc2, hlt1]) rfl ⟨by rw [HR.out]; rfl, ((HB2.out.setCell (Nat.le_refl _) _).setCell (Nat.le_refl _) _).setCell (Nat.le_refl _) _⟩
      ·rw [if_neg hm0] at hR
       have hm1 : ((m : Int) == 0) = false := by simp; omega
       clear hm0
       by_cases hu115 : xb.data.toList = [115]
       ·rw [hu115] at hR
        have e1 : xb = ⟨#[115]⟩ := by cases xb with | mk d => cases d with | mk l => simp at hu115; rw [hu115]
        subst e1
        rw [show zbc [115] = 1 by decide] at hR
        clear hu115
        by_cases hq : 1000000000 / 1 < v
        ·rw [if_pos (.inr hq)] at hR
         have hq2 : (1000000000 : Int) < v := by omega
         clear hq
         have HR := zh hR
         clear hR
         go_wp2_with fail
         refine (HWd.out _).mono ?_
         rintro e w1 ⟨rfl, b1⟩
         obtain ⟨hc1, hf1⟩ := zas b1
         have hz1 := b1.size
         simp at hz1
         have HB := zh (HB0.out.trans (b1.mono (by simp)))
         have hlt1 : w.heap.size < w1.heap.size := by omega
         clear b1
         go_wp2
         exact bodyPost_ret (v := .tuple #[.agg #[.int .i64 0, .int .i64 0, .string ⟨#[]⟩], .int .i64 0]) (by simp [results, Tryz.results70, go_sem, hc1]) rfl ⟨by rw [HR.out]; rfl, ((HB.out.setCell (Nat.le_refl _) _).setCell (Nat.le_refl _) _).setCell (Nat.le_refl _) _⟩
        ·rw [if_neg (by intro h; rcases h with h | h; exact absurd h (by decide); exact hq h)] at hR
         have hq2 : (v : Int) <= 1000000000 := by omega
         rw [Nat.mul_one] at hR
         clear hq
         have HR := zh hR
         clear hR
         go_wp2_with fail
         refine (HWd.out _).mono ?_
         rintro e w1 ⟨rfl, b1⟩
         obtain ⟨hc1, hf1⟩ := zas b1
         have hz1 := b1.size
         simp at hz1
         have HB := zh (HB0.out.trans (b1.mono (by simp)))
         have hlt1 : w.heap.size < w1.heap.size := by omega
         clear b1
         go_wp2_with fail
         refine (HD.out v (by omega) _).mono ?_
         rintro e w2 ⟨rfl, b2⟩
         obtain ⟨hc2, hf2⟩ := zas b2
         have hz2 := b2.size
         have HB2 := zh (HB.out.trans (b2.mono (by omega)))
         clear b2
         go_wp2
         exact bodyPost_ret (v := .tuple #[.agg #[.int .i64 4, .int .i64 0, .string ⟨(Lib.decDigits v).toArray⟩], .int .i64 (n + 1)]) (by simp [results, Tryz.results70, go_sem, hc1, hc2, hlt1]) rfl ⟨by rw [HR.out]; rfl, ((HB2.out.setCell (Nat.le_refl _) _).setCell (Nat.le_refl _) _).setCell (Nat.le_refl _) _⟩
       by_cases hu109 : xb.data.toList = [109]
       ·rw [hu109] at hR
        have e1 : xb = ⟨#[109]⟩ := by cases xb with | mk d => cases d with | mk l => simp at hu109; rw [hu109]
        subst e1
        rw [show zbc [109] = 60 by decide] at hR
        clear hu109
        by_cases hq : 1000000000 / 60 < v
        ·rw [if_pos (.inr hq)] at hR
         have hq2 : (16666666 : Int) < v := by omega
         clear hq
         have HR := zh hR
         clear hR
         go_wp2_with fail
         refine (HWd.out _).mono ?_
         rintro e w1 ⟨rfl, b1⟩
         obtain ⟨hc1, hf1⟩ := zas b1
         have hz1 := b1.size
         simp at hz1
         have HB := zh (HB0.out.trans (b1.mono (by simp)))
         have hlt1 : w.heap.size < w1.heap.size := by omega
         clear b1
         go_wp2
         exact bodyPost_ret (v := .tuple #[.agg #[.int .i64 0, .int .i64 0, .string ⟨#[]⟩], .int .i64 0]) (by simp [results, Tryz.results70, go_sem, hc1]) rfl ⟨by rw [HR.out]; rfl, ((HB.out.setCell (Nat.le_refl _) _).setCell (Nat.le_refl _) _).setCell (Nat.le_refl _) _⟩
        ·rw [if_neg (by intro h; rcases h with h | h; exact absurd h (by decide); exact hq h)] at hR
         have hq2 : (v : Int) <= 16666666 := by omega
         obtain ⟨p, hp⟩ : ∃ p, v * 60 = p := ⟨_, rfl⟩
         have sm : (v : Int) * 60 = (p : Int) := by omega
         have hp2 : (p : Int) <= 1000000000 := by omega
         rw [hp] at hR
         clear hq hp
         have HR := zh hR
         clear hR
         go_wp2_with fail
         refine (HWd.out _).mono ?_
         rintro e w1 ⟨rfl, b1⟩
         obtain ⟨hc1, hf1⟩ := zas b1
         have hz1 := b1.size
         simp at hz1
         have HB := zh (HB0.out.trans (b1.mono (by simp)))
         have hlt1 : w.heap.size < w1.heap.size := by omega
         clear b1
         go_wp2_with fail
         refine (HD.out p (by omega) _).mono ?_
         rintro e w2 ⟨rfl, b2⟩
         obtain ⟨hc2, hf2⟩ := zas b2
         have hz2 := b2.size
         have HB2 := zh (HB.out.trans (b2.mono (by omega)))
         clear b2
         go_wp2
         exact bodyPost_ret (v := .tuple #[.agg #[.int .i64 4, .int .i64 0, .string ⟨(Lib.decDigits p).toArray⟩], .int .i64 (n + 1)]) (by simp [results, Tryz.results70, go_sem, hc1, hc2, hlt1]) rfl ⟨by rw [HR.out]; rfl, ((HB2.out.setCell (Nat.le_refl _) _).setCell (Nat.le_refl _) _).setCell (Nat.le_refl _) _⟩
       by_cases hu104 : xb.data.toList = [104]
       ·rw [hu104] at hR
        have e1 : xb = ⟨#[104]⟩ := by cases xb with | mk d => cases d with | mk l => simp at hu104; rw [hu104]
        subst e1
        rw [show zbc [104] = 3600 by decide] at hR
        clear hu104
        by_cases hq : 1000000000 / 3600 < v
        ·rw [if_pos (.inr hq)] at hR
         have hq2 : (277777 : Int) < v := by omega
         clear hq
         have HR := zh hR
         clear hR
         go_wp2_with fail
         refine (HWd.out _).mono ?_
         rintro e w1 ⟨rfl, b1⟩
         obtain ⟨hc1, hf1⟩ := zas b1
         have hz1 := b1.size
         simp at hz1
         have HB := zh (HB0.out.trans (b1.mono (by simp)))
         have hlt1 : w.heap.size < w1.heap.size := by omega
         clear b1
         go_wp2
         exact bodyPost_ret (v := .tuple #[.agg #[.int .i64 0, .int .i64 0, .string ⟨#[]⟩], .int .i64 0]) (by simp [results, Tryz.results70, go_sem, hc1]) rfl ⟨by rw [HR.out]; rfl, ((HB.out.setCell (Nat.le_refl _) _).setCell (Nat.le_refl _) _).setCell (Nat.le_refl _) _⟩
        ·rw [if_neg (by intro h; rcases h with h | h; exact absurd h (by decide); exact hq h)] at hR
         have hq2 : (v : Int) <= 277777 := by omega
         obtain ⟨p, hp⟩ : ∃ p, v * 3600 = p := ⟨_, rfl⟩
         have sm : (v : Int) * 3600 = (p : Int) := by omega
         have hp2 : (p : Int) <= 1000000000 := by omega
         rw [hp] at hR
         clear hq hp
         have HR := zh hR
         clear hR
         go_wp2_with fail
         refine (HWd.out _).mono ?_
         rintro e w1 ⟨rfl, b1⟩
         obtain ⟨hc1, hf1⟩ := zas b1
         have hz1 := b1.size
         simp at hz1
         have HB := zh (HB0.out.trans (b1.mono (by simp)))
         have hlt1 : w.heap.size < w1.heap.size := by omega
         clear b1
         go_wp2_with fail
         refine (HD.out p (by omega) _).mono ?_
         rintro e w2 ⟨rfl, b2⟩
         obtain ⟨hc2, hf2⟩ := zas b2
         have hz2 := b2.size
         have HB2 := zh (HB.out.trans (b2.mono (by omega)))
         clear b2
         go_wp2
         exact bodyPost_ret (v := .tuple #[.agg #[.int .i64 4, .int .i64 0, .string ⟨(Lib.decDigits p).toArray⟩], .int .i64 (n + 1)]) (by simp [results, Tryz.results70, go_sem, hc1, hc2, hlt1]) rfl ⟨by rw [HR.out]; rfl, ((HB2.out.setCell (Nat.le_refl _) _).setCell (Nat.le_refl _) _).setCell (Nat.le_refl _) _⟩
       have hs0 : zbc xb.data.toList = 0 := by unfold zbc; rw [if_neg hu115, if_neg hu109, if_neg hu104]
       rw [hs0, if_pos (.inl rfl)] at hR
       have m1 : (xb.toList == [115]) = false := by rw [ByteArray.toList_eq]; simpa using hu115
       have m2 : (xb.toList == [109]) = false := by rw [ByteArray.toList_eq]; simpa using hu109
       have m3 : (xb.toList == [104]) = false := by rw [ByteArray.toList_eq]; simpa using hu104
       have n1 : ¬ xb.toList = [115] := by rw [ByteArray.toList_eq]; exact hu115
       have n2 : ¬ xb.toList = [109] := by rw [ByteArray.toList_eq]; exact hu109
       have n3 : ¬ xb.toList = [104] := by rw [ByteArray.toList_eq]; exact hu104
       clear hu115 hu109 hu104 hs0
       have HR := zh hR
       clear hR
       go_wp2_with fail
       refine (HWd.out _).mono ?_
       rintro e w1 ⟨rfl, b1⟩
       obtain ⟨hc1, hf1⟩ := zas b1
       have hz1 := b1.size
       simp at hz1
       have HB := zh (HB0.out.trans (b1.mono (by simp)))
       have hlt1 : w.heap.size < w1.heap.size := by omega
       clear b1
       go_wp2
       exact bodyPost_ret (v := .tuple #[.agg #[.int .i64 0, .int .i64 0, .string ⟨#[]⟩], .int .i64 0]) (by simp [results, Tryz.results70, go_sem, hc1]) rfl ⟨by rw [HR.out]; rfl, ((HB.out.setCell (Nat.le_refl _) _).setCell (Nat.le_refl _) _).setCell (Nat.le_refl _) _⟩
    ·have HWd := zh (fun W => HW.out n W)
     rw [zaF] at HWd
     have hR := zfx s.data.toList
     rw [<- H2.out, <- HV.out] at hR
     have hml : zad (s.data.toList.drop n) <= s.size - n := by have := zbh (s.data.toList.drop n); rw [List.length_drop, HZ.out] at this; exact this
     have hex := zg2 s n (zad (s.data.toList.drop n)) (by omega)
     obtain ⟨m, hm⟩ : ∃ m, zad (s.data.toList.drop n) = m := ⟨_, rfl⟩
     rw [hm] at HWd hml hex hR
     rw [<- hex] at hR
     generalize zbp (s.data.toList.drop n) = rn at HWd
     obtain ⟨xb, hxb⟩ : ∃ xb, s.extract n (n + m) = xb := ⟨_, rfl⟩
     rw [hxb] at hR
     have hv0 : v <= 9999999999999 := by omega
     have HV0 := zh hv0
     have g0 : (n : Int) + m <= s.size := by omega
     have gn : (n : Int) <= 100000 := by omega
     clear hex hm hv hv0 HV H2 HW HZ
     by_cases hg : 13 < n \/ 1000000000000 < v
     ·rw [if_pos hg] at hR
      have hg2 : 13 < (n : Int) \/ ((n : Int) <= 13 /\ (1000000000000 : Int) < v) := by omega
      clear hg hxb hml
      have HR := zh hR
      clear hR
      rcases hg2 with hg2 | ⟨hg2, hg3⟩
      all_goals
       go_wp2
       exact bodyPost_ret (v := .tuple #[.agg #[.int .i64 0, .int .i64 0, .string ⟨#[]⟩], .int .i64 0]) (by simp [results, Tryz.results70, go_sem]) rfl ⟨by rw [HR.out]; rfl, HB0.out⟩
     ·rw [if_neg hg] at hR
      have hg2 : (n : Int) <= 13 := by omega
      have hg3 : (v : Int) <= 1000000000000 := by omega
      clear hg
      by_cases hm0 : m = 0
      ·rw [if_pos hm0] at hR
       subst hm0
       clear hxb hml
       have HR := zh hR
       clear hR
       go_wp2_with fail
       refine (HWd.out _).mono ?_
       rintro e w1 ⟨rfl, b1⟩
       obtain ⟨hc1, hf1⟩ := zas b1
       have hz1 := b1.size
       simp at hz1
       have HB := zh (HB0.out.trans (b1.mono (by simp)))
       have hlt1 : w.heap.size < w1.heap.size := by omega
       clear b1
       go_wp2_with fail
       refine (HD.out v (by omega) _).mono ?_
       rintro e w2 ⟨rfl, b2⟩
       obtain ⟨hc2, hf2⟩ := zas b2
       have hz2 := b2.size
       have HB2 := zh (HB.out.trans (b2.mono (by omega)))
       clear b2
       go_wp2
       exact bodyPost_ret (v := .tuple #[.agg #[.int .i64 2, .int .i64 0, .string ⟨(Lib.decDigits v).toArray⟩], .int .i64 n]) (by simp [results, Tryz.results70, go_sem, hc1, hc2, hlt1]) rfl ⟨by rw [HR.out]; rfl, ((HB2.out.setCell (Nat.le_refl _) _).setCell (Nat.le_refl _) _).setCell (Nat.le_refl _) _⟩
      ·rw [if_neg hm0] at hR
       have hm1 : ((m : Int) == 0) = false := by simp; omega
       clear hm0
       by_cases hu115 : xb.data.toList = [115]
       ·rw [hu115] at hR
        have e1 : xb = ⟨#[115]⟩ := by cases xb with | mk d => cases d with | mk l => simp at hu115; rw [hu115]
        subst e1
        rw [show zbc [115] = 1 by decide] at hR
        clear hu115
        by_cases hq : 1000000000 / 1 < v
        ·rw [if_pos (.inr hq)] at hR
         have hq2 : (1000000000 : Int) < v := by omega
         clear hq
         have HR := zh hR
         clear hR
         go_wp2_with fail
         refine (HWd.out _).mono ?_
         rintro e w1 ⟨rfl, b1⟩
         obtain ⟨hc1, hf1⟩ := zas b1
         have hz1 := b1.size
         simp at hz1
         have HB := zh (HB0.out.trans (b1.mono (by simp)))
         have hlt1 : w.heap.size < w1.heap.size := by omega
         clear b1
         go_wp2
         exact bodyPost_ret (v := .tuple #[.agg #[.int .i64 0, .int .i64 0, .string ⟨#[]⟩], .int .i64 0]) (by simp [results, Tryz.results70, go_sem, hc1]) rfl ⟨by rw [HR.out]; rfl, ((HB.out.setCell (Nat.le_refl _) _).setCell (Nat.le_refl _) _).setCell (Nat.le_refl _) _⟩
        ·rw [if_neg (by intro h; rcases h with h | h; exact absurd h (by decide); exact hq h)] at hR
         have hq2 : (v : Int) <= 1000000000 := by omega
         rw [Nat.mul_one] at hR
         clear hq
         have HR := zh hR
         clear hR
         go_wp2_with fail
         refine (HWd.out _).mono ?_
         rintro e w1 ⟨rfl, b1⟩
         obtain ⟨hc1, hf1⟩ := zas b1
         have hz1 := b1.size
         simp at hz1
         have HB := zh (HB0.out.trans (b1.mono (by simp)))
         have hlt1 : w.heap.size < w1.heap.size := by omega
         clear b1
         go_wp2_with fail
         refine (HD.out v (by omega) _).mono ?_
         rintro e w2 ⟨rfl, b2⟩
         obtain ⟨hc2, hf2⟩ := zas b2
         have hz2 := b2.size
         have HB2 := zh (HB.out.trans (b2.mono (by omega)))
         clear b2
         go_wp2
         exact bodyPost_ret (v := .tuple #[.agg #[.int .i64 4, .int .i64 0, .string ⟨(Lib.decDigits v).toArray⟩], .int .i64 (n + 1)]) (by simp [results, Tryz.results70, go_sem, hc1, hc2, hlt1]) rfl ⟨by rw [HR.out]; rfl, ((HB2.out.setCell (Nat.le_refl _) _).setCell (Nat.le_refl _) _).setCell (Nat.le_refl _) _⟩
       by_cases hu109 : xb.data.toList = [109]
       ·rw [hu109] at hR
        have e1 : xb = ⟨#[109]⟩ := by cases xb with | mk d => cases d with | mk l => simp at hu109; rw [hu109]
        subst e1
        rw [show zbc [109] = 60 by decide] at hR
        clear hu109
        by_cases hq : 1000000000 / 60 < v
        ·rw [if_pos (.inr hq)] at hR
         have hq2 : (16666666 : Int) < v := by omega
         clear hq
         have HR := zh hR
         clear hR
         go_wp2_with fail
         refine (HWd.out _).mono ?_
         rintro e w1 ⟨rfl, b1⟩
         obtain ⟨hc1, hf1⟩ := zas b1
         have hz1 := b1.size
         simp at hz1
         have HB := zh (HB0.out.trans (b1.mono (by simp)))
         have hlt1 : w.heap.size < w1.heap.size := by omega
         clear b1
         go_wp2
         exact bodyPost_ret (v := .tuple #[.agg #[.int .i64 0, .int .i64 0, .string ⟨#[]⟩], .int .i64 0]) (by simp [results, Tryz.results70, go_sem, hc1]) rfl ⟨by rw [HR.out]; rfl, ((HB.out.setCell (Nat.le_refl _) _).setCell (Nat.le_refl _) _).setCell (Nat.le_refl _) _⟩
        ·rw [if_neg (by intro h; rcases h with h | h; exact absurd h (by decide); exact hq h)] at hR
         have hq2 : (v : Int) <= 16666666 := by omega
         obtain ⟨p, hp⟩ : ∃ p, v * 60 = p := ⟨_, rfl⟩
         have sm : (v : Int) * 60 = (p : Int) := by omega
         have hp2 : (p : Int) <= 1000000000 := by omega
         rw [hp] at hR
         clear hq hp
         have HR := zh hR
         clear hR
         go_wp2_with fail
         refine (HWd.out _).mono ?_
         rintro e w1 ⟨rfl, b1⟩
         obtain ⟨hc1, hf1⟩ := zas b1
         have hz1 := b1.size
         simp at hz1
         have HB := zh (HB0.out.trans (b1.mono (by simp)))
         have hlt1 : w.heap.size < w1.heap.size := by omega
         clear b1
         go_wp2_with fail
         refine (HD.out p (by omega) _).mono ?_
         rintro e w2 ⟨rfl, b2⟩
         obtain ⟨hc2, hf2⟩ := zas b2
         have hz2 := b2.size
         have HB2 := zh (HB.out.trans (b2.mono (by omega)))
         clear b2
         go_wp2
         exact bodyPost_ret (v := .tuple #[.agg #[.int .i64 4, .int .i64 0, .string ⟨(Lib.decDigits p).toArray⟩], .int .i64 (n + 1)]) (by simp [results, Tryz.results70, go_sem, hc1, hc2, hlt1]) rfl ⟨by rw [HR.out]; rfl, ((HB2.out.setCell (Nat.le_refl _) _).setCell (Nat.le_refl _) _).setCell (Nat.le_refl _) _⟩
       by_cases hu104 : xb.data.toList = [104]
       ·rw [hu104] at hR
        have e1 : xb = ⟨#[104]⟩ := by cases xb with | mk d => cases d with | mk l => simp at hu104; rw [hu104]
        subst e1
        rw [show zbc [104] = 3600 by decide] at hR
        clear hu104
        by_cases hq : 1000000000 / 3600 < v
        ·rw [if_pos (.inr hq)] at hR
         have hq2 : (277777 : Int) < v := by omega
         clear hq
         have HR := zh hR
         clear hR
         go_wp2_with fail
         refine (HWd.out _).mono ?_
         rintro e w1 ⟨rfl, b1⟩
         obtain ⟨hc1, hf1⟩ := zas b1
         have hz1 := b1.size
         simp at hz1
         have HB := zh (HB0.out.trans (b1.mono (by simp)))
         have hlt1 : w.heap.size < w1.heap.size := by omega
         clear b1
         go_wp2
         exact bodyPost_ret (v := .tuple #[.agg #[.int .i64 0, .int .i64 0, .string ⟨#[]⟩], .int .i64 0]) (by simp [results, Tryz.results70, go_sem, hc1]) rfl ⟨by rw [HR.out]; rfl, ((HB.out.setCell (Nat.le_refl _) _).setCell (Nat.le_refl _) _).setCell (Nat.le_refl _) _⟩
        ·rw [if_neg (by intro h; rcases h with h | h; exact absurd h (by decide); exact hq h)] at hR
         have hq2 : (v : Int) <= 277777 := by omega
         obtain ⟨p, hp⟩ : ∃ p, v * 3600 = p := ⟨_, rfl⟩
         have sm : (v : Int) * 3600 = (p : Int) := by omega
         have hp2 : (p : Int) <= 1000000000 := by omega
         rw [hp] at hR
         clear hq hp
         have HR := zh hR
         clear hR
         go_wp2_with fail
         refine (HWd.out _).mono ?_
         rintro e w1 ⟨rfl, b1⟩
         obtain ⟨hc1, hf1⟩ := zas b1
         have hz1 := b1.size
         simp at hz1
         have HB := zh (HB0.out.trans (b1.mono (by simp)))
         have hlt1 : w.heap.size < w1.heap.size := by omega
         clear b1
         go_wp2_with fail
         refine (HD.out p (by omega) _).mono ?_
         rintro e w2 ⟨rfl, b2⟩
         obtain ⟨hc2, hf2⟩ := zas b2
         have hz2 := b2.size
         have HB2 := zh (HB.out.trans (b2.mono (by omega)))
         clear b2
         go_wp2
         exact bodyPost_ret (v := .tuple #[.agg #[.int .i64 4, .int .i64 0, .string ⟨(Lib.decDigits p).toArray⟩], .int .i64 (n + 1)]) (by simp [results, Tryz.results70, go_sem, hc1, hc2, hlt1]) rfl ⟨by rw [HR.out]; rfl, ((HB2.out.setCell (Nat.le_refl _) _).setCell (Nat.le_refl _) _).setCell (Nat.le_refl _) _⟩
       have hs0 : zbc xb.data.toList = 0 := by unfold zbc; rw [if_neg hu115, if_neg hu109, if_neg hu104]
       rw [hs0, if_pos (.inl rfl)] at hR
       have m1 : (xb.toList == [115]) = false := by rw [ByteArray.toList_eq]; simpa using hu115
       have m2 : (xb.toList == [109]) = false := by rw [ByteArray.toList_eq]; simpa using hu109
       have m3 : (xb.toList == [104]) = false := by rw [ByteArray.toList_eq]; simpa using hu104
       have n1 : ¬ xb.toList = [115] := by rw [ByteArray.toList_eq]; exact hu115
       have n2 : ¬ xb.toList = [109] := by rw [ByteArray.toList_eq]; exact hu109
       have n3 : ¬ xb.toList = [104] := by rw [ByteArray.toList_eq]; exact hu104
       clear hu115 hu109 hu104 hs0
       have HR := zh hR
       clear hR
       go_wp2_with fail
       refine (HWd.out _).mono ?_
       rintro e w1 ⟨rfl, b1⟩
       obtain ⟨hc1, hf1⟩ := zas b1
       have hz1 := b1.size
       simp at hz1
       have HB := zh (HB0.out.trans (b1.mono (by simp)))
       have hlt1 : w.heap.size < w1.heap.size := by omega
       clear b1
       go_wp2
       exact bodyPost_ret (v := .tuple #[.agg #[.int .i64 0, .int .i64 0, .string ⟨#[]⟩], .int .i64 0]) (by simp [results, Tryz.results70, go_sem, hc1]) rfl ⟨by rw [HR.out]; rfl, ((HB.out.setCell (Nat.le_refl _) _).setCell (Nat.le_refl _) _).setCell (Nat.le_refl _) _⟩
  ·have H2 := zh (show n = zab s.data.toList by rw [<- HN.out, zaH hlt]; rfl)
   have q1 : (s.size : Int) <= n := by omega
   clear HN HA
   have HWd := zh (fun W => HW.out n W)
   rw [zaF] at HWd
   have hR := zfx s.data.toList
   rw [<- H2.out, <- HV.out] at hR
   have hml : zad (s.data.toList.drop n) <= s.size - n := by have := zbh (s.data.toList.drop n); rw [List.length_drop, HZ.out] at this; exact this
   have hex := zg2 s n (zad (s.data.toList.drop n)) (by omega)
   obtain ⟨m, hm⟩ : ∃ m, zad (s.data.toList.drop n) = m := ⟨_, rfl⟩
   rw [hm] at HWd hml hex hR
   rw [<- hex] at hR
   generalize zbp (s.data.toList.drop n) = rn at HWd
   obtain ⟨xb, hxb⟩ : ∃ xb, s.extract n (n + m) = xb := ⟨_, rfl⟩
   rw [hxb] at hR
   have hv0 : v <= 9999999999999 := by omega
   have HV0 := zh hv0
   have g0 : (n : Int) + m <= s.size := by omega
   have gn : (n : Int) <= 100000 := by omega
   clear hex hm hv hv0 HV H2 HW HZ
   by_cases hg : 13 < n \/ 1000000000000 < v
   ·rw [if_pos hg] at hR
    have hg2 : 13 < (n : Int) \/ ((n : Int) <= 13 /\ (1000000000000 : Int) < v) := by omega
    clear hg hxb hml
    have HR := zh hR
    clear hR
    rcases hg2 with hg2 | ⟨hg2, hg3⟩
    all_goals
     go_wp2
     exact bodyPost_ret (v := .tuple #[.agg #[.int .i64 0, .int .i64 0, .string ⟨#[]⟩], .int .i64 0]) (by simp [results, Tryz.results70, go_sem]) rfl ⟨by rw [HR.out]; rfl, HB0.out⟩
   ·rw [if_neg hg] at hR
    have hg2 : (n : Int) <= 13 := by omega
    have hg3 : (v : Int) <= 1000000000000 := by omega
    clear hg
    by_cases hm0 : m = 0
    ·rw [if_pos hm0] at hR
     subst hm0
     clear hxb hml
     have HR := zh hR
     clear hR
     go_wp2_with fail
     refine (HWd.out _).mono ?_
     rintro e w1 ⟨rfl, b1⟩
     obtain ⟨hc1, hf1⟩ := zas b1
     have hz1 := b1.size
     simp at hz1
     have HB := zh (HB0.out.trans (b1.mono (by simp)))
     have hlt1 : w.heap.size < w1.heap.size := by omega
     clear b1
     go_wp2_with fail
     refine (HD.out v (by omega) _).mono ?_
     rintro e w2 ⟨rfl, b2⟩
     obtain ⟨hc2, hf2⟩ := zas b2
     have hz2 := b2.size
     have HB2 := zh (HB.out.trans (b2.mono (by omega)))
     clear b2
     go_wp2
     exact bodyPost_ret (v := .tuple #[.agg #[.int .i64 2, .int .i64 0, .string ⟨(Lib.decDigits v).toArray⟩], .int .i64 n]) (by simp [results, Tryz.results70, go_sem, hc1, hc2, hlt1]) rfl ⟨by rw [HR.out]; rfl, ((HB2.out.setCell (Nat.le_refl _) _).setCell (Nat.le_refl _) _).setCell (Nat.le_refl _) _⟩
    ·rw [if_neg hm0] at hR
     have hm1 : ((m : Int) == 0) = false := by simp; omega
     clear hm0
     by_cases hu115 : xb.data.toList = [115]
     ·rw [hu115] at hR
      have e1 : xb = ⟨#[115]⟩ := by cases xb with | mk d => cases d with | mk l => simp at hu115; rw [hu115]
      subst e1
      rw [show zbc [115] = 1 by decide] at hR
      clear hu115
      by_cases hq : 1000000000 / 1 < v
      ·rw [if_pos (.inr hq)] at hR
       have hq2 : (1000000000 : Int) < v := by omega
       clear hq
       have HR := zh hR
       clear hR
       go_wp2_with fail
       refine (HWd.out _).mono ?_
       rintro e w1 ⟨rfl, b1⟩
       obtain ⟨hc1, hf1⟩ := zas b1
       have hz1 := b1.size
       simp at hz1
       have HB := zh (HB0.out.trans (b1.mono (by simp)))
       have hlt1 : w.heap.size < w1.heap.size := by omega
       clear b1
       go_wp2
       exact bodyPost_ret (v := .tuple #[.agg #[.int .i64 0, .int .i64 0, .string ⟨#[]⟩], .int .i64 0]) (by simp [results, Tryz.results70, go_sem, hc1]) rfl ⟨by rw [HR.out]; rfl, ((HB.out.setCell (Nat.le_refl _) _).setCell (Nat.le_refl _) _).setCell (Nat.le_refl _) _⟩
      ·rw [if_neg (by intro h; rcases h with h | h; exact absurd h (by decide); exact hq h)] at hR
       have hq2 : (v : Int) <= 1000000000 := by omega
       rw [Nat.mul_one] at hR
       clear hq
       have HR := zh hR
       clear hR
       go_wp2_with fail
       refine (HWd.out _).mono ?_
       rintro e w1 ⟨rfl, b1⟩
       obtain ⟨hc1, hf1⟩ := zas b1
       have hz1 := b1.size
       simp at hz1
       have HB := zh (HB0.out.trans (b1.mono (by simp)))
       have hlt1 : w.heap.size < w1.heap.size := by omega
       clear b1
       go_wp2_with fail
       refine (HD.out v (by omega) _).mono ?_
       rintro e w2 ⟨rfl, b2⟩
       obtain ⟨hc2, hf2⟩ := zas b2
       have hz2 := b2.size
       have HB2 := zh (HB.out.trans (b2.mono (by omega)))
       clear b2
       go_wp2
       exact bodyPost_ret (v := .tuple #[.agg #[.int .i64 4, .int .i64 0, .string ⟨(Lib.decDigits v).toArray⟩], .int .i64 (n + 1)]) (by simp [results, Tryz.results70, go_sem, hc1, hc2, hlt1]) rfl ⟨by rw [HR.out]; rfl, ((HB2.out.setCell (Nat.le_refl _) _).setCell (Nat.le_refl _) _).setCell (Nat.le_refl _) _⟩
     by_cases hu109 : xb.data.toList = [109]
     ·rw [hu109] at hR
      have e1 : xb = ⟨#[109]⟩ := by cases xb with | mk d => cases d with | mk l => simp at hu109; rw [hu109]
      subst e1
      rw [show zbc [109] = 60 by decide] at hR
      clear hu109
      by_cases hq : 1000000000 / 60 < v
      ·rw [if_pos (.inr hq)] at hR
       have hq2 : (16666666 : Int) < v := by omega
       clear hq
       have HR := zh hR
       clear hR
       go_wp2_with fail
       refine (HWd.out _).mono ?_
       rintro e w1 ⟨rfl, b1⟩
       obtain ⟨hc1, hf1⟩ := zas b1
       have hz1 := b1.size
       simp at hz1
       have HB := zh (HB0.out.trans (b1.mono (by simp)))
       have hlt1 : w.heap.size < w1.heap.size := by omega
       clear b1
       go_wp2
       exact bodyPost_ret (v := .tuple #[.agg #[.int .i64 0, .int .i64 0, .string ⟨#[]⟩], .int .i64 0]) (by simp [results, Tryz.results70, go_sem, hc1]) rfl ⟨by rw [HR.out]; rfl, ((HB.out.setCell (Nat.le_refl _) _).setCell (Nat.le_refl _) _).setCell (Nat.le_refl _) _⟩
      ·rw [if_neg (by intro h; rcases h with h | h; exact absurd h (by decide); exact hq h)] at hR
       have hq2 : (v : Int) <= 16666666 := by omega
       obtain ⟨p, hp⟩ : ∃ p, v * 60 = p := ⟨_, rfl⟩
       have sm : (v : Int) * 60 = (p : Int) := by omega
       have hp2 : (p : Int) <= 1000000000 := by omega
       rw [hp] at hR
       clear hq hp
       have HR := zh hR
       clear hR
       go_wp2_with fail
       refine (HWd.out _).mono ?_
       rintro e w1 ⟨rfl, b1⟩
       obtain ⟨hc1, hf1⟩ := zas b1
       have hz1 := b1.size
       simp at hz1
       have HB := zh (HB0.out.trans (b1.mono (by simp)))
       have hlt1 : w.heap.size < w1.heap.size := by omega
       clear b1
       go_wp2_with fail
       refine (HD.out p (by omega) _).mono ?_
       rintro e w2 ⟨rfl, b2⟩
       obtain ⟨hc2, hf2⟩ := zas b2
       have hz2 := b2.size
       have HB2 := zh (HB.out.trans (b2.mono (by omega)))
       clear b2
       go_wp2
       exact bodyPost_ret (v := .tuple #[.agg #[.int .i64 4, .int .i64 0, .string ⟨(Lib.decDigits p).toArray⟩], .int .i64 (n + 1)]) (by simp [results, Tryz.results70, go_sem, hc1, hc2, hlt1]) rfl ⟨by rw [HR.out]; rfl, ((HB2.out.setCell (Nat.le_refl _) _).setCell (Nat.le_refl _) _).setCell (Nat.le_refl _) _⟩
     by_cases hu104 : xb.data.toList = [104]
     ·rw [hu104] at hR
      have e1 : xb = ⟨#[104]⟩ := by cases xb with | mk d => cases d with | mk l => simp at hu104; rw [hu104]
      subst e1
      rw [show zbc [104] = 3600 by decide] at hR
      clear hu104
      by_cases hq : 1000000000 / 3600 < v
      ·rw [if_pos (.inr hq)] at hR
       have hq2 : (277777 : Int) < v := by omega
       clear hq
       have HR := zh hR
       clear hR
       go_wp2_with fail
       refine (HWd.out _).mono ?_
       rintro e w1 ⟨rfl, b1⟩
       obtain ⟨hc1, hf1⟩ := zas b1
       have hz1 := b1.size
       simp at hz1
       have HB := zh (HB0.out.trans (b1.mono (by simp)))
       have hlt1 : w.heap.size < w1.heap.size := by omega
       clear b1
       go_wp2
       exact bodyPost_ret (v := .tuple #[.agg #[.int .i64 0, .int .i64 0, .string ⟨#[]⟩], .int .i64 0]) (by simp [results, Tryz.results70, go_sem, hc1]) rfl ⟨by rw [HR.out]; rfl, ((HB.out.setCell (Nat.le_refl _) _).setCell (Nat.le_refl _) _).setCell (Nat.le_refl _) _⟩
      ·rw [if_neg (by intro h; rcases h with h | h; exact absurd h (by decide); exact hq h)] at hR
       have hq2 : (v : Int) <= 277777 := by omega
       obtain ⟨p, hp⟩ : ∃ p, v * 3600 = p := ⟨_, rfl⟩
       have sm : (v : Int) * 3600 = (p : Int) := by omega
       have hp2 : (p : Int) <= 1000000000 := by omega
       rw [hp] at hR
       clear hq hp
       have HR := zh hR
       clear hR
       go_wp2_with fail
       refine (HWd.out _).mono ?_
       rintro e w1 ⟨rfl, b1⟩
       obtain ⟨hc1, hf1⟩ := zas b1
       have hz1 := b1.size
       simp at hz1
       have HB := zh (HB0.out.trans (b1.mono (by simp)))
       have hlt1 : w.heap.size < w1.heap.size := by omega
       clear b1
       go_wp2_with fail
       refine (HD.out p (by omega) _).mono ?_
       rintro e w2 ⟨rfl, b2⟩
       obtain ⟨hc2, hf2⟩ := zas b2
       have hz2 := b2.size
       have HB2 := zh (HB.out.trans (b2.mono (by omega)))
       clear b2
       go_wp2
       exact bodyPost_ret (v := .tuple #[.agg #[.int .i64 4, .int .i64 0, .string ⟨(Lib.decDigits p).toArray⟩], .int .i64 (n + 1)]) (by simp [results, Tryz.results70, go_sem, hc1, hc2, hlt1]) rfl ⟨by rw [HR.out]; rfl, ((HB2.out.setCell (Nat.le_refl _) _).setCell (Nat.le_refl _) _).setCell (Nat.le_refl _) _⟩
     have hs0 : zbc xb.data.toList = 0 := by unfold zbc; rw [if_neg hu115, if_neg hu109, if_neg hu104]
     rw [hs0, if_pos (.inl rfl)] at hR
     have m1 : (xb.toList == [115]) = false := by rw [ByteArray.toList_eq]; simpa using hu115
     have m2 : (xb.toList == [109]) = false := by rw [ByteArray.toList_eq]; simpa using hu109
     have m3 : (xb.toList == [104]) = false := by rw [ByteArray.toList_eq]; simpa using hu104
     have n1 : ¬ xb.toList = [115] := by rw [ByteArray.toList_eq]; exact hu115
     have n2 : ¬ xb.toList = [109] := by rw [ByteArray.toList_eq]; exact hu109
     have n3 : ¬ xb.toList = [104] := by rw [ByteArray.toList_eq]; exact hu104
     clear hu115 hu109 hu104 hs0
     have HR := zh hR
     clear hR
     go_wp2_with fail
     refine (HWd.out _).mono ?_
     rintro e w1 ⟨rfl, b1⟩
     obtain ⟨hc1, hf1⟩ := zas b1
     have hz1 := b1.size
     simp at hz1
     have HB := zh (HB0.out.trans (b1.mono (by simp)))
     have hlt1 : w.heap.size < w1.heap.size := by omega
     clear b1
     go_wp2
     exact bodyPost_ret (v := .tuple #[.agg #[.int .i64 0, .int .i64 0, .string ⟨#[]⟩], .int .i64 0]) (by simp [results, Tryz.results70, go_sem, hc1]) rfl ⟨by rw [HR.out]; rfl, ((HB.out.setCell (Nat.le_refl _) _).setCell (Nat.le_refl _) _).setCell (Nat.le_refl _) _⟩
end Go.Proofs.YtbcemjhaecelnaaGreatDoor
end
