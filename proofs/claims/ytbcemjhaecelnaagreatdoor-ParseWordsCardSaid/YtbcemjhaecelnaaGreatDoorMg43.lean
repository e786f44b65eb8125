import Derived.Test.YtbcemjhaecelnaaGreatDoorMg42
section
set_option maxHeartbeats 4000000
set_option maxRecDepth 100000
namespace Go.Proofs.YtbcemjhaecelnaaGreatDoor
open Go.RowKit
theorem spell_chain (l : List UInt8) : zai (l.take (zad l)) = ((sufs l).takeWhile zcS).map rune := by
 induction l using zaC with
 | h0 => rfl
 | h1 l hne ih =>
   rw [show l.drop (Lib.decodeL l).2 = l.drop (zak l) from rfl] at ih
   have hw := zbU l
   have hwl := zco hne
   rw [zb4 l hne, List.takeWhile_cons]
   by_cases hy : zcS l = true
   ·have e := za5 l hne
    rw [if_pos hy] at e
    obtain ⟨n, hn⟩ : ∃ n, zad (l.drop (zak l)) = n := ⟨_, rfl⟩
    rw [hn] at e ih
    have hd : Lib.decodeL (l.take (zak l + n)) = Lib.decodeL l := zc0 l _ hne (by show zak l <= _; omega)
    have hne2 : l.take (zak l + n) ≠ [] := by
     intro h0
     have h5 := congrArg List.length h0
     rw [List.length_take, List.length_nil] at h5
     omega
    have hdr : (l.take (zak l + n)).drop (zak l) = (l.drop (zak l)).take n := by rw [List.drop_take, Nat.add_sub_cancel_left]
    rw [e, if_pos hy, List.map_cons]
    have hs : zai (l.take (zak l + n)) = rune (l.take (zak l + n)) :: zai ((l.take (zak l + n)).drop (zak l)) := by
     unfold zai
     rw [zb4 _ hne2, List.map_cons, hd]; rfl
    rw [hs, hdr, ih]
    congr 1
    unfold rune; rw [hd]
   ·have e : zad l = 0 := by rw [za5 l hne, if_neg hy]
    rw [e, if_neg hy]; rfl
theorem zgN : ∀ (rs : List Int) (k : Nat), k <= 30 -> 0 < k -> (∀ r ∈ rs, zaj r = 1 \/ zaj r = 2) -> zbw k rs = decide (k + rs.length <= 30)
 | [], k, hk, h0, _ => by unfold zbw; simp; omega
 | r :: rs, k, hk, h0, h => by
   have hr := h r (by simp)
   by_cases h30 : k = 30
   ·rw [zea _ _ _ (.inl h30)]; simp; omega
   ·rw [zc2 _ _ _ (by omega), zgN rs (k + 1) (by omega) (by omega) fun x hx => h x (by simp [hx])]
    simp; omega
theorem name_chain (l : List UInt8) (hne : l ≠ []) (hk : zaj (rune l) = 1) : zbz (l.take (zad l)) = decide (zbp l <= 30) := by
 unfold zbz zbp
 rw [spell_chain, zb4 l hne, List.takeWhile_cons, if_pos (by unfold zcS; simp [hk]), List.map_cons]
 rw [zc2 _ _ _ (by omega), zgN _ 1 (by omega) (by omega)]
 ·simp; omega
 ·intro r hr
  obtain ⟨t, ht, rfl⟩ := List.mem_map.1 hr
  have := List.all_eq_true.1 (List.all_takeWhile (p := zcS) (l := sufs (l.drop (Lib.decodeL l).2))) t ht
  exact of_decide_eq_true this
theorem quote_first {l : List UInt8} (hne : l ≠ []) (hr : rune l = 34) : zaB l = zag 1 false (l.drop 1) := by
 cases l with
 | nil => exact absurd rfl hne
 | cons c u =>
   unfold rune at hr
   have hc : c.toNat = 34 := by
    by_cases h : c.toNat < 128
    ·rw [zbq c u h] at hr; dsimp only at hr; omega
    ·have := zeb c u (by omega); omega
   unfold zaB
   rw [zag, if_neg (by simp), if_neg (by omega), if_neg (by omega)]; rfl
theorem close_slash {s : ByteArray} {i : Nat} (h : i < s.size) (hc : s[i].toNat = 92) : zag i false (s.data.toList.drop i) = zag (i + 2) false (s.data.toList.drop (i + 2)) := by
 rw [drop_cons h, zag, if_neg (by simp), if_pos hc]
 by_cases h1 : i + 1 < s.size
 ·rw [drop_cons h1, zag, if_pos rfl]
 ·rw [zaH h1, zaH (show ¬ i + 2 < s.size by omega)]; rfl
theorem close_quot {s : ByteArray} {i : Nat} (h : i < s.size) (hi : 0 < i) (hc : s[i].toNat = 34) : zag i false (s.data.toList.drop i) = i + 1 := by
 rw [drop_cons h, zag, if_neg (by simp), if_neg (by omega), if_pos ⟨hc, hi⟩]
theorem close_else {s : ByteArray} {i : Nat} (h : i < s.size) (hc : s[i].toNat ≠ 92) (hc2 : s[i].toNat ≠ 34) : zag i false (s.data.toList.drop i) = zag (i + 1) false (s.data.toList.drop (i + 1)) := by
 rw [drop_cons h, zag, if_neg (by simp), if_neg hc, if_neg (by omega)]
theorem zgO (s : ByteArray) (w : World) : Calls Tryz.prog 72 #[.string s] w fun e w' => e = .returned (.bool (zeu s.data.toList)) /\ w = w' := by
 go_enter Tryz.func72, Tryz.ntmps72
 go_wp2
 all_goals go_ret
 all_goals refine ⟨zaY ?_, rfl⟩
 all_goals try (simp only [beq_iff_eq, beq_eq_false_iff_ne, ne_eq, ByteArray.toList_eq] at *)
 all_goals first
  | contradiction
  | (rw [‹s.data.toList = _›]; decide)
  | (unfold zeu signs; simp [*])
theorem unqR_any (s : ByteArray) (hs : s.size <= 274877906944) (w : World) : Calls Tryz.prog 71 #[.string s] w fun e w' => e = .returned (zhu (zap s.data.toList)) /\ Below w.heap.size w w' := by
 refine (runquote_any s hs w).mono fun e w' ⟨he, hb⟩ => ⟨?_, hb⟩
 rw [<- unquote_same] at he
 generalize zap s.data.toList = o at he ⊢
 cases o <;> exact he
end Go.Proofs.YtbcemjhaecelnaaGreatDoor
end

section
set_option maxHeartbeats 8000000
set_option maxRecDepth 100000
namespace Go.Proofs.YtbcemjhaecelnaaGreatDoor
open Go.RowKit
theorem uVal_some (t : List UInt8) : zhu (some t) = .tuple #[.string ⟨t.toArray⟩, .bool true] := rfl
theorem uVal_none : zhu none = .tuple #[.string ⟨#[]⟩, .bool false] := rfl
theorem dtoken_any (s : ByteArray) (hne : s.data.toList ≠ []) (w : World) (hs : s.size <= 100000) : Calls Tryz.prog 48 #[.string s] w fun e w' => e = .returned (tokV (zam s.data.toList)) /\ Below w.heap.size w w' := by
 have HZ := zh (show s.data.toList.length = s.size by rw [<- Lib.size_eq])
 have HF := zh (fun W => zd6 s hne W)
 have CK := zh (fun r W => rkind_any r W)
 have HB0 := zh (show Below w.heap.size w (w.alloc (.cells #[.int .i64 0, .int .i64 0, .string ⟨#[]⟩] 78)) from (Below.refl _ _).alloc (Nat.le_refl _) _)
 have hs2 : (s.size : Int) <= 100000 := by omega
 obtain ⟨r, hr⟩ : ∃ r, rune s.data.toList = r := ⟨_, rfl⟩
 rw [hr] at HF
 have hcl := zbh s.data.toList
 rw [HZ.out] at hcl
 by_cases k1 : zaj r = 1
 ·have hf : zam s.data.toList = if zbp s.data.toList <= 30 then some (1, s.data.toList.take (zad s.data.toList), zad s.data.toList) else none := by
   unfold zam; rw [hr, if_pos k1, name_chain _ hne (by rw [hr]; exact k1)]; simp
  have HW := zh (fun W => zfO s W hs)
  have HX := zh (show (⟨(s.data.toList.take (zad s.data.toList)).toArray⟩ : ByteArray) = s.extract 0 (zad s.data.toList) by rw [<- zaK, zdq])
  have hrl := runesL_le s.data.toList
  generalize zbp s.data.toList = m at *
  generalize zad s.data.toList = n at *
  have hn2 : (n : Int) <= s.size := by omega
  by_cases hm : m <= 30
  ·rw [if_pos hm] at hf
   have HR := zh hf
   have q : (m : Int) <= 30 := by omega
   clear hf hr hne hcl hs hrl hm
   go_enter Tryz.func48, Tryz.ntmps48
   go_wp2_with fail
   refine (HF.out _).mono ?_
   rintro e w1 ⟨rfl, b1⟩
   obtain ⟨hc1, hf1⟩ := zas b1
   have hz1 := b1.size
   simp at hz1
   have HB := zh (HB0.out.trans (b1.mono (by simp)))
   have hlt1 : w.heap.size < w1.heap.size := by omega
   clear b1
   go_wp2_with fail
   refine (CK.out _ _).mono ?_
   rintro e w1' ⟨rfl, rfl⟩
   go_wp2_with fail
   refine (HW.out _).mono ?_
   rintro e w2 ⟨rfl, b2⟩
   obtain ⟨hc2, hf2⟩ := zas b2
   have hz2 := b2.size
   have HB2 := zh (HB.out.trans (b2.mono (by omega)))
   have hlt2 : w.heap.size < w2.heap.size := by omega
   clear b2
   go_wp2
   exact bodyPost_ret (v := .tuple #[.agg #[.int .i64 1, .int .i64 0, .string (s.extract 0 n)], .int .i64 n]) (by simp [results, Tryz.results48, go_sem, hc1, hc2, hlt1]) rfl ⟨by rw [HR.out]; unfold tokV; dsimp only; rw [HX.out]; rfl, ((HB2.out.setCell (Nat.le_refl _) _).setCell (Nat.le_refl _) _).setCell (Nat.le_refl _) _⟩
  ·rw [if_neg hm] at hf
   have HR := zh hf
   have q : (30 : Int) < m := by omega
   clear hf hr hne hcl hs hrl hm
   go_enter Tryz.func48, Tryz.ntmps48
   go_wp2_with fail
   refine (HF.out _).mono ?_
   rintro e w1 ⟨rfl, b1⟩
   obtain ⟨hc1, hf1⟩ := zas b1
   have hz1 := b1.size
   simp at hz1
   have HB := zh (HB0.out.trans (b1.mono (by simp)))
   have hlt1 : w.heap.size < w1.heap.size := by omega
   clear b1
   go_wp2_with fail
   refine (CK.out _ _).mono ?_
   rintro e w1' ⟨rfl, rfl⟩
   go_wp2_with fail
   refine (HW.out _).mono ?_
   rintro e w2 ⟨rfl, b2⟩
   obtain ⟨hc2, hf2⟩ := zas b2
   have hz2 := b2.size
   have HB2 := zh (HB.out.trans (b2.mono (by omega)))
   have hlt2 : w.heap.size < w2.heap.size := by omega
   clear b2
   go_wp2
   exact bodyPost_ret (v := .tuple #[.agg #[.int .i64 0, .int .i64 0, .string ⟨#[]⟩], .int .i64 0]) (by simp [results, Tryz.results48, go_sem, hc1, hc2, hlt1]) rfl ⟨by rw [HR.out]; rfl, ((HB2.out.setCell (Nat.le_refl _) _).setCell (Nat.le_refl _) _).setCell (Nat.le_refl _) _⟩
 ·by_cases k2 : zaj r = 2
  ·have hf : zam s.data.toList = numR s.data.toList := by unfold zam; rw [hr, if_neg k1, if_pos k2, numR_eq]
   have HW := zh (fun W => dnumber_any s W hs)
   have HR := zh hf
   generalize numR s.data.toList = o at *
   obtain ⟨k, t, m, ho⟩ : ∃ k t m, tokV o = .tuple #[.agg #[.int .i64 (k : Int), .int .i64 0, .string t], .int .i64 (m : Int)] := by cases o <;> exact ⟨_, _, _, rfl⟩
   rw [ho] at HW
   have HO := zh ho
   clear hf hr hne hcl hs ho k1
   go_enter Tryz.func48, Tryz.ntmps48
   go_wp2_with fail
   refine (HF.out _).mono ?_
   rintro e w1 ⟨rfl, b1⟩
   obtain ⟨hc1, hf1⟩ := zas b1
   have hz1 := b1.size
   simp at hz1
   have HB := zh (HB0.out.trans (b1.mono (by simp)))
   have hlt1 : w.heap.size < w1.heap.size := by omega
   clear b1
   go_wp2_with fail
   refine (CK.out _ _).mono ?_
   rintro e w1' ⟨rfl, rfl⟩
   go_wp2_with fail
   refine (HW.out _).mono ?_
   rintro e w2 ⟨rfl, b2⟩
   obtain ⟨hc2, hf2⟩ := zas b2
   have hz2 := b2.size
   have HB2 := zh (HB.out.trans (b2.mono (by omega)))
   have hlt2 : w.heap.size < w2.heap.size := by omega
   clear b2
   go_wp2
   exact bodyPost_ret (v := .tuple #[.agg #[.int .i64 (k : Int), .int .i64 0, .string t], .int .i64 (m : Int)]) (by simp [results, Tryz.results48, go_sem, hc1, hc2, hlt1]) rfl ⟨by rw [HR.out, HO.out], ((HB2.out.setCell (Nat.le_refl _) _).setCell (Nat.le_refl _) _).setCell (Nat.le_refl _) _⟩
  ·by_cases k3 : r = 34
   ·subst k3
    have hcq := quote_first hne hr
    have hf : zam s.data.toList = match zap (s.data.toList.take (zaB s.data.toList)) with | some t => some (3, t, zaB s.data.toList) | none => none := by
     unfold zam; rw [hr, if_neg k1, if_neg k2, if_pos rfl]
     cases zap (s.data.toList.take (zaB s.data.toList)) <;> rfl
    have HR := zh hf
    have HQ := zh hcq
    have k4 : zaj 34 = 4 := by decide
    have HP := zh (show 0 < s.size by rw [<- HZ.out]; exact List.length_pos_iff.2 hne)
    have HU := zh (fun n W => unqR_any (s.extract 0 n) (by rw [ByteArray.size_extract]; omega) W)
    clear hf hr hne hcl hs k1 k2 hcq
    go_enter Tryz.func48, Tryz.ntmps48
    go_wp2_with fail
    refine (HF.out _).mono ?_
    rintro e w1 ⟨rfl, b1⟩
    obtain ⟨hc1, hf1⟩ := zas b1
    have hz1 := b1.size
    simp at hz1
    have HB := zh (HB0.out.trans (b1.mono (by simp)))
    have hlt1 : w.heap.size < w1.heap.size := by omega
    clear b1
    go_wp2_with fail
    refine (CK.out _ _).mono ?_
    rintro e w1' ⟨rfl, rfl⟩
    go_wp2
    go_loop [7] (fun v7 => ∃ i : Nat, v7 = .int .i64 i /\ 1 <= i /\ i <= s.size + 1 /\ Hid (zag i false (s.data.toList.drop i) = zaB s.data.toList)) (fun v7 => s.size + 1 - (intOf v7).toNat)
    case atStart => exact ⟨1, rfl, Nat.le_refl _, by omega, HQ.out.symm⟩
    case round =>
     obtain ⟨i, rfl, hi1, hi2, H⟩ := hrel
     have q0 : (1 : Int) <= i := by omega
     by_cases hlt : i < s.size
     ·have q1 : (i : Int) < s.size := by omega
      by_cases h92 : s[i].toNat = 92
      ·have t1 : ((s[i].toNat : Int) == 92) = true := by simp; omega
       have H2 := zh ((close_slash hlt h92).symm.trans H.out)
       clear H h92
       go_wp2
       go_round
       case rel => exact ⟨i + 2, by go_num, by omega, by omega, H2⟩
       case measure => simp [intOf]; omega
      ·have t1 : ((s[i].toNat : Int) == 92) = false := by simp; omega
       by_cases h34 : s[i].toNat = 34
       ·have t2 : ((s[i].toNat : Int) == 34) = true := by simp; omega
        have H2 := zh ((close_quot hlt (by omega) h34).symm.trans H.out)
        have HU2 := zh (fun W => HU.out (i + 1) W)
        rw [zaK] at HU2
        have hR := HR.out
        rw [<- H2.out] at hR
        clear H h92 h34 HR HU
        cases hu : zap (s.data.toList.take (i + 1)) with
        | none =>
          rw [hu, uVal_none] at HU2
          rw [hu] at hR
          have HR := zh hR
          clear hR hu
          go_wp2_with fail
          refine (HU2.out _).mono ?_
          rintro e w2 ⟨rfl, b2⟩
          obtain ⟨hc2, hf2⟩ := zas b2
          have hz2 := b2.size
          have HB2 := zh (HB.out.trans (b2.mono (by omega)))
          have hlt2 : w.heap.size < w2.heap.size := by omega
          clear b2
          go_wp2
          exact bodyPost_ret (v := .tuple #[.agg #[.int .i64 0, .int .i64 0, .string ⟨#[]⟩], .int .i64 0]) (by simp [results, Tryz.results48, go_sem, hc1, hc2, hlt1]) rfl ⟨by rw [HR.out]; rfl, ((HB2.out.setCell (Nat.le_refl _) _).setCell (Nat.le_refl _) _).setCell (Nat.le_refl _) _⟩
        | some t =>
          rw [hu, uVal_some] at HU2
          rw [hu] at hR
          have HR := zh hR
          clear hR hu
          go_wp2_with fail
          refine (HU2.out _).mono ?_
          rintro e w2 ⟨rfl, b2⟩
          obtain ⟨hc2, hf2⟩ := zas b2
          have hz2 := b2.size
          have HB2 := zh (HB.out.trans (b2.mono (by omega)))
          have hlt2 : w.heap.size < w2.heap.size := by omega
          clear b2
          go_wp2
          exact bodyPost_ret (v := .tuple #[.agg #[.int .i64 3, .int .i64 0, .string ⟨t.toArray⟩], .int .i64 (i + 1)]) (by simp [results, Tryz.results48, go_sem, hc1, hc2, hlt1]) rfl ⟨by rw [HR.out]; rfl, ((HB2.out.setCell (Nat.le_refl _) _).setCell (Nat.le_refl _) _).setCell (Nat.le_refl _) _⟩
       ·have t2 : ((s[i].toNat : Int) == 34) = false := by simp; omega
        have H2 := zh ((close_else hlt h92 h34).symm.trans H.out)
        clear H h92 h34
        go_wp2
        go_round
        case rel => exact ⟨i + 1, by go_num, by omega, by omega, H2⟩
        case measure => simp [intOf]; omega
     ·have q1 : (s.size : Int) <= i := by omega
      have H2 := zh (show 0 = zaB s.data.toList by rw [<- H.out, zaH hlt]; rfl)
      have hR := HR.out
      rw [<- H2.out, List.take_zero, zev] at hR
      have HR2 := zh hR
      clear H hR HR
      go_wp2
      exact bodyPost_ret (v := .tuple #[.agg #[.int .i64 0, .int .i64 0, .string ⟨#[]⟩], .int .i64 0]) (by simp [results, Tryz.results48, go_sem, hc1]) rfl ⟨by rw [HR2.out]; rfl, ((HB.out.setCell (Nat.le_refl _) _).setCell (Nat.le_refl _) _).setCell (Nat.le_refl _) _⟩
   ·have hf : zam s.data.toList = zc5 s.data.toList := by unfold zam; rw [hr, if_neg k1, if_neg k2, if_neg k3]
    have HS := zh ((zeX s.data.toList).trans hf.symm)
    rw [HZ.out] at HS
    have k4 : (zaj r == 1) = false := by simp [k1]
    have k5 : (zaj r == 2) = false := by simp [k2]
    have k6 : (r == 34) = false := by simp [k3]
    obtain ⟨m, hm, hm2, hms⟩ : ∃ m, min 2 s.size = m /\ m <= 2 /\ m <= s.size := ⟨_, rfl, by omega, by omega⟩
    rw [hm] at HS
    have mn : ∀ W ts t, (Builtin.min_ ts t #[.int .i64 2, .int .i64 s.size]).run Tryz.prog W = .ok (.int .i64 (m : Nat)) W := by
     intro W ts t
     rw [run_min_int2]
     congr 3
     omega
    clear hm hf hr hne hcl hs k1 k2 k3
    go_enter Tryz.func48, Tryz.ntmps48
    go_wp2_with fail
    refine (HF.out _).mono ?_
    rintro e w1 ⟨rfl, b1⟩
    obtain ⟨hc1, hf1⟩ := zas b1
    have hz1 := b1.size
    simp at hz1
    have HB := zh (HB0.out.trans (b1.mono (by simp)))
    have hlt1 : w.heap.size < w1.heap.size := by omega
    clear b1
    go_wp2_with fail
    refine (CK.out _ _).mono ?_
    rintro e w1' ⟨rfl, rfl⟩
    go_wp2
    go_loop [10] (fun v => ∃ n : Nat, v = .int .i64 n /\ n <= 2 /\ n <= s.size /\ Hid (zbV s.data.toList n = zam s.data.toList)) (fun v => (intOf v).toNat)
    case atStart => exact ⟨m, rfl, hm2, hms, HS⟩
    case round =>
     obtain ⟨n, rfl, hn2, hns, H⟩ := hrel
     by_cases h0 : 0 < n
     ·obtain ⟨k, rfl⟩ : ∃ k, n = k + 1 := ⟨n - 1, by omega⟩
      have i1 : (k : Int) + 1 <= s.size := by omega
      cases hb : zeu (s.data.toList.take (k + 1)) with
      | true =>
        have HI := zh (fun W => (zgO (s.extract 0 (k + 1)) W).mono (R' := fun e w' => e = .returned (.bool true) /\ W = w') (fun e w' ⟨h1, h2⟩ => ⟨by rw [h1, zaK, hb], h2⟩))
        have H2 := zh (show zam s.data.toList = some (5, s.data.toList.take (k + 1), k + 1) by rw [<- H.out]; unfold zbV; rw [if_pos hb])
        have HX := zh (show (⟨(s.data.toList.take (k + 1)).toArray⟩ : ByteArray) = s.extract 0 (k + 1) by rw [<- zaK, zdq])
        clear H hb
        go_wp2_with fail
        refine (HI.out _).mono ?_
        rintro e w2 ⟨rfl, rfl⟩
        go_wp2
        exact bodyPost_ret (v := .tuple #[.agg #[.int .i64 5, .int .i64 0, .string (s.extract 0 (k + 1))], .int .i64 (k + 1)]) (by simp [results, Tryz.results48, go_sem, hc1]) rfl ⟨by rw [H2.out]; unfold tokV; dsimp only; rw [HX.out]; rfl, ((HB.out.setCell (Nat.le_refl _) _).setCell (Nat.le_refl _) _).setCell (Nat.le_refl _) _⟩
      | false =>
        have HI := zh (fun W => (zgO (s.extract 0 (k + 1)) W).mono (R' := fun e w' => e = .returned (.bool false) /\ W = w') (fun e w' ⟨h1, h2⟩ => ⟨by rw [h1, zaK, hb], h2⟩))
        have H2 := zh (show zbV s.data.toList k = zam s.data.toList by rw [<- H.out]; rw [zbV, hb]; rfl)
        clear H hb
        go_wp2_with fail
        refine (HI.out _).mono ?_
        rintro e w2 ⟨rfl, rfl⟩
        go_wp2
        go_round
        case rel => exact ⟨k, by go_num, by omega, by omega, H2⟩
        case measure => simp [intOf]
     ·obtain rfl : n = 0 := by omega
      have H2 := zh (show none = zam s.data.toList by rw [<- H.out]; rfl)
      clear H
      go_wp2
      exact bodyPost_ret (v := .tuple #[.agg #[.int .i64 0, .int .i64 0, .string ⟨#[]⟩], .int .i64 0]) (by simp [results, Tryz.results48, go_sem, hc1]) rfl ⟨by rw [<- H2.out]; rfl, ((HB.out.setCell (Nat.le_refl _) _).setCell (Nat.le_refl _) _).setCell (Nat.le_refl _) _⟩
end Go.Proofs.YtbcemjhaecelnaaGreatDoor
end

section
set_option maxHeartbeats 4000000
set_option maxRecDepth 100000
namespace Go.Proofs.YtbcemjhaecelnaaGreatDoor
open Go.RowKit
theorem zeM (s : ByteArray) (w : World) (hs : s.size <= 100000) :
 Calls Tryz.prog 21 #[.string s] w fun e w' => zaU w.heap.size s.data.toList e w' /\ Below w.heap.size w w' := by
 have hz : s.data.toList.length = s.size := by rw [<- Lib.size_eq]
 by_cases hbig : 600 < s.size
 ·have i1 : (600 : Int) < s.size := by omega
  have H2 := zh (show 600 < s.data.toList.length by omega)
  clear hbig hz
  go_enter Tryz.func21, Tryz.ntmps21
  go_wp2
  go_ret2
  exact ⟨by unfold zaU; rw [if_pos H2.out]; rfl, Below.refl _ _⟩
 ·have hsm : (s.size : Int) <= 600 := by omega
  have HE := zh (show ∀ B e w', (match lexL s.data.toList with
   | none => e = .returned (.tuple #[.slice none 0 0, .int .i64 2])
   | some ws => ∃ v, e = .returned (.tuple #[v, .int .i64 0]) /\ w'.ownsRow B 78 3 v ws.length (zcU ws)) -> zaU B s.data.toList e w' by
   intro B e w' h; unfold zaU; rw [if_neg (by omega)]; exact h)
  have HZ := zh hz
  have HF := zh (fun pos W (hp : pos < s.size) => (zd6 (s.extract pos s.size) (by rw [zaF]; exact za6 hp) W).mono (R' := fun e w' => e = .returned (.int .i32 (rune (s.data.toList.drop pos))) /\ Below W.heap.size W w') (fun e w' ⟨h1, h2⟩ => ⟨by rw [h1, zaF], h2⟩))
  have HT := zh (fun pos W (hp : pos < s.size) => (dtoken_any (s.extract pos s.size) (by rw [zaF]; exact za6 hp) W (by rw [ByteArray.size_extract]; omega)).mono (R' := fun e w' => e = .returned (tokV (zam (s.data.toList.drop pos))) /\ Below W.heap.size W w') (fun e w' ⟨h1, h2⟩ => ⟨by rw [h1, zaF], h2⟩))
  have CK := zh (fun r W => rkind_any r W)
  clear hs hbig hz
  obtain ⟨i0, hi, hz0, hz1, hz2⟩ := info_parts zgZ
  go_enter Tryz.func21, Tryz.ntmps21
  go_wp2
  go_loopw [4, 5] (fun v4 v5 wr => ∃ (i : Nat) (ws : List Wd), v5 = .int .i64 i /\ Hid (Below w.heap.size w wr) /\ wr.ownsRow w.heap.size 78 3 v4 ws.length (zcU ws)
   /\ Hid ((zbr i (s.data.toList.drop i)).map (ws ++ ·) = lexL s.data.toList) /\ ws.length <= i /\ i <= s.size) (fun _ v5 _ => s.size - (intOf v5).toNat)
  case atStart => exact ⟨0, [], rfl, Below.refl _ _, World.ownsRow_nil _ _ _ _, (by show _ = _; rw [zg5, List.drop_zero]; cases zbr 0 s.data.toList <;> simp), Nat.le_refl _, Nat.zero_le _⟩
  case round =>
   obtain ⟨q, ws, rfl, HB, hown, H, hwq, hqs⟩ := hrel
   have hzw := HB.out.size
   by_cases hp : q < s.size
   ·have q1 : (q : Int) < s.size := by omega
    have C1 := zh (fun W => HF.out q W hp)
    have C2 := zh (fun W => HT.out q W hp)
    by_cases hk : zaj (rune (s.data.toList.drop q)) = 3
    ·have H2 := zh (show (zbr (q + 1) (s.data.toList.drop (q + 1))).map (ws ++ ·) = lexL s.data.toList by
      rw [<- H.out, zbM q (za6 hp) hk, List.drop_drop])
     generalize rune (s.data.toList.drop q) = r at *
     have HO := zh hown
     clear H C2 hown
     go_wp2_with fail
     refine (C1.out _).mono ?_
     rintro e w1 ⟨rfl, b1⟩
     have HB1 := zh (HB.out.trans (b1.mono hzw))
     have ho1 := own_below HO.out b1
     clear b1
     go_wp2_with fail
     refine (CK.out _ _).mono ?_
     rintro e w1' ⟨rfl, rfl⟩
     go_wp2
     go_roundw
     case rel => exact ⟨q + 1, ws, by go_num, HB1, ho1, H2, by omega, by omega⟩
     case measure => simp [intOf]; omega
    ·have hkk : (zaj (rune (s.data.toList.drop q)) == 3) = false := by simp [hk]
     cases hf : zam (s.data.toList.drop q) with
     | none =>
       have H2 := zh (show lexL s.data.toList = none by rw [<- H.out, zcg q (za6 hp) hk hf]; rfl)
       rw [hf, show tokV none = .tuple #[.agg #[.int .i64 0, .int .i64 0, .string ⟨#[]⟩], .int .i64 0] from rfl] at C2
       generalize rune (s.data.toList.drop q) = r at *
       clear hf H hk hown
       go_wp2_with fail
       refine (C1.out _).mono ?_
       rintro e w1 ⟨rfl, b1⟩
       have HB1 := zh (HB.out.trans (b1.mono hzw))
       clear b1
       go_wp2_with fail
       refine (CK.out _ _).mono ?_
       rintro e w1' ⟨rfl, rfl⟩
       go_wp2_with fail
       refine (C2.out _).mono ?_
       rintro e w2 ⟨rfl, b2⟩
       have HB2 := zh (HB1.out.trans (b2.mono HB1.out.size))
       have hz3 := HB2.out.size
       clear b2
       go_wp2
       go_ret2
       refine ⟨HE.out _ _ _ ?_, HB2.out.alloc hz3 _⟩
       rw [H2.out]
       rfl
     | some t =>
       obtain ⟨k, tx, n⟩ := t
       have hn := zb5 (za6 hp) hf
       have hn1 : 1 <= n := hn.1
       have hn2 : q + n <= s.size := by have := hn.2.1; rw [List.length_drop, HZ.out] at this; have h3 : n <= s.size - q := this; omega
       have H3 := zh (show (zbr (q + n) (s.data.toList.drop (q + n))).map ((ws ++ [(k, q, tx)]) ++ ·) = lexL s.data.toList by
        rw [<- H.out, zc6 q (za6 hp) hk hf, List.drop_drop]
        show _ = Option.map _ (Option.map _ (zbr (q + n) (s.data.toList.drop (q + n))))
        cases zbr (q + n) (s.data.toList.drop (q + n)) <;> simp)
       rw [hf, show tokV (some (k, tx, n)) = .tuple #[.agg #[.int .i64 (k : Nat), .int .i64 0, .string ⟨tx.toArray⟩], .int .i64 (n : Nat)] from rfl] at C2
       generalize rune (s.data.toList.drop q) = r at *
       have HO := zh hown
       clear hf H hk hown hn
       go_wp2_with fail
       refine (C1.out _).mono ?_
       rintro e w1 ⟨rfl, b1⟩
       have HB1 := zh (HB.out.trans (b1.mono hzw))
       have HO1 := zh (own_below HO.out b1)
       clear b1
       go_wp2_with fail
       refine (CK.out _ _).mono ?_
       rintro e w1' ⟨rfl, rfl⟩
       go_wp2_with fail
       refine (C2.out _).mono ?_
       rintro e w2 ⟨rfl, b2⟩
       have HB2 := zh (HB1.out.trans (b2.mono HB1.out.size))
       have hown3 := own_below HO1.out b2
       have hz3 := HB2.out.size
       clear b2
       go_wp2_with (at_builtin; go_must (refine wpList_append_own _ rfl _ _ 42 rfl w.heap.size 78 i0 (.agg #[.int .i64 0, .int .i64 0, .string ⟨#[]⟩]) 3 32 Tryz.underlying42 hi hz0 hz1 hz2 rfl (by decide) _ _ _ rfl ((hown3.alloc _).alloc _) ⟨w2.heap.size + 1, 0, none⟩ 1 1 [.int .i64 (k : Nat), .int .i64 (q : Nat), .string ⟨tx.toArray⟩] rfl rfl (zha _ _ _ _ _ _) (zi2 _ _ _) (by unfold maxLen; omega) (by omega) (by simp; omega) ?_); intro v' w3 hown' hgrow3 hnil3)
       have HB4 := zh (show Below w.heap.size w w3 from Below.grown ((HB2.out.alloc (by omega) _).alloc (by simp; omega) _) hgrow3 (by simp; omega) (fun j hj => by have := (hown3.lt _ hj).1; omega))
       have ho4 : w3.ownsRow w.heap.size 78 3 v' (ws ++ [(k, q, tx)]).length (zcU (ws ++ [(k, q, tx)])) := by
        rw [List.length_append, zeY]; exact hown'
       clear hown' hgrow3 hnil3 hown3
       go_roundw
       case rel => exact ⟨q + n, ws ++ [(k, q, tx)], by go_num, HB4, ho4, H3, by rw [List.length_append]; simp; omega, hn2⟩
       case measure => simp [intOf]; omega
   ·have q1 : (s.size : Int) <= q := by omega
    have H2 := zh (show lexL s.data.toList = some ws by rw [<- H.out, zaH hp, zfV]; simp)
    clear H
    go_wp2
    go_ret2
    refine ⟨HE.out _ _ _ ?_, HB.out⟩
    rw [H2.out]
    exact ⟨_, rfl, hown⟩
end Go.Proofs.YtbcemjhaecelnaaGreatDoor
end
