/- A walk: the statement on blanks. -/
import Derived.Test.YtphkodkenkiecaaDoorJq
namespace Go.Proofs.YtphkodkenkiecaaDoor
open Go.RowKit

theorem lex_place (l : List UInt8) : ∀ (a : Nat) (ws : List Wd), lexAt a l = some ws → ∀ w ∈ ws, w.2.1 ≤ a + l.length := by
  induction l using lex_induct with
  | h0 => intro a ws h; obtain rfl : [] = ws := Option.some.inj h; intro w hw; cases hw
  | h1 l hne ih =>
    intro a ws h
    have hl : 0 < l.length := List.length_pos_iff.2 hne
    by_cases h3 : kindZ (rune l) = 3
    · rw [lexAt_blank a hne h3] at h
      intro w hw
      have := ih _ (by rw [List.length_drop]; omega) _ _ h w hw
      rw [List.length_drop] at this; omega
    · cases hf : firstL l with
      | none => rw [lexAt_none a hne h3 hf] at h; cases h
      | some t =>
        have hb1 := first_len hne hf
        rw [lexAt_tok a hne h3 hf] at h
        cases hx : lexAt (a + t.2.2) (l.drop t.2.2) with
        | none => rw [hx] at h; cases h
        | some vs =>
          rw [hx] at h
          obtain rfl := Option.some.inj h
          intro w hw
          rcases List.mem_cons.1 hw with rfl | hw
          · show a ≤ _; omega
          · have := ih _ (by rw [List.length_drop]; omega) _ _ hx w hw
            rw [List.length_drop] at this; omega
theorem words_two (s : ByteArray) (hs : s.size ≤ 600) (w : World) (h : Env w) :
    Calls Tryd.prog 8 #[.string s] w fun e w' => (∃ o n c x, e = .returned (.tuple #[.slice o n c, .int .i64 x]) ∧ (x = 0 ∨ x = 2)) ∧ Below w.heap.size w w' := by
  cases hl : lexL s.data.toList with
  | none => exact (words_none s hl hs w h).mono fun e w' ⟨he, hb⟩ => ⟨⟨none, 0, 0, 2, he, .inr rfl⟩, hb⟩
  | some ws => exact (words_some s ws hl hs w h).mono fun e w' ⟨⟨o, c, he, _⟩, hb⟩ => ⟨⟨o, _, c, 0, he, .inl rfl⟩, hb⟩
theorem rkind_any (r : Int) (w : World) : Calls Tryd.prog 10 #[.int .i32 r] w fun e w' => e = .returned (.int .i64 (kindZ r)) ∧ w = w' := by
  go_enter Tryd.func10, Tryd.ntmps10
  go_wp2
  all_goals (go_ret; refine ⟨ret_int ?_, rfl⟩; first | rfl | skip)
  all_goals ((try simp only [beq_iff_eq, beq_eq_false_iff_ne] at *); unfold kindZ; repeat' split)
  all_goals omega
theorem gap_one (r : Nat) (h : r < 3) : ∃ b, ((⟨#[32, 9, 10]⟩ : ByteArray).extract r (r + 1)).data.toList = [b] ∧ blankB b = true := by
  have : r = 0 ∨ r = 1 ∨ r = 2 := by omega
  rcases this with rfl | rfl | rfl
  · exact ⟨32, by decide, by decide⟩
  · exact ⟨9, by decide, by decide⟩
  · exact ⟨10, by decide, by decide⟩
theorem five_data (a b c d e : ByteArray) : (a ++ b ++ c ++ d ++ e).data.toList = a.data.toList ++ b.data.toList ++ c.data.toList ++ d.data.toList ++ e.data.toList := by
  rw [ByteArray.data_append, ByteArray.data_append, ByteArray.data_append, ByteArray.data_append, Array.toList_append, Array.toList_append, Array.toList_append, Array.toList_append]

set_option maxHeartbeats 8000000 in
set_option maxRecDepth 100000 in
theorem blanks_any (s m : ByteArray) (n : Int) (w : World) (h : Env w) (hs : s.size ≤ maxLen) (hm : m.size ≤ maxLen) (hn : -9223372036854775808 ≤ n ∧ n ≤ 9223372036854775807) :
    Calls Tryd.prog 4 #[.string s, .string m, .int .i64 n] w fun e w' => e = .returned (.bool true) ∧ Below w.heap.size w w' := by
  unfold maxLen at hs hm
  have HE := Lib.hid h
  have cA := Lib.hid (fun W (hb : Below w.heap.size w W) => alive_any W (h.below hb))
  obtain ⟨n0, n1⟩ := hn
  by_cases hbad : 200 < s.size ∨ 200 < m.size ∨ n < 1 ∨ 20 < n
  · have i1 : (200 : Int) < s.size ∨ ((s.size : Int) ≤ 200 ∧ (200 : Int) < m.size) ∨ ((s.size : Int) ≤ 200 ∧ (m.size : Int) ≤ 200 ∧ n < 1) ∨ ((s.size : Int) ≤ 200 ∧ (m.size : Int) ≤ 200 ∧ 1 ≤ n ∧ 20 < n) := by omega
    clear hbad h
    rcases i1 with i1 | ⟨i1, i2⟩ | ⟨i1, i2, i3⟩ | ⟨i1, i2, i3, i4⟩
    all_goals
      go_enter Tryd.func4, Tryd.ntmps4
      go_wp2_with (go_at_call 7; refine (cA.out _ (Below.refl _ _)).mono ?_; rintro e w1 ⟨rfl, b1⟩)
      go_ret
      exact ⟨rfl, b1⟩
  · obtain ⟨nn, rfl⟩ := Int.eq_ofNat_of_zero_le (show 0 ≤ n by omega)
    have i1 : (s.size : Int) ≤ 200 := by omega
    have i2 : (m.size : Int) ≤ 200 := by omega
    have i3 : (1 : Int) ≤ nn := by omega
    have i4 : (nn : Int) ≤ 20 := by omega
    have i5 : nn ≤ 20 := by omega
    clear hbad h n0 n1 hs hm
    have key : (∃ a b, lexL s.data.toList = some a ∧ lexL m.data.toList = some b) ∨ lexL s.data.toList = none ∨ ((∃ a, lexL s.data.toList = some a) ∧ lexL m.data.toList = none) := by
      cases h1 : lexL s.data.toList with
      | none => exact .inr (.inl rfl)
      | some a =>
        cases h2 : lexL m.data.toList with
        | none => exact .inr (.inr ⟨⟨a, rfl⟩, rfl⟩)
        | some b => exact .inl ⟨a, b, rfl, rfl⟩
    rcases key with ⟨a, b, ha, hb⟩ | ha | ⟨⟨a, ha⟩, hb⟩
    · have C1 := Lib.hid (fun W (hb : Below w.heap.size w W) => words_some s a ha (by omega) W (HE.out.below hb))
      have C2 := Lib.hid (fun W (hc : Below w.heap.size w W) => words_some m b hb (by omega) W (HE.out.below hc))
      have hPA := lex_place s.data.toList 0 a ha
      have hPB := lex_place m.data.toList 0 b hb
      have hna2 := lex_few s.data.toList 0 a ha
      have hnb2 := lex_few m.data.toList 0 b hb
      rw [← Lib.size_eq] at hPA hPB hna2 hnb2
      have HPA := Lib.hid hPA
      have HPB := Lib.hid hPB
      have HA := Lib.hid ha
      have HB := Lib.hid hb
      obtain ⟨na, hna⟩ : ∃ na, a.length = na := ⟨_, rfl⟩
      obtain ⟨nb, hnb⟩ : ∃ nb, b.length = nb := ⟨_, rfl⟩
      rw [hna] at C1 hna2
      rw [hnb] at C2 hnb2
      have HNA := Lib.hid hna
      have HNB := Lib.hid hnb
      have i6 : (na : Int) ≤ 200 := by omega
      have i7 : (nb : Int) ≤ 200 := by omega
      clear ha hb hna hnb hPA hPB hna2 hnb2
      go_enter Tryd.func4, Tryd.ntmps4
      go_wp2_with fail
      refine (cA.out _ (Below.refl _ _)).mono ?_
      rintro e w1 ⟨rfl, b1⟩
      have B1 := Lib.hid b1
      clear b1
      go_wp2_with fail
      refine (C1.out _ B1.out).mono ?_
      rintro e w2 ⟨⟨o1, c1, rfl, hS1⟩, b2⟩
      have B2 := Lib.hid (B1.out.trans (b2.mono B1.out.size))
      go_wp2_with fail
      refine (C2.out _ B2.out).mono ?_
      rintro e w3 ⟨⟨o2, c2, rfl, hS2⟩, b3⟩
      have B3 := Lib.hid (B2.out.trans (b3.mono B2.out.size))
      have S12 := Lib.hid (hS1.below b3)
      have S22 := Lib.hid hS2
      clear b2 b3 hS1 hS2
      go_wp2
      go_loop [11, 12] (fun v8 v9 => ∃ (k : Nat) (t : ByteArray), v9 = .int .i64 k ∧ v8 = .string t ∧ Hid (∀ c ∈ t.data.toList, blankB c = true) ∧ k ≤ nn ∧ t.size = k) (fun _ v9 => nn - (intOf v9).toNat)
      case atStart => exact ⟨0, ⟨#[]⟩, rfl, rfl, (by show ∀ c ∈ ([] : List UInt8), _; intro c hc; cases hc), Nat.zero_le _, rfl⟩
      case round =>
        obtain ⟨k, t, rfl, rfl, HT, hk, hts⟩ := hrel
        by_cases hkz : k < nn
        · have j1 : (k : Int) < nn := by omega
          have j2 : (t.size : Int) ≤ 20 := by omega
          obtain ⟨r, hr⟩ : ∃ r : Nat, (k : Int) % 3 = r := ⟨k % 3, by omega⟩
          have j3 : (r : Int) ≤ 2 := by omega
          obtain ⟨g, hg1, hg2⟩ := gap_one r (by omega)
          have hgs : ((⟨#[32, 9, 10]⟩ : ByteArray).extract r (r + 1)).size = 1 := by rw [Lib.size_eq, hg1]; rfl
          have H2 := Lib.hid (show ∀ c ∈ (t ++ (⟨#[32, 9, 10]⟩ : ByteArray).extract r (r + 1)).data.toList, blankB c = true by
            rw [ByteArray.data_append, Array.toList_append, hg1]
            intro c hc
            rcases List.mem_append.1 hc with hc | hc
            · exact HT.out c hc
            · simp at hc; subst hc; exact hg2)
          have H3 := Lib.hid (show (t ++ (⟨#[32, 9, 10]⟩ : ByteArray).extract r (r + 1)).size = k + 1 by rw [ByteArray.size_append, hts, hgs])
          clear hts hg1 hg2 HT hgs
          go_wp2
          go_round
          case rel => exact ⟨k + 1, _, by go_num, rfl, H2, by omega, H3.out⟩
          case measure => simp [intOf]; omega
        · obtain rfl : k = nn := by omega
          have j1 : (t.size : Int) ≤ 20 := by omega
          have hTs : (t ++ s ++ t ++ m ++ t).size ≤ 600 := by rw [ByteArray.size_append, ByteArray.size_append, ByteArray.size_append, ByteArray.size_append]; omega
          have hT5 : lexL (t ++ s ++ t ++ m ++ t).data.toList = some (a.map (shiftW k) ++ b.map (shiftW (2 * k + s.size))) := by
            rw [five_data]
            have := blanks_all t.data.toList s.data.toList m.data.toList HT.out (by intro h0; have := congrArg List.length h0; rw [← Lib.size_eq, List.length_nil] at this; omega) a b HA.out HB.out
            rw [← Lib.size_eq, ← Lib.size_eq, hts] at this
            exact this
          have cT := Lib.hid (fun W (hb : Below w.heap.size w W) => words_some (t ++ s ++ t ++ m ++ t) _ hT5 hTs W (HE.out.below hb))
          rw [List.length_append, List.length_map, List.length_map, HNA.out, HNB.out] at cT
          obtain ⟨cs, hcs⟩ : ∃ cs, cs = a.map (shiftW k) ++ b.map (shiftW (2 * k + s.size)) := ⟨_, rfl⟩
          rw [← hcs] at cT
          have HCS := Lib.hid hcs
          obtain ⟨nc, hnc⟩ : ∃ nc, na + nb = nc := ⟨_, rfl⟩
          rw [hnc] at cT
          have SM := Lib.hid (show (na : Int) + nb = nc by omega)
          have SW := Lib.hid (show IntKind.i64.wrap (nc : Int) = nc from IntWalk.i64_in _ (by omega))
          have j5 : (nc : Int) ≤ 400 := by omega
          clear hts hkz hk hTs hT5 hcs HT
          go_wp2_with fail
          refine (cT.out _ B3.out).mono ?_
          rintro e w4 ⟨⟨o, cc, rfl, hS⟩, b4⟩
          have B4 := Lib.hid (B3.out.trans (b4.mono B3.out.size))
          have S1 := Lib.hid (S12.out.below b4)
          have S2 := Lib.hid (S22.out.below b4)
          have S3 := Lib.hid hS
          have sm := SM.out
          clear b4 hS
          go_wp2_with fail
          have HSM := Lib.hid sm
          clear sm hnc
          go_loopw [15, 16, 17] (fun v15 _ _ wr => ∃ (i : Nat), v15 = .int .i64 i ∧ i ≤ nc ∧ Hid (Below w4.heap.size w4 wr)) (fun v15 _ _ _ => nc - (intOf v15).toNat)
          case atStart => exact ⟨0, rfl, Nat.zero_le _, Below.refl _ _⟩
          case round =>
            obtain ⟨i, rfl, hi, HBr⟩ := hrel
            by_cases hic : i < nc
            · have q1 : (i : Int) < nc := by omega
              have q0 : (0 : Int) ≤ i := by omega
              have hzr := HBr.out.size
              by_cases hia : i < na
              · have q2 : (i : Int) < na := by omega
                obtain ⟨x, hx⟩ : ∃ x, a[i]? = some x := ⟨a[i]'(by rw [HNA.out]; exact hia), List.getElem?_eq_getElem _⟩
                have hy : cs[i]? = some (shiftW k x) := by
                  rw [HCS.out, List.getElem?_append_left (by rw [List.length_map, HNA.out]; exact hia), List.getElem?_map, hx]; rfl
                have hpl := HPA.out x (List.mem_of_getElem? hx)
                obtain ⟨p1, f1, rfl, hp1, hc1⟩ := (S1.out.below HBr.out).open (by intro h0; rw [h0] at hx; simp at hx)
                obtain ⟨x0, x1, x2⟩ := hc1 i _ hx
                obtain ⟨p3, f3, rfl, hp3, hc3⟩ := (S3.out.below HBr.out).open (by intro h0; rw [h0] at hy; simp at hy)
                obtain ⟨y0, y1, y2⟩ := hc3 i _ hy
                clear hc3 hc1 hx hy hia
                obtain ⟨xk, xa, xt⟩ := x
                dsimp only [shiftW] at x0 x1 x2 y0 y1 y2 hpl
                obtain ⟨ya, hya⟩ : ∃ ya, xa + k = ya := ⟨_, rfl⟩
                rw [hya] at y1
                have SM2 := Lib.hid (show (xa : Int) + k = ya by omega)
                have SW2 := Lib.hid (show IntKind.i64.wrap (ya : Int) = ya from IntWalk.i64_in _ (by omega))
                have j7 : (ya : Int) ≤ 400 := by omega
                have j8 : (xa : Int) ≤ 300 := by omega
                clear hya hpl
                have sm2 := SM2.out
                have sw2 := SW2.out
                go_wp2_with fail
                go_quiet (fail)
                go_wp2
                go_roundw
                case rel => exact ⟨i + 1, by go_num, by omega, (HBr.out.alloc hzr _).trans ⟨rfl, rfl, rfl, Nat.le_refl _, fun _ _ => rfl⟩⟩
                case measure => simp [intOf]; omega
              · have q2 : (na : Int) ≤ i := by omega
                obtain ⟨j, hj⟩ : ∃ j, i = na + j := ⟨i - na, by omega⟩
                obtain ⟨x, hx⟩ : ∃ x, b[j]? = some x := ⟨b[j]'(by rw [HNB.out]; have := HSM.out; omega), List.getElem?_eq_getElem _⟩
                obtain ⟨z, hz⟩ : ∃ z, 2 * k + s.size = z := ⟨_, rfl⟩
                have hy : cs[i]? = some (shiftW z x) := by
                  rw [HCS.out, List.getElem?_append_right (by rw [List.length_map, HNA.out]; omega), List.length_map, HNA.out, show i - na = j by omega, List.getElem?_map, hx, hz]; rfl
                have hpl := HPB.out x (List.mem_of_getElem? hx)
                obtain ⟨p1, f1, rfl, hp1, hc1⟩ := (S2.out.below HBr.out).open (by intro h0; rw [h0] at hx; simp at hx)
                obtain ⟨x0, x1, x2⟩ := hc1 j _ hx
                obtain ⟨p3, f3, rfl, hp3, hc3⟩ := (S3.out.below HBr.out).open (by intro h0; rw [h0] at hy; simp at hy)
                obtain ⟨y0, y1, y2⟩ := hc3 i _ hy
                have SJ := Lib.hid (show (i : Int) - na = j by omega)
                have SZ := Lib.hid (show 2 * (k : Int) + s.size = z by omega)
                have j9 : (j : Int) < nb := by have := HSM.out; omega
                clear hc3 hc1 hx hy hia
                obtain ⟨xk, xa, xt⟩ := x
                dsimp only [shiftW] at x0 x1 x2 y0 y1 y2 hpl
                obtain ⟨ya, hya⟩ : ∃ ya, xa + z = ya := ⟨_, rfl⟩
                rw [hya] at y1
                have SM2 := Lib.hid (show (xa : Int) + z = ya by omega)
                have SW2 := Lib.hid (show IntKind.i64.wrap (ya : Int) = ya from IntWalk.i64_in _ (by omega))
                have j7 : (ya : Int) ≤ 800 := by omega
                have j8 : (xa : Int) ≤ 300 := by omega
                have j10 : (z : Int) ≤ 300 := by omega
                clear hya hpl hz hj
                have sm2 := SM2.out
                have sw2 := SW2.out
                have sj := SJ.out
                have sz := SZ.out
                go_wp2_with fail
                go_quiet (fail)
                go_wp2
                go_roundw
                case rel => exact ⟨i + 1, by go_num, by omega, (HBr.out.alloc hzr _).trans ⟨rfl, rfl, rfl, Nat.le_refl _, fun _ _ => rfl⟩⟩
                case measure => simp [intOf]; omega
            · have q1 : (nc : Int) ≤ i := by omega
              have CK := Lib.hid (fun W => (rkind_any 32 W).mono (R' := fun e w' => e = .returned (.int .i64 3) ∧ W = w') (fun e w' ⟨h1, h2⟩ => ⟨by rw [h1, show kindZ 32 = 3 by decide], h2⟩))
              go_wp2_with fail
              refine (CK.out _).mono ?_
              rintro e w5 ⟨rfl, rfl⟩
              go_wp2
              go_ret
              exact ⟨rfl, B4.out.trans (HBr.out.mono B4.out.size)⟩
    · have C1 := Lib.hid (fun W (hb : Below w.heap.size w W) => words_none s ha (by omega) W (HE.out.below hb))
      have C2 := Lib.hid (fun W (hb : Below w.heap.size w W) => words_gen m (by omega) W (HE.out.below hb))
      clear ha
      go_enter Tryd.func4, Tryd.ntmps4
      go_wp2_with fail
      refine (cA.out _ (Below.refl _ _)).mono ?_
      rintro e w1 ⟨rfl, b1⟩
      have B1 := Lib.hid b1
      clear b1
      go_wp2_with fail
      refine (C1.out _ B1.out).mono ?_
      rintro e w2 ⟨rfl, b2⟩
      have B2 := Lib.hid (B1.out.trans (b2.mono B1.out.size))
      go_wp2_with fail
      refine (C2.out _ B2.out).mono ?_
      rintro e w3 ⟨⟨o2, k2, c2, x2, rfl⟩, b3⟩
      have B3 := Lib.hid (B2.out.trans (b3.mono B2.out.size))
      clear b2 b3
      go_wp2
      go_loop [11, 12] (fun v8 v9 => ∃ (k : Nat) (t : ByteArray), v9 = .int .i64 k ∧ v8 = .string t ∧ Hid (∀ c ∈ t.data.toList, blankB c = true) ∧ k ≤ nn ∧ t.size = k) (fun _ v9 => nn - (intOf v9).toNat)
      case atStart => exact ⟨0, ⟨#[]⟩, rfl, rfl, (by show ∀ c ∈ ([] : List UInt8), _; intro c hc; cases hc), Nat.zero_le _, rfl⟩
      case round =>
        obtain ⟨k, t, rfl, rfl, HT, hk, hts⟩ := hrel
        by_cases hkz : k < nn
        · have j1 : (k : Int) < nn := by omega
          have j2 : (t.size : Int) ≤ 20 := by omega
          obtain ⟨r, hr⟩ : ∃ r : Nat, (k : Int) % 3 = r := ⟨k % 3, by omega⟩
          have j3 : (r : Int) ≤ 2 := by omega
          obtain ⟨g, hg1, hg2⟩ := gap_one r (by omega)
          have hgs : ((⟨#[32, 9, 10]⟩ : ByteArray).extract r (r + 1)).size = 1 := by rw [Lib.size_eq, hg1]; rfl
          have H2 := Lib.hid (show ∀ c ∈ (t ++ (⟨#[32, 9, 10]⟩ : ByteArray).extract r (r + 1)).data.toList, blankB c = true by
            rw [ByteArray.data_append, Array.toList_append, hg1]
            intro c hc
            rcases List.mem_append.1 hc with hc | hc
            · exact HT.out c hc
            · simp at hc; subst hc; exact hg2)
          have H3 := Lib.hid (show (t ++ (⟨#[32, 9, 10]⟩ : ByteArray).extract r (r + 1)).size = k + 1 by rw [ByteArray.size_append, hts, hgs])
          clear hts hg1 hg2 HT hgs
          go_wp2
          go_round
          case rel => exact ⟨k + 1, _, by go_num, rfl, H2, by omega, H3.out⟩
          case measure => simp [intOf]; omega
        · obtain rfl : k = nn := by omega
          have j1 : (t.size : Int) ≤ 20 := by omega
          have hTs : (t ++ s ++ t ++ m ++ t).size ≤ 600 := by rw [ByteArray.size_append, ByteArray.size_append, ByteArray.size_append, ByteArray.size_append]; omega
          have cT := Lib.hid (fun W (hb : Below w.heap.size w W) => words_two (t ++ s ++ t ++ m ++ t) hTs W (HE.out.below hb))
          clear hts hkz hk hTs
          go_wp2_with fail
          refine (cT.out _ B3.out).mono ?_
          rintro e w4 ⟨⟨o, n, cc, x, rfl, hx⟩, b4⟩
          have B4 := Lib.hid (B3.out.trans (b4.mono B3.out.size))
          clear b4
          rcases hx with rfl | rfl
          all_goals
            go_wp2
            go_ret
            exact ⟨rfl, B4.out⟩
    · have C1 := Lib.hid (fun W (hb : Below w.heap.size w W) => words_some s a ha (by omega) W (HE.out.below hb))
      have C2 := Lib.hid (fun W (hc : Below w.heap.size w W) => words_none m hb (by omega) W (HE.out.below hc))
      clear ha hb
      go_enter Tryd.func4, Tryd.ntmps4
      go_wp2_with fail
      refine (cA.out _ (Below.refl _ _)).mono ?_
      rintro e w1 ⟨rfl, b1⟩
      have B1 := Lib.hid b1
      clear b1
      go_wp2_with fail
      refine (C1.out _ B1.out).mono ?_
      rintro e w2 ⟨⟨o2, c2, rfl, _⟩, b2⟩
      have B2 := Lib.hid (B1.out.trans (b2.mono B1.out.size))
      go_wp2_with fail
      refine (C2.out _ B2.out).mono ?_
      rintro e w3 ⟨rfl, b3⟩
      have B3 := Lib.hid (B2.out.trans (b3.mono B2.out.size))
      clear b2 b3
      go_wp2
      go_loop [11, 12] (fun v8 v9 => ∃ (k : Nat) (t : ByteArray), v9 = .int .i64 k ∧ v8 = .string t ∧ Hid (∀ c ∈ t.data.toList, blankB c = true) ∧ k ≤ nn ∧ t.size = k) (fun _ v9 => nn - (intOf v9).toNat)
      case atStart => exact ⟨0, ⟨#[]⟩, rfl, rfl, (by show ∀ c ∈ ([] : List UInt8), _; intro c hc; cases hc), Nat.zero_le _, rfl⟩
      case round =>
        obtain ⟨k, t, rfl, rfl, HT, hk, hts⟩ := hrel
        by_cases hkz : k < nn
        · have j1 : (k : Int) < nn := by omega
          have j2 : (t.size : Int) ≤ 20 := by omega
          obtain ⟨r, hr⟩ : ∃ r : Nat, (k : Int) % 3 = r := ⟨k % 3, by omega⟩
          have j3 : (r : Int) ≤ 2 := by omega
          obtain ⟨g, hg1, hg2⟩ := gap_one r (by omega)
          have hgs : ((⟨#[32, 9, 10]⟩ : ByteArray).extract r (r + 1)).size = 1 := by rw [Lib.size_eq, hg1]; rfl
          have H2 := Lib.hid (show ∀ c ∈ (t ++ (⟨#[32, 9, 10]⟩ : ByteArray).extract r (r + 1)).data.toList, blankB c = true by
            rw [ByteArray.data_append, Array.toList_append, hg1]
            intro c hc
            rcases List.mem_append.1 hc with hc | hc
            · exact HT.out c hc
            · simp at hc; subst hc; exact hg2)
          have H3 := Lib.hid (show (t ++ (⟨#[32, 9, 10]⟩ : ByteArray).extract r (r + 1)).size = k + 1 by rw [ByteArray.size_append, hts, hgs])
          clear hts hg1 hg2 HT hgs
          go_wp2
          go_round
          case rel => exact ⟨k + 1, _, by go_num, rfl, H2, by omega, H3.out⟩
          case measure => simp [intOf]; omega
        · obtain rfl : k = nn := by omega
          have j1 : (t.size : Int) ≤ 20 := by omega
          have hTs : (t ++ s ++ t ++ m ++ t).size ≤ 600 := by rw [ByteArray.size_append, ByteArray.size_append, ByteArray.size_append, ByteArray.size_append]; omega
          have cT := Lib.hid (fun W (hb : Below w.heap.size w W) => words_two (t ++ s ++ t ++ m ++ t) hTs W (HE.out.below hb))
          clear hts hkz hk hTs
          go_wp2_with fail
          refine (cT.out _ B3.out).mono ?_
          rintro e w4 ⟨⟨o, n, cc, x, rfl, hx⟩, b4⟩
          have B4 := Lib.hid (B3.out.trans (b4.mono B3.out.size))
          clear b4
          rcases hx with rfl | rfl
          all_goals
            go_wp2
            go_ret
            exact ⟨rfl, B4.out⟩
end Go.Proofs.YtphkodkenkiecaaDoor
