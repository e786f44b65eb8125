/- The law: of a file of which one bit is turned each page is what it was, or is told to be corrupt. -/
import Derived.Test.YtldlfmeppcdbbaaRum
import Derived.Test.YtldlfmeppcdbbaaCi
namespace Go.Proofs.Ytldlfmeppcdbbaa.Run
open Go.RowKit Go.Lib Go.Proofs.Ytldlfmeppcdbbaa.Crc Go.Proofs.Ytldlfmeppcdbbaa.Row Go.Proofs.Ytldlfmeppcdbbaa.Vec

theorem rows_want {w : World} {m F z : Nat} {oR : Option Addr} {R : List Rw} (hS : RowsS w 0 oR R) (hm : R.length = m) (hF : F < z) (hz : z ≤ m) : ∃ g off, oR = some ⟨g, off, none⟩ ∧ RowsS w 0 (some ⟨g, off + F * 2, none⟩) ((R.take z).drop F) := by
  obtain ⟨g, off, e, h⟩ := rows_part hS F (z - F) (by omega) (by omega)
  rw [show F + (z - F) = z by omega] at h
  exact ⟨g, off, e, h⟩
theorem ahead_step (z f i : Nat) (xs : List Rw) (h : i < z) : aheadL z (f + 1) i xs = ((catR (xs.take 8)).length + 10) + aheadL z f (i + 8) (xs.drop 8) := by
  rw [aheadL, if_pos h, frameL_len]
theorem readQ_turned (R : List Rw) (hok : ∀ x ∈ R, okX x = true) (p q : Nat) (c : UInt8) (hq : q < 8) (hc : (runF R)[p]? = some c) : readQ ((runF R).set p (flipB c q)) = none := by
  cases h : readQ ((runF R).set p (flipB c q)) with
  | none => rfl
  | some ys =>
    obtain ⟨h1, h2, _, _⟩ := (read_iff _ ys).1 h
    exact absurd h1 (turn_none R ys p q c hok h2 hq hc)

set_option maxHeartbeats 32000000 in
set_option maxRecDepth 100000 in
theorem turned_any (o : Option Addr) (n c : Nat) (bit frm len : Int) (xs : List Rw) (w : World) (B : Nat) (hn : xs.length = n) (hS : RowsS w B o xs) :
    Calls Try.prog 5 #[.slice o n c, .int .i64 bit, .int .i64 frm, .int .i64 len] w fun e w' => e = .returned (.bool true) ∧ Below w.heap.size w w' := by
  have HAL := Lib.hid (fun W => alive_any W)
  have HL := Lib.hid (lightR_any o n c xs w B hn hS)
  cases hl : lightR xs with
  | false =>
    rw [hl] at HL
    clear hl hn hS
    go_enter Try.func5, Try.ntmps5
    go_wp2_with fail
    refine HL.out.mono ?_
    rintro e w1 ⟨rfl, b1⟩
    have HB1 := Lib.hid b1
    clear b1
    go_wp2_with fail
    refine (HAL.out _).mono ?_
    rintro e w2 ⟨rfl, b2⟩
    have HB2 := Lib.hid (HB1.out.trans (b2.mono HB1.out.size))
    clear b2
    go_wp2
    go_ret
    exact ⟨rfl, HB2.out⟩
  | true =>
  rw [hl] at HL
  by_cases hs1 : frm < 0
  · clear hl hn hS
    go_enter Try.func5, Try.ntmps5
    go_wp2_with fail
    refine HL.out.mono ?_
    rintro e w1 ⟨rfl, b1⟩
    have HB1 := Lib.hid b1
    clear b1
    go_wp2_with fail
    refine (HAL.out _).mono ?_
    rintro e w2 ⟨rfl, b2⟩
    have HB2 := Lib.hid (HB1.out.trans (b2.mono HB1.out.size))
    clear b2
    go_wp2
    go_ret
    exact ⟨rfl, HB2.out⟩
  have hs1' : 0 ≤ frm := by omega
  by_cases hs2 : len < 0
  · clear hs1
    clear hl hn hS
    go_enter Try.func5, Try.ntmps5
    go_wp2_with fail
    refine HL.out.mono ?_
    rintro e w1 ⟨rfl, b1⟩
    have HB1 := Lib.hid b1
    clear b1
    go_wp2_with fail
    refine (HAL.out _).mono ?_
    rintro e w2 ⟨rfl, b2⟩
    have HB2 := Lib.hid (HB1.out.trans (b2.mono HB1.out.size))
    clear b2
    go_wp2
    go_ret
    exact ⟨rfl, HB2.out⟩
  have hs2' : 0 ≤ len := by omega
  clear hs1 hs2
  obtain ⟨F, rfl⟩ : ∃ F : Nat, frm = F := ⟨frm.toNat, by omega⟩
  obtain ⟨R, hR⟩ : ∃ R, vecT xs = R := ⟨_, rfl⟩
  obtain ⟨m, hm⟩ : ∃ m, R.length = m := ⟨_, rfl⟩
  have hRo : ∀ x ∈ R, okX x = true := by rw [← hR]; exact okX_vec xs
  have hm6 : m ≤ 60 := by rw [← hm, ← hR]; exact Nat.le_trans (vecT_len xs) (lightR_mk hl).1
  have HT := Lib.hid (fun (W : World) (hb : Below w.heap.size w W) => tidy_file o n c xs W B hn hl (hS.below frow hb) R hR m hm)
  have HM := Lib.hid hm
  have HRO := Lib.hid hRo
  clear hl hn hS hR hm
  by_cases h1 : (runF R).length ≤ 60000
  case neg =>
    go_enter Try.func5, Try.ntmps5
    go_wp2_with fail
    refine HL.out.mono ?_
    rintro e w1 ⟨rfl, b1⟩
    have HB1 := Lib.hid b1
    clear b1
    go_wp2_with fail
    refine (HAL.out _).mono ?_
    rintro e w2 ⟨rfl, b2⟩
    have HB2 := Lib.hid (HB1.out.trans (b2.mono HB1.out.size))
    clear b2
    go_wp2_with fail
    refine (HT.out _ HB2.out).mono ?_
    rintro e w4 ⟨⟨oR, cR, us, rfl, hO, hc⟩, b4⟩
    have HB4 := Lib.hid (HB2.out.trans (b4.mono HB2.out.size))
    have HO4 := Lib.hid hO
    have HC := Lib.hid hc
    clear b4 hO hc
    go_wp2_with fail
    refine (make_own HO4.out HM.out (by omega) HC.out HRO.out).mono ?_
    rintro e w5 ⟨rfl, b5⟩
    have HB5 := Lib.hid (HB4.out.trans (b5.mono HB4.out.size))
    have HS5 := Lib.hid (own_rows (HO4.out.below frow b5))
    clear b5 HO4
    rw [makeV_no h1]
    clear h1
    go_wp2
    go_ret
    exact ⟨rfl, HB5.out⟩
  case pos =>
  obtain ⟨s, hs⟩ : ∃ s : ByteArray, ⟨(runF R).toArray⟩ = s := ⟨_, rfl⟩
  have hsd : s.data.toList = runF R := by rw [← hs, Crc.str_data]
  have hmk := makeV_ok h1
  rw [hs] at hmk
  by_cases hFm : m < F
  · have j0 : (m : Int) < F := by omega
    go_enter Try.func5, Try.ntmps5
    go_wp2_with fail
    refine HL.out.mono ?_
    rintro e w1 ⟨rfl, b1⟩
    have HB1 := Lib.hid b1
    clear b1
    go_wp2_with fail
    refine (HAL.out _).mono ?_
    rintro e w2 ⟨rfl, b2⟩
    have HB2 := Lib.hid (HB1.out.trans (b2.mono HB1.out.size))
    clear b2
    go_wp2_with fail
    refine (HT.out _ HB2.out).mono ?_
    rintro e w4 ⟨⟨oR, cR, us, rfl, hO, hc⟩, b4⟩
    have HB4 := Lib.hid (HB2.out.trans (b4.mono HB2.out.size))
    have HO4 := Lib.hid hO
    have HC := Lib.hid hc
    clear b4 hO hc
    go_wp2_with fail
    refine (make_own HO4.out HM.out (by omega) HC.out HRO.out).mono ?_
    rintro e w5 ⟨rfl, b5⟩
    have HB5 := Lib.hid (HB4.out.trans (b5.mono HB4.out.size))
    have HS5 := Lib.hid (own_rows (HO4.out.below frow b5))
    clear b5 HO4
    rw [hmk]
    clear h1 hFm hs hsd
    go_wp2
    go_ret
    exact ⟨rfl, HB5.out⟩
  have j0 : (F : Int) ≤ m := by omega
  obtain ⟨N, hsz⟩ : ∃ N, s.size = N := ⟨_, rfl⟩
  have hlen : (runF R).length = N := by rw [← hsd, ← Lib.size_eq, hsz]
  have hN28 : 28 ≤ N := by
    rw [← hlen, run_parts, List.length_append, List.length_append, frameL_len, frameL_len, List.length_append, numB_len]
    have h3 : lep.length = 3 := rfl
    have h4 : fin.length = 3 := rfl
    omega
  have hN6 : N ≤ 60000 := by omega
  obtain ⟨M, hM⟩ : ∃ M : Nat, 8 * N = M := ⟨_, rfl⟩
  have i1 : 8 * (N : Int) = M := by omega
  have i2 : (M : Int) ≤ 480000 := by omega
  have i3 : (0 : Int) < M := by omega
  obtain ⟨k, hk⟩ : ∃ k, placeN bit M = k := ⟨_, rfl⟩
  have hkM : k < M := by rw [← hk]; exact place_lt bit M (by omega)
  have hpl := place_is bit M (by omega)
  rw [hk] at hpl
  obtain ⟨r, hr⟩ : ∃ r, bit.tmod (M : Int) = r := ⟨_, rfl⟩
  rw [hr] at hpl
  have r1 : -(M : Int) < r := by rw [← hr]; exact Int.lt_tmod_of_pos bit (by omega)
  have r2 : r < M := by rw [← hr]; exact Int.tmod_lt_of_pos bit (by omega)
  obtain ⟨t, ht⟩ : ∃ t, r + (M : Int) = t := ⟨_, rfl⟩
  rw [ht] at hpl
  have t1 : 0 < t := by omega
  have t2 : t < 1000000 := by omega
  obtain ⟨p, hp⟩ : ∃ p, k / 8 = p := ⟨_, rfl⟩
  obtain ⟨q, hq⟩ : ∃ q, k % 8 = q := ⟨_, rfl⟩
  have hpn : p < N := by omega
  have hq8 : q < 8 := by omega
  have j2 : (k : Int) / 8 = p := by omega
  have j3 : (k : Int) % 8 = q := by omega
  have j4 : (p : Int) < N := by omega
  have j5 : (q : Int) < 8 := by omega
  have hpl2 : p < (runF R).length := by omega
  obtain ⟨c0b, hcb⟩ : ∃ c0b, (runF R)[p] = c0b := ⟨_, rfl⟩
  have hc? : (runF R)[p]? = some c0b := by rw [List.getElem?_eq_getElem hpl2, hcb]
  obtain ⟨d, hd⟩ : ∃ d, flipB c0b q = d := ⟨_, rfl⟩
  have x1 := turn_bit c0b q
  rw [hd] at x1
  obtain ⟨u, hu⟩ : ∃ u : ByteArray, ⟨((runF R).set p d).toArray⟩ = u := ⟨_, rfl⟩
  have hud : u.data.toList = (runF R).set p d := by rw [← hu, Crc.str_data]
  have hus : u.size ≤ 1000000 := by rw [Lib.size_eq, hud, List.length_set]; omega
  have HRD := Lib.hid (fun (W : World) => (show Calls Try.prog 8 #[.string u] W fun e w' => e = .returned (.tuple #[.slice none 0 0, .int .i64 10]) ∧ Below W.heap.size W w' from by
    refine (read_any u W hus).mono ?_
    rintro e w' ⟨h1, h2⟩
    have hno := readQ_turned R hRo p q c0b hq8 hc?
    rw [hd, ← hud] at hno
    rw [hno] at h1
    exact ⟨h1, h2⟩))
  have HPG := Lib.hid (fun (W : World) => page_any u F len W hus)
  obtain ⟨z, hz⟩ : ∃ z, (if len < (m : Int) - F then ((F : Int) + len).toNat else m) = z := ⟨_, rfl⟩
  have hzm : z ≤ m := by rw [← hz]; split <;> omega
  have hFz : F ≤ z := by rw [← hz]; split <;> omega
  obtain ⟨M0, hM0⟩ : ∃ M0 : Nat, (if (m : Int) < len then (m : Int) else len) = M0 := ⟨(if (m : Int) < len then (m : Int) else len).toNat, by split <;> omega⟩
  have mn1 : ∀ (W : World) (ts : Array TypeId) (t : TypeId), (Builtin.min_ ts t #[.int .i64 len, .int .i64 (m : Int)]).run Try.prog W = .ok (.int .i64 (M0 : Int)) W := fun W ts t => by rw [run_min_int2, hM0]
  have hM0m : M0 ≤ m := by split at hM0 <;> omega
  have mn2 : ∀ (W : World) (ts : Array TypeId) (t : TypeId), (Builtin.min_ ts t #[.int .i64 (m : Int), .int .i64 ((F : Int) + M0)]).run Try.prog W = .ok (.int .i64 (z : Int)) W := fun W ts t => by
    rw [run_min_int2]
    congr 2
    split at hM0 <;> split at hz <;> split <;> omega
  have hW : (R.drop F).take len.toNat = (R.take z).drop F := by
    rw [List.drop_take]
    split at hz
    · rw [show z - F = len.toNat by omega]
    · rw [List.take_of_length_le (by rw [List.length_drop, HM.out]; omega), List.take_of_length_le (by rw [List.length_drop, HM.out]; omega)]
  have htp := turn_page R hRo (by rw [HM.out]; omega) F len (by omega) (by rw [HM.out]; omega) hs2' p q c0b hq8 hc?
  have htb := turn_behind R hRo (by rw [HM.out]; omega) F len (by omega) (by rw [HM.out]; omega) hs2' p q c0b hq8 hc?
  rw [hd, ← hud, Int.toNat_natCast, hW] at htp htb
  rw [HM.out, hz] at htb
  have hcv : ∀ W : World, (convert 9 36 (.string s)).run Try.prog W = .ok (.slice (some ⟨W.heap.size, 0, none⟩) N (grownCap W N 0 5)) (bytesWorld W 5 s) := fun W => by
    rw [Lib.run_convert_string_bytes (P := Try.prog) W 9 36 5 s Try.underlying9 Try.underlying36 Try.underlying5, hsz]
  have hzF0 : (F : Int) ≤ z := by omega
  have hzF1 : (z : Int) ≤ m := by omega
  have HLEN := Lib.hid hlen
  have HSD := Lib.hid hsd
  have HCB := Lib.hid hcb
  have HU := Lib.hid hu
  have HHS := Lib.hid hs
  have HTP := Lib.hid htp
  have HTB := Lib.hid htb
  have hlc : ∀ i k, (catR ((R.drop i).take k)).length ≤ 1463 * k := fun i k => by
    have h1 := catR_le ((R.drop i).take k) (fun x hx => hRo x (List.mem_of_mem_drop (List.mem_of_mem_take hx)))
    have h2 : ((R.drop i).take k).length ≤ k := by rw [List.length_take]; omega
    omega
  have HLC := Lib.hid hlc
  clear hRo hlc htp htb hW hz hM0 hud hus hu hd hcb hc? hq hp hk hM hlen hsd hs h1 hFm hkM
  obtain ⟨Wt, hWt⟩ : ∃ Wt, (R.take z).drop F = Wt := ⟨_, rfl⟩
  rw [hWt] at HTP HTB
  by_cases hzF : z ≤ F
  · -- nothing is wanted
    obtain rfl : F = z := by omega
    have hW0 : Wt = [] := by rw [← hWt]; exact List.drop_eq_nil_of_le (by rw [List.length_take]; omega)
    subst hW0
    rw [if_neg (Nat.lt_irrefl _)] at HTB
    clear hWt hzF
    rcases HTP.out with h10 | h00
    · have hp15 : (p : Int) < 15 := by
        have h : ¬ (15 + 0 ≤ p) := fun h => by
          have := HTB.out h
          rw [h10] at this; cases this
        omega
      have HPG10 := Lib.hid (fun (W : World) => (show Calls Try.prog 9 #[.string u, .int .i64 F, .int .i64 len] W fun e w' => (∃ o c, e = .returned (.tuple #[.slice o 0 c, .int .i64 10])) ∧ Below W.heap.size W w' from by
        refine (HPG.out W).mono ?_
        rintro e w' ⟨h1, h2⟩
        rw [h10] at h1
        obtain ⟨o, c, rfl, _⟩ := h1
        exact ⟨⟨_, _, rfl⟩, h2⟩))
      clear h10 HPG
      go_enter Try.func5, Try.ntmps5
      go_wp2_with fail
      refine HL.out.mono ?_
      rintro e w1 ⟨rfl, b1⟩
      have HB1 := Lib.hid b1
      clear b1
      go_wp2_with fail
      refine (HAL.out _).mono ?_
      rintro e w2 ⟨rfl, b2⟩
      have HB2 := Lib.hid (HB1.out.trans (b2.mono HB1.out.size))
      clear b2
      go_wp2_with fail
      refine (HT.out _ HB2.out).mono ?_
      rintro e w4 ⟨⟨oR, cR, us, rfl, hO, hc⟩, b4⟩
      have HB4 := Lib.hid (HB2.out.trans (b4.mono HB2.out.size))
      have HO4 := Lib.hid hO
      have HC := Lib.hid hc
      clear b4 hO hc
      go_wp2_with fail
      refine (make_own HO4.out HM.out (by omega) HC.out HRO.out).mono ?_
      rintro e w5 ⟨rfl, b5⟩
      have HB5 := Lib.hid (HB4.out.trans (b5.mono HB4.out.size))
      have HS5 := Lib.hid (own_rows (HO4.out.below frow b5))
      clear b5 HO4
      rw [hmk]
      go_wp2_with fail
      rw [hpl]
      clear ht hr
      obtain ⟨cap, hcap⟩ : ∃ cap, grownCap w5 N 0 5 = cap := ⟨_, rfl⟩
      rw [hcap]
      have hR0 := brow_new w5 s
      rw [HSD.out] at hR0
      have HB6 := Lib.hid (bytes_below w5 s)
      have hg5 := HB5.out.size
      obtain ⟨wb, hwb⟩ : ∃ wb, bytesWorld w5 5 s = wb := ⟨_, rfl⟩
      obtain ⟨g, hgg⟩ : ∃ g, w5.heap.size = g := ⟨_, rfl⟩
      rw [hwb] at hR0 HB6 ⊢
      rw [hgg] at hR0 HB6 hg5 ⊢
      have c0 := hR0.cell p hpl2
      have f0 := hR0.free p hpl2
      rw [HCB.out] at c0
      have R0 := Lib.hid hR0
      have HGG := Lib.hid hgg
      clear hR0 hcap hwb
      go_region
      have R1 := Lib.hid ((R0.out.set p hpl2 d).drew)
      have HB7 := Lib.hid ((HB6.out.setCell (p := ⟨g, p, none⟩) (Nat.le_refl _) (.int .u8 (d.toNat : Nat))).drew)
      obtain ⟨w6, hw6⟩ : ∃ w6, (wb.setCell ⟨g, p, none⟩ (.int .u8 (d.toNat : Nat))).drew = w6 := ⟨_, rfl⟩
      rw [hw6] at R1 HB7 ⊢
      have hll : ((runF R).set p d).length = N := by rw [List.length_set]; exact HLEN.out
      have hb1 := R1.out.back N cap hll u HU.out
      have HS6 := Lib.hid (HS5.out.below frow (show Below w5.heap.size w5 w6 by rw [HGG.out]; exact HB7.out))
      have HB8 := Lib.hid (show Below w.heap.size w w6 from HB5.out.trans (HB7.out.mono hg5))
      have hcR : (m : Int) ≤ cR := by have := HC.out; omega
      have hFc : (F : Int) ≤ cR := by omega
      clear hw6 c0 f0 x1 HB6 R0 hll hgg
      go_wp2_with fail
      all_goals (
        refine (HPG10.out _).mono ?_
        rintro e w7 ⟨⟨oP, cP, rfl⟩, b7⟩
        have HB9 := Lib.hid (HB8.out.trans (b7.mono HB8.out.size))
        have hb2 := (R1.out.below b7).back N cap (by rw [List.length_set]; exact HLEN.out) u HU.out
        have HS7 := Lib.hid (HS6.out.below frow b7)
        clear b7 hb1
        go_wp2_with fail
        refine (HRD.out _).mono ?_
        rintro e w8 ⟨rfl, b8⟩
        have HB10 := Lib.hid (HB9.out.trans (b8.mono HB9.out.size))
        have HS8 := Lib.hid (HS7.out.below frow b8)
        clear b8 hb2
        go_wp2
        go_loopw [18, 19, 20, 21] (fun v18 v19 _ _ wr => v18 = .int .i64 15 ∧ v19 = .int .i64 0 ∧ wr = w8) (fun _ _ _ _ _ => 0)
        case atStart => exact ⟨rfl, rfl, rfl⟩
        case round =>
          obtain ⟨rfl, rfl, rfl⟩ := hrel
          go_wp2
          all_goals (
            go_ret
            exact ⟨rfl, HB10.out⟩))
    · have HPG0 := Lib.hid (fun (W : World) => (show Calls Try.prog 9 #[.string u, .int .i64 F, .int .i64 len] W fun e w' => (∃ o c, e = .returned (.tuple #[.slice o 0 c, .int .i64 0]) ∧ RowsS w' 0 o []) ∧ Below W.heap.size W w' from by
        refine (HPG.out W).mono ?_
        rintro e w' ⟨h1, h2⟩
        rw [h00] at h1
        obtain ⟨o, c, rfl, _⟩ := h1
        exact ⟨⟨_, _, rfl, .inl rfl⟩, h2⟩))
      have HSM := Lib.hid (fun (o1 o2 : Option Addr) (c1 c2 : Nat) (W : World) => sameRows_any o1 o2 c1 c2 [] [] W (Nat.zero_le _) (Nat.zero_le _) 0 (.inl rfl) (.inl rfl))
      clear h00 HPG
      go_enter Try.func5, Try.ntmps5
      go_wp2_with fail
      refine HL.out.mono ?_
      rintro e w1 ⟨rfl, b1⟩
      have HB1 := Lib.hid b1
      clear b1
      go_wp2_with fail
      refine (HAL.out _).mono ?_
      rintro e w2 ⟨rfl, b2⟩
      have HB2 := Lib.hid (HB1.out.trans (b2.mono HB1.out.size))
      clear b2
      go_wp2_with fail
      refine (HT.out _ HB2.out).mono ?_
      rintro e w4 ⟨⟨oR, cR, us, rfl, hO, hc⟩, b4⟩
      have HB4 := Lib.hid (HB2.out.trans (b4.mono HB2.out.size))
      have HO4 := Lib.hid hO
      have HC := Lib.hid hc
      clear b4 hO hc
      go_wp2_with fail
      refine (make_own HO4.out HM.out (by omega) HC.out HRO.out).mono ?_
      rintro e w5 ⟨rfl, b5⟩
      have HB5 := Lib.hid (HB4.out.trans (b5.mono HB4.out.size))
      have HS5 := Lib.hid (own_rows (HO4.out.below frow b5))
      clear b5 HO4
      rw [hmk]
      go_wp2_with fail
      rw [hpl]
      clear ht hr
      obtain ⟨cap, hcap⟩ : ∃ cap, grownCap w5 N 0 5 = cap := ⟨_, rfl⟩
      rw [hcap]
      have hR0 := brow_new w5 s
      rw [HSD.out] at hR0
      have HB6 := Lib.hid (bytes_below w5 s)
      have hg5 := HB5.out.size
      obtain ⟨wb, hwb⟩ : ∃ wb, bytesWorld w5 5 s = wb := ⟨_, rfl⟩
      obtain ⟨g, hgg⟩ : ∃ g, w5.heap.size = g := ⟨_, rfl⟩
      rw [hwb] at hR0 HB6 ⊢
      rw [hgg] at hR0 HB6 hg5 ⊢
      have c0 := hR0.cell p hpl2
      have f0 := hR0.free p hpl2
      rw [HCB.out] at c0
      have R0 := Lib.hid hR0
      have HGG := Lib.hid hgg
      clear hR0 hcap hwb
      go_region
      have R1 := Lib.hid ((R0.out.set p hpl2 d).drew)
      have HB7 := Lib.hid ((HB6.out.setCell (p := ⟨g, p, none⟩) (Nat.le_refl _) (.int .u8 (d.toNat : Nat))).drew)
      obtain ⟨w6, hw6⟩ : ∃ w6, (wb.setCell ⟨g, p, none⟩ (.int .u8 (d.toNat : Nat))).drew = w6 := ⟨_, rfl⟩
      rw [hw6] at R1 HB7 ⊢
      have hll : ((runF R).set p d).length = N := by rw [List.length_set]; exact HLEN.out
      have hb1 := R1.out.back N cap hll u HU.out
      have HS6 := Lib.hid (HS5.out.below frow (show Below w5.heap.size w5 w6 by rw [HGG.out]; exact HB7.out))
      have HB8 := Lib.hid (show Below w.heap.size w w6 from HB5.out.trans (HB7.out.mono hg5))
      have hcR : (m : Int) ≤ cR := by have := HC.out; omega
      have hFc : (F : Int) ≤ cR := by omega
      clear hw6 c0 f0 x1 HB6 R0 hll hgg
      go_wp2_with fail
      all_goals (
        refine (HPG0.out _).mono ?_
        rintro e w7 ⟨⟨oP, cP, rfl, hP⟩, b7⟩
        have HB9 := Lib.hid (HB8.out.trans (b7.mono HB8.out.size))
        have hb2 := (R1.out.below b7).back N cap (by rw [List.length_set]; exact HLEN.out) u HU.out
        have HS7 := Lib.hid (HS6.out.below frow b7)
        have HP7 := Lib.hid hP
        have HB78 := Lib.hid b7
        clear b7 hb1 hP
        go_wp2_with fail
        refine (HRD.out _).mono ?_
        rintro e w8 ⟨rfl, b8⟩
        have HB10 := Lib.hid (HB9.out.trans (b8.mono HB9.out.size))
        have HS8 := Lib.hid (HS7.out.below frow b8)
        have HP8 := Lib.hid (HP7.out.below frow b8)
        have HB88 := Lib.hid (b8.mono HB78.out.size)
        clear b8 hb2
        go_wp2_with fail
        refine (HSM.out _ _ _ _ _).mono ?_
        rintro e w9 ⟨rfl, b9⟩
        have HB11 := Lib.hid (HB10.out.trans (b9.mono HB10.out.size))
        clear b9
        rw [show sameR [] [] = true from rfl]
        go_wp2
        go_loopw [18, 19, 20, 21] (fun v18 v19 _ _ wr => v18 = .int .i64 15 ∧ v19 = .int .i64 0 ∧ wr = w9) (fun _ _ _ _ _ => 0)
        case atStart => exact ⟨rfl, rfl, rfl⟩
        case round =>
          obtain ⟨rfl, rfl, rfl⟩ := hrel
          go_wp2
          all_goals (
            go_ret
            exact ⟨ret_bool (by simp), HB11.out⟩))
  · -- rows are wanted
    have hFz2 : F < z := by omega
    obtain ⟨nW, hnW⟩ : ∃ nW, z - F = nW := ⟨_, rfl⟩
    have HWL := Lib.hid (show Wt.length = nW by rw [← hWt, List.length_drop, List.length_take, HM.out]; omega)
    have e1 : (F : Int) + (nW : Int) = (z : Int) := by omega
    have jn : (0 : Int) < nW := by omega
    have jn2 : 0 < nW := by omega
    have hnW6 : nW ≤ 60 := by omega
    rw [if_pos hFz2] at HTB
    have HWT := Lib.hid hWt
    obtain ⟨AH, hAH⟩ : ∃ AH, aheadL z (m + 1) 0 R = AH := ⟨_, rfl⟩
    rw [hAH] at HTB
    have HAH := Lib.hid hAH
    have hz60 : z ≤ 60 := by omega
    clear hWt hzF hFz hAH
    rcases HTP.out with h10 | h00
    · have HPA := Lib.hid (show p < 15 + AH by
        have h : ¬ (15 + AH ≤ p) := fun h => by
          have := HTB.out h
          rw [h10] at this; cases this
        omega)
      have HPG10 := Lib.hid (fun (W : World) => (show Calls Try.prog 9 #[.string u, .int .i64 F, .int .i64 len] W fun e w' => (∃ o c, e = .returned (.tuple #[.slice o 0 c, .int .i64 10])) ∧ Below W.heap.size W w' from by
        refine (HPG.out W).mono ?_
        rintro e w' ⟨h1, h2⟩
        rw [h10] at h1
        obtain ⟨o, c, rfl, _⟩ := h1
        exact ⟨⟨_, _, rfl⟩, h2⟩))
      clear h10 HPG
      go_enter Try.func5, Try.ntmps5
      go_wp2_with fail
      refine HL.out.mono ?_
      rintro e w1 ⟨rfl, b1⟩
      have HB1 := Lib.hid b1
      clear b1
      go_wp2_with fail
      refine (HAL.out _).mono ?_
      rintro e w2 ⟨rfl, b2⟩
      have HB2 := Lib.hid (HB1.out.trans (b2.mono HB1.out.size))
      clear b2
      go_wp2_with fail
      refine (HT.out _ HB2.out).mono ?_
      rintro e w4 ⟨⟨oR, cR, us, rfl, hO, hc⟩, b4⟩
      have HB4 := Lib.hid (HB2.out.trans (b4.mono HB2.out.size))
      have HO4 := Lib.hid hO
      have HC := Lib.hid hc
      clear b4 hO hc
      go_wp2_with fail
      refine (make_own HO4.out HM.out (by omega) HC.out HRO.out).mono ?_
      rintro e w5 ⟨rfl, b5⟩
      have HB5 := Lib.hid (HB4.out.trans (b5.mono HB4.out.size))
      have HS5 := Lib.hid (own_rows (HO4.out.below frow b5))
      clear b5 HO4
      rw [hmk]
      go_wp2_with fail
      rw [hpl]
      clear ht hr
      obtain ⟨cap, hcap⟩ : ∃ cap, grownCap w5 N 0 5 = cap := ⟨_, rfl⟩
      rw [hcap]
      have hR0 := brow_new w5 s
      rw [HSD.out] at hR0
      have HB6 := Lib.hid (bytes_below w5 s)
      have hg5 := HB5.out.size
      obtain ⟨wb, hwb⟩ : ∃ wb, bytesWorld w5 5 s = wb := ⟨_, rfl⟩
      obtain ⟨g, hgg⟩ : ∃ g, w5.heap.size = g := ⟨_, rfl⟩
      rw [hwb] at hR0 HB6 ⊢
      rw [hgg] at hR0 HB6 hg5 ⊢
      have c0 := hR0.cell p hpl2
      have f0 := hR0.free p hpl2
      rw [HCB.out] at c0
      have R0 := Lib.hid hR0
      have HGG := Lib.hid hgg
      clear hR0 hcap hwb
      go_region
      have R1 := Lib.hid ((R0.out.set p hpl2 d).drew)
      have HB7 := Lib.hid ((HB6.out.setCell (p := ⟨g, p, none⟩) (Nat.le_refl _) (.int .u8 (d.toNat : Nat))).drew)
      obtain ⟨w6, hw6⟩ : ∃ w6, (wb.setCell ⟨g, p, none⟩ (.int .u8 (d.toNat : Nat))).drew = w6 := ⟨_, rfl⟩
      rw [hw6] at R1 HB7 ⊢
      have hll : ((runF R).set p d).length = N := by rw [List.length_set]; exact HLEN.out
      have hb1 := R1.out.back N cap hll u HU.out
      have HS6 := Lib.hid (HS5.out.below frow (show Below w5.heap.size w5 w6 by rw [HGG.out]; exact HB7.out))
      have HB8 := Lib.hid (show Below w.heap.size w w6 from HB5.out.trans (HB7.out.mono hg5))
      have hcR : (m : Int) ≤ cR := by have := HC.out; omega
      have hFc : (F : Int) ≤ cR := by omega
      clear hw6 c0 f0 x1 HB6 R0 hll hgg
      obtain ⟨g1, off1, he, hw6⟩ := rows_want HS6.out HM.out hFz2 hzm
      subst he
      have HWS := Lib.hid hw6
      rw [HWT.out] at HWS
      have hFc2 : ¬ cR = F := by omega
      have hzc : (z : Int) ≤ cR := by omega
      clear hw6
      go_wp2_with fail
      refine (HPG10.out _).mono ?_
      rintro e w7 ⟨⟨oP, cP, rfl⟩, b7⟩
      have HB9 := Lib.hid (HB8.out.trans (b7.mono HB8.out.size))
      have hb2 := (R1.out.below b7).back N cap (by rw [List.length_set]; exact HLEN.out) u HU.out
      have HS7 := Lib.hid (HS6.out.below frow b7)
      clear b7 hb1
      go_wp2_with fail
      refine (HRD.out _).mono ?_
      rintro e w8 ⟨rfl, b8⟩
      have HB10 := Lib.hid (HB9.out.trans (b8.mono HB9.out.size))
      have HS8 := Lib.hid (HS7.out.below frow b8)
      clear b8 hb2
      go_wp2
      go_loopw [18, 19, 20, 21] (fun v18 v19 _ _ wr => ∃ (j ah : Nat), v19 = .int .i64 ((8 * j : Nat) : Int) ∧ 8 * j ≤ m + 7 ∧ v18 = .int .i64 (ah : Int) ∧ Hid (ah + aheadL z (m + 1 - j) (8 * j) (R.drop (8 * j)) = 15 + AH) ∧ ah ≤ 15 + 11714 * j ∧ Hid (Below w8.heap.size w8 wr)) (fun _ v19 _ _ _ => m + 7 - (Go.RowKit.intOf v19).toNat)
      case atStart => exact ⟨0, 15, rfl, Nat.zero_le _, rfl, (show _ = _ by rw [Nat.mul_zero, List.drop_zero, Nat.sub_zero, HAH.out]), by omega, Below.refl _ _⟩
      case round =>
        obtain ⟨j, ah, rfl, hj, rfl, HC, hah, HBL⟩ := hrel
        obtain ⟨i, hi⟩ : ∃ i, 8 * j = i := ⟨_, rfl⟩
        rw [hi] at hj ⊢
        have HI := Lib.hid hi
        have hj9 : j ≤ 9 := by omega
        clear hi
        by_cases hiz : i < z
        · have k1 : (i : Int) < m := by omega
          have k2 : (i : Int) < z := by omega
          have HAS := Lib.hid (show (ah + ((catR (blockN R j)).length + 10)) + aheadL z (m + 1 - (j + 1)) (8 * (j + 1)) (R.drop (8 * (j + 1))) = 15 + AH by
            rw [← HC.out, show m + 1 - j = (m + 1 - (j + 1)) + 1 by have := HI.out; omega, ahead_step z _ _ _ (by rw [HI.out]; exact hiz), List.drop_drop, show 8 * j + 8 = 8 * (j + 1) by omega]
            unfold blockN
            omega)
          clear hiz
          go_wp2
          go_loopw [20, 21] (fun v20 v21 wr2 => ∃ (k : Nat) (b : ByteArray), v21 = .int .i64 ((i + k : Nat) : Int) ∧ k ≤ 8 ∧ i + k ≤ m ∧ v20 = .string b ∧ Hid (b.data.toList = catR ((R.drop i).take k)) ∧ b.size ≤ 4103 * k ∧ Hid (Below w8.heap.size w8 wr2)) (fun _ v21 _ => m - (Go.RowKit.intOf v21).toNat)
          case atStart => exact ⟨0, ⟨#[]⟩, rfl, by omega, by omega, rfl, rfl, Nat.zero_le _, HBL⟩
          case round =>
            obtain ⟨kk, b, rfl, hk8, hkn, rfl, HCB2, hbs, HB3⟩ := hrel
            obtain ⟨y, hy⟩ : ∃ y, i + kk = y := ⟨_, rfl⟩
            rw [hy] at hkn ⊢
            by_cases hc : kk < 8 ∧ y < m
            · have y1 : (y : Int) < (i : Int) + 8 := by omega
              have y2 : (y : Int) < m := by omega
              obtain ⟨x, hx⟩ := get_ltG HM.out hc.2
              obtain ⟨bA, offA, heA, hR⟩ := (HS8.out.below frow HB3.out).at hx
              obtain ⟨oL, cL, c0, c1, hL, lL⟩ := row_at hR hx
              cases heA
              have hok := okX_okR (HRO.out x (List.mem_of_getElem? hx))
              obtain ⟨nL, hnL⟩ : ∃ nL, x.1.length = nL := ⟨_, rfl⟩
              rw [hnL] at c0 lL
              obtain ⟨v, hv⟩ : ∃ v, x.2 = v := ⟨_, rfl⟩
              rw [hv] at c1 hok
              have HP := Lib.hid (dput_any oL nL cL x.1 v wr hnL hok hL.sees)
              have hps : (putS x.1 v).size ≤ 4103 := by
                unfold putS; rw [if_pos hok, Crc.str_size]; exact putR_len (okX_right (x := (x.1, v)) hok).1
              have HC2 := Lib.hid (show (b ++ putS x.1 v).data.toList = catR ((R.drop i).take (kk + 1)) by
                have hx2 : (R.drop i)[kk]? = some x := by rw [List.getElem?_drop, hy]; exact hx
                rw [catR_takeS hx2, Crc.app_data, HCB2.out]
                unfold putS; rw [if_pos hok, Crc.str_data, hv])
              obtain ⟨pu, hpu⟩ : ∃ pu, putS x.1 v = pu := ⟨_, rfl⟩
              rw [hpu] at HP HC2 hps
              have hbu : (b ++ pu).size = b.size + pu.size := ByteArray.size_append
              have y3 : ¬ (b.size + pu.size > 9223372036854775807) := by omega
              have HY := Lib.hid hy
              have hy1 : i + (kk + 1) ≤ m := by omega
              have hk1 : kk + 1 ≤ 8 := by omega
              clear hL hR hx hok hnL hv hpu hy
              go_wp2_with fail
              refine HP.out.mono ?_
              rintro e wz ⟨rfl, bz⟩
              have HBz := Lib.hid (HB3.out.trans (bz.mono HB3.out.size))
              clear bz c0 c1 HP
              go_wp2
              go_roundw
              case rel => exact ⟨kk + 1, b ++ pu, by rw [← HY.out]; go_num, hk1, hy1, rfl, HC2, by omega, HBz⟩
              case measure => simp [Go.RowKit.intOf]; omega
            · have hkk : kk = min 8 (m - i) := by omega
              have HBB := Lib.hid (show b.size = (catR (blockN R j)).length by
                rw [Lib.size_eq, HCB2.out]
                unfold blockN
                rw [HI.out, hkk]
                by_cases h8 : 8 ≤ m - i
                · rw [Nat.min_eq_left h8]
                · rw [Nat.min_eq_right (by omega), List.take_of_length_le (by rw [List.length_drop, HM.out]; omega), List.take_of_length_le (by rw [List.length_drop, HM.out]; omega)])
              obtain ⟨bz, hbz⟩ : ∃ bz, b.size = bz := ⟨_, rfl⟩
              have hbz2 : bz ≤ 11704 := by rw [← hbz, HBB.out]; exact blockN_cat HRO.out j
              rw [hbz] at HBB hbs
              have hij : i = 8 * j := HI.out.symm
              have hj2 : 8 * (j + 1) ≤ m + 7 := by omega
              clear hij
              by_cases h1 : kk < 8
              · have y1 : (y : Int) < (i : Int) + 8 := by omega
                have y2 : (m : Int) ≤ y := by omega
                clear hc hkk hy
                go_wp2
                go_roundw
                case rel => exact ⟨j + 1, ah + (bz + 10), by have := HI.out; go_num, hj2, by go_num, (show _ = _ by rw [HBB.out]; exact HAS.out), by omega, HB3⟩
                case measure => have := HI.out; simp [Go.RowKit.intOf]; omega
              · have y1 : (i : Int) + 8 ≤ y := by omega
                clear hc hkk hy
                go_wp2
                go_roundw
                case rel => exact ⟨j + 1, ah + (bz + 10), by have := HI.out; go_num, hj2, by go_num, (show _ = _ by rw [HBB.out]; exact HAS.out), by omega, HB3⟩
                case measure => have := HI.out; simp [Go.RowKit.intOf]; omega
        · have k2 : (z : Int) ≤ i := by omega
          have HAE := Lib.hid (show ah = 15 + AH by
            have h := HC.out
            rw [ahead_none z _ _ _ (by rw [HI.out]; omega)] at h; omega)
          have HBE := Lib.hid (HB10.out.trans (HBL.out.mono HB10.out.size))
          have hpa : (p : Int) < ah := by have h1 := HAE.out; have h2 := HPA.out; omega
          clear hiz
          by_cases him : i < m
          · have k1 : (i : Int) < m := by omega
            clear him
            go_wp2
            all_goals (
              go_ret
              exact ⟨ret_bool (by simp), HBE.out⟩)
          · have k1 : (m : Int) ≤ i := by omega
            clear him
            go_wp2
            all_goals (
              go_ret
              exact ⟨ret_bool (by simp), HBE.out⟩)
    · have HPG0 := Lib.hid (fun (W : World) => (show Calls Try.prog 9 #[.string u, .int .i64 F, .int .i64 len] W fun e w' => (∃ o c, e = .returned (.tuple #[.slice o nW c, .int .i64 0]) ∧ RowsS w' 0 o Wt) ∧ Below W.heap.size W w' from by
        refine (HPG.out W).mono ?_
        rintro e w' ⟨h1, h2⟩
        rw [h00] at h1
        obtain ⟨o, c, rfl, hs⟩ := h1
        simp only [HWL.out] at hs ⊢
        exact ⟨⟨_, _, rfl, hs⟩, h2⟩))
      have HSM := Lib.hid (fun (o1 o2 : Option Addr) (c1 c2 : Nat) (W : World) (h1 : RowsS W 0 o1 Wt) (h2 : RowsS W 0 o2 Wt) => (show Calls Try.prog 11 #[.slice o1 nW c1, .slice o2 nW c2] W fun e w' => e = .returned (.bool true) ∧ Below W.heap.size W w' from by
        have h := sameRows_any o1 o2 c1 c2 Wt Wt W (by rw [HWL.out]; unfold maxLen; omega) (by rw [HWL.out]; unfold maxLen; omega) 0 h1 h2
        rwa [HWL.out, (sameR_iff Wt Wt).2 rfl] at h))
      clear h00 HPG
      go_enter Try.func5, Try.ntmps5
      go_wp2_with fail
      refine HL.out.mono ?_
      rintro e w1 ⟨rfl, b1⟩
      have HB1 := Lib.hid b1
      clear b1
      go_wp2_with fail
      refine (HAL.out _).mono ?_
      rintro e w2 ⟨rfl, b2⟩
      have HB2 := Lib.hid (HB1.out.trans (b2.mono HB1.out.size))
      clear b2
      go_wp2_with fail
      refine (HT.out _ HB2.out).mono ?_
      rintro e w4 ⟨⟨oR, cR, us, rfl, hO, hc⟩, b4⟩
      have HB4 := Lib.hid (HB2.out.trans (b4.mono HB2.out.size))
      have HO4 := Lib.hid hO
      have HC := Lib.hid hc
      clear b4 hO hc
      go_wp2_with fail
      refine (make_own HO4.out HM.out (by omega) HC.out HRO.out).mono ?_
      rintro e w5 ⟨rfl, b5⟩
      have HB5 := Lib.hid (HB4.out.trans (b5.mono HB4.out.size))
      have HS5 := Lib.hid (own_rows (HO4.out.below frow b5))
      clear b5 HO4
      rw [hmk]
      go_wp2_with fail
      rw [hpl]
      clear ht hr
      obtain ⟨cap, hcap⟩ : ∃ cap, grownCap w5 N 0 5 = cap := ⟨_, rfl⟩
      rw [hcap]
      have hR0 := brow_new w5 s
      rw [HSD.out] at hR0
      have HB6 := Lib.hid (bytes_below w5 s)
      have hg5 := HB5.out.size
      obtain ⟨wb, hwb⟩ : ∃ wb, bytesWorld w5 5 s = wb := ⟨_, rfl⟩
      obtain ⟨g, hgg⟩ : ∃ g, w5.heap.size = g := ⟨_, rfl⟩
      rw [hwb] at hR0 HB6 ⊢
      rw [hgg] at hR0 HB6 hg5 ⊢
      have c0 := hR0.cell p hpl2
      have f0 := hR0.free p hpl2
      rw [HCB.out] at c0
      have R0 := Lib.hid hR0
      have HGG := Lib.hid hgg
      clear hR0 hcap hwb
      go_region
      have R1 := Lib.hid ((R0.out.set p hpl2 d).drew)
      have HB7 := Lib.hid ((HB6.out.setCell (p := ⟨g, p, none⟩) (Nat.le_refl _) (.int .u8 (d.toNat : Nat))).drew)
      obtain ⟨w6, hw6⟩ : ∃ w6, (wb.setCell ⟨g, p, none⟩ (.int .u8 (d.toNat : Nat))).drew = w6 := ⟨_, rfl⟩
      rw [hw6] at R1 HB7 ⊢
      have hll : ((runF R).set p d).length = N := by rw [List.length_set]; exact HLEN.out
      have hb1 := R1.out.back N cap hll u HU.out
      have HS6 := Lib.hid (HS5.out.below frow (show Below w5.heap.size w5 w6 by rw [HGG.out]; exact HB7.out))
      have HB8 := Lib.hid (show Below w.heap.size w w6 from HB5.out.trans (HB7.out.mono hg5))
      have hcR : (m : Int) ≤ cR := by have := HC.out; omega
      have hFc : (F : Int) ≤ cR := by omega
      clear hw6 c0 f0 x1 HB6 R0 hll hgg
      obtain ⟨g1, off1, he, hw6⟩ := rows_want HS6.out HM.out hFz2 hzm
      subst he
      have HWS := Lib.hid hw6
      rw [HWT.out] at HWS
      have hFc2 : ¬ cR = F := by omega
      have hzc : (z : Int) ≤ cR := by omega
      clear hw6
      go_wp2_with fail
      refine (HPG0.out _).mono ?_
      rintro e w7 ⟨⟨oP, cP, rfl, hP⟩, b7⟩
      have HB9 := Lib.hid (HB8.out.trans (b7.mono HB8.out.size))
      have hb2 := (R1.out.below b7).back N cap (by rw [List.length_set]; exact HLEN.out) u HU.out
      have HS7 := Lib.hid (HS6.out.below frow b7)
      have HP7 := Lib.hid hP
      have HB78 := Lib.hid b7
      clear b7 hb1 hP
      go_wp2_with fail
      refine (HRD.out _).mono ?_
      rintro e w8 ⟨rfl, b8⟩
      have HB10 := Lib.hid (HB9.out.trans (b8.mono HB9.out.size))
      have HS8 := Lib.hid (HS7.out.below frow b8)
      have HP8 := Lib.hid (HP7.out.below frow b8)
      have HB88 := Lib.hid (b8.mono HB78.out.size)
      clear b8 hb2
      go_wp2_with fail
      refine (HSM.out _ _ _ _ _ HP8.out (HWS.out.below frow (HB78.out.trans (HB88.out)))).mono ?_
      rintro e w9 ⟨rfl, b9⟩
      have HB11 := Lib.hid (HB10.out.trans (b9.mono HB10.out.size))
      have HS9 := Lib.hid (HS8.out.below frow b9)
      clear b9
      go_wp2
      go_loopw [18, 19, 20, 21] (fun v18 v19 _ _ wr => ∃ (j ah : Nat), v19 = .int .i64 ((8 * j : Nat) : Int) ∧ 8 * j ≤ m + 7 ∧ v18 = .int .i64 (ah : Int) ∧ Hid (ah + aheadL z (m + 1 - j) (8 * j) (R.drop (8 * j)) = 15 + AH) ∧ ah ≤ 15 + 11714 * j ∧ Hid (Below w9.heap.size w9 wr)) (fun _ v19 _ _ _ => m + 7 - (Go.RowKit.intOf v19).toNat)
      case atStart => exact ⟨0, 15, rfl, Nat.zero_le _, rfl, (show _ = _ by rw [Nat.mul_zero, List.drop_zero, Nat.sub_zero, HAH.out]), by omega, Below.refl _ _⟩
      case round =>
        obtain ⟨j, ah, rfl, hj, rfl, HC, hah, HBL⟩ := hrel
        obtain ⟨i, hi⟩ : ∃ i, 8 * j = i := ⟨_, rfl⟩
        rw [hi] at hj ⊢
        have HI := Lib.hid hi
        have hj9 : j ≤ 9 := by omega
        clear hi
        by_cases hiz : i < z
        · have k1 : (i : Int) < m := by omega
          have k2 : (i : Int) < z := by omega
          have HAS := Lib.hid (show (ah + ((catR (blockN R j)).length + 10)) + aheadL z (m + 1 - (j + 1)) (8 * (j + 1)) (R.drop (8 * (j + 1))) = 15 + AH by
            rw [← HC.out, show m + 1 - j = (m + 1 - (j + 1)) + 1 by have := HI.out; omega, ahead_step z _ _ _ (by rw [HI.out]; exact hiz), List.drop_drop, show 8 * j + 8 = 8 * (j + 1) by omega]
            unfold blockN
            omega)
          clear hiz
          go_wp2
          go_loopw [20, 21] (fun v20 v21 wr2 => ∃ (k : Nat) (b : ByteArray), v21 = .int .i64 ((i + k : Nat) : Int) ∧ k ≤ 8 ∧ i + k ≤ m ∧ v20 = .string b ∧ Hid (b.data.toList = catR ((R.drop i).take k)) ∧ b.size ≤ 4103 * k ∧ Hid (Below w9.heap.size w9 wr2)) (fun _ v21 _ => m - (Go.RowKit.intOf v21).toNat)
          case atStart => exact ⟨0, ⟨#[]⟩, rfl, by omega, by omega, rfl, rfl, Nat.zero_le _, HBL⟩
          case round =>
            obtain ⟨kk, b, rfl, hk8, hkn, rfl, HCB2, hbs, HB3⟩ := hrel
            obtain ⟨y, hy⟩ : ∃ y, i + kk = y := ⟨_, rfl⟩
            rw [hy] at hkn ⊢
            by_cases hc : kk < 8 ∧ y < m
            · have y1 : (y : Int) < (i : Int) + 8 := by omega
              have y2 : (y : Int) < m := by omega
              obtain ⟨x, hx⟩ := get_ltG HM.out hc.2
              obtain ⟨bA, offA, heA, hR⟩ := (HS9.out.below frow HB3.out).at hx
              obtain ⟨oL, cL, c0, c1, hL, lL⟩ := row_at hR hx
              cases heA
              have hok := okX_okR (HRO.out x (List.mem_of_getElem? hx))
              obtain ⟨nL, hnL⟩ : ∃ nL, x.1.length = nL := ⟨_, rfl⟩
              rw [hnL] at c0 lL
              obtain ⟨v, hv⟩ : ∃ v, x.2 = v := ⟨_, rfl⟩
              rw [hv] at c1 hok
              have HP := Lib.hid (dput_any oL nL cL x.1 v wr hnL hok hL.sees)
              have hps : (putS x.1 v).size ≤ 4103 := by
                unfold putS; rw [if_pos hok, Crc.str_size]; exact putR_len (okX_right (x := (x.1, v)) hok).1
              have HC2 := Lib.hid (show (b ++ putS x.1 v).data.toList = catR ((R.drop i).take (kk + 1)) by
                have hx2 : (R.drop i)[kk]? = some x := by rw [List.getElem?_drop, hy]; exact hx
                rw [catR_takeS hx2, Crc.app_data, HCB2.out]
                unfold putS; rw [if_pos hok, Crc.str_data, hv])
              obtain ⟨pu, hpu⟩ : ∃ pu, putS x.1 v = pu := ⟨_, rfl⟩
              rw [hpu] at HP HC2 hps
              have hbu : (b ++ pu).size = b.size + pu.size := ByteArray.size_append
              have y3 : ¬ (b.size + pu.size > 9223372036854775807) := by omega
              have HY := Lib.hid hy
              have hy1 : i + (kk + 1) ≤ m := by omega
              have hk1 : kk + 1 ≤ 8 := by omega
              clear hL hR hx hok hnL hv hpu hy
              go_wp2_with fail
              refine HP.out.mono ?_
              rintro e wz ⟨rfl, bz⟩
              have HBz := Lib.hid (HB3.out.trans (bz.mono HB3.out.size))
              clear bz c0 c1 HP
              go_wp2
              go_roundw
              case rel => exact ⟨kk + 1, b ++ pu, by rw [← HY.out]; go_num, hk1, hy1, rfl, HC2, by omega, HBz⟩
              case measure => simp [Go.RowKit.intOf]; omega
            · have hkk : kk = min 8 (m - i) := by omega
              have HBB := Lib.hid (show b.size = (catR (blockN R j)).length by
                rw [Lib.size_eq, HCB2.out]
                unfold blockN
                rw [HI.out, hkk]
                by_cases h8 : 8 ≤ m - i
                · rw [Nat.min_eq_left h8]
                · rw [Nat.min_eq_right (by omega), List.take_of_length_le (by rw [List.length_drop, HM.out]; omega), List.take_of_length_le (by rw [List.length_drop, HM.out]; omega)])
              obtain ⟨bz, hbz⟩ : ∃ bz, b.size = bz := ⟨_, rfl⟩
              have hbz2 : bz ≤ 11704 := by rw [← hbz, HBB.out]; exact blockN_cat HRO.out j
              rw [hbz] at HBB hbs
              have hij : i = 8 * j := HI.out.symm
              have hj2 : 8 * (j + 1) ≤ m + 7 := by omega
              clear hij
              by_cases h1 : kk < 8
              · have y1 : (y : Int) < (i : Int) + 8 := by omega
                have y2 : (m : Int) ≤ y := by omega
                clear hc hkk hy
                go_wp2
                go_roundw
                case rel => exact ⟨j + 1, ah + (bz + 10), by have := HI.out; go_num, hj2, by go_num, (show _ = _ by rw [HBB.out]; exact HAS.out), by omega, HB3⟩
                case measure => have := HI.out; simp [Go.RowKit.intOf]; omega
              · have y1 : (i : Int) + 8 ≤ y := by omega
                clear hc hkk hy
                go_wp2
                go_roundw
                case rel => exact ⟨j + 1, ah + (bz + 10), by have := HI.out; go_num, hj2, by go_num, (show _ = _ by rw [HBB.out]; exact HAS.out), by omega, HB3⟩
                case measure => have := HI.out; simp [Go.RowKit.intOf]; omega
        · have k2 : (z : Int) ≤ i := by omega
          have HAE := Lib.hid (show ah = 15 + AH by
            have h := HC.out
            rw [ahead_none z _ _ _ (by rw [HI.out]; omega)] at h; omega)
          have HBE := Lib.hid (HB11.out.trans (HBL.out.mono HB11.out.size))
          clear hiz
          by_cases him : i < m
          · have k1 : (i : Int) < m := by omega
            clear him
            go_wp2
            all_goals (
              go_ret
              exact ⟨ret_bool (by simp), HBE.out⟩)
          · have k1 : (m : Int) ≤ i := by omega
            clear him
            go_wp2
            all_goals (
              go_ret
              exact ⟨ret_bool (by simp), HBE.out⟩)
end Go.Proofs.Ytldlfmeppcdbbaa.Run
