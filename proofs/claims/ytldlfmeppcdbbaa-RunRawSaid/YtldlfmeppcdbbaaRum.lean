/- The document's files of rows: made, counted. -/
import Derived.Test.YtldlfmeppcdbbaaRul
import Derived.Test.YtldlfmeppcdbbaaCo
import Derived.Test.YtldlfmeppcdbbaaYk
namespace Go.Proofs.Ytldlfmeppcdbbaa.Run
open Go.RowKit Go.Lib Go.Proofs.Ytldlfmeppcdbbaa.Crc Go.Proofs.Ytldlfmeppcdbbaa.Row Go.Proofs.Ytldlfmeppcdbbaa.Vec

set_option maxHeartbeats 8000000 in
set_option maxRecDepth 100000 in
theorem drun_any (o : Option Addr) (n c : Nat) (R : List Rw) (w : World) (B : Nat) (hn : R.length = n) (hn6 : n ≤ 60) (hok : ∀ x ∈ R, okX x = true) (hS : RowsS w B o R) :
    Calls Try.prog 15 #[.slice o n c] w fun e w' => e = .returned (.string ⟨(runF R).toArray⟩) ∧ Below w.heap.size w w' := by
  have HS := Lib.hid hS
  have HN := Lib.hid hn
  have HOK := Lib.hid hok
  obtain ⟨hb, hhb⟩ : ∃ hb : ByteArray, ⟨(numB 2 n).toArray⟩ = hb := ⟨_, rfl⟩
  have HH := Lib.hid (show Calls Try.prog 38 #[.int .i64 n, .int .i64 2] w fun e w' => e = .returned (.string hb) ∧ Below w.heap.size w w' from by
    have := high_any n 2 w (by omega) (by decide) (by decide)
    rwa [hhb] at this)
  have hhs : (⟨#[76, 69, 80]⟩ : ByteArray) ++ hb = headS n := Crc.bytes_same (by rw [Crc.app_data, headS_data, ← hhb, Crc.str_data]; rfl)
  have hbs : hb.size = 2 := by rw [← hhb, Crc.str_size, numB_len]
  have HF0 := Lib.hid (fun W => dframe_any (headS n) W (by rw [headS_size]; decide))
  obtain ⟨s0, hs0⟩ : ∃ s0, frameS (headS n) = s0 := ⟨_, rfl⟩
  have hs0d : s0.data.toList = frameL (lep ++ numB 2 n) := by rw [← hs0, frameS_data, headS_data]
  have hs0s : s0.size = 15 := by rw [← hs0, frameS_size, headS_size]
  rw [hs0] at HF0
  have HS0 := Lib.hid hs0d
  have hk0 : ¬ (3 + hb.size > 9223372036854775807) := by omega
  have hle : ∀ j, (catF ((blocks (R.take (8 * j))).map catR)).length ≤ 1473 * 60 := fun j => by
    have h1 := catF_len _ (R.take (8 * j)) (Nat.le_refl _) (fun x hx => hok x (List.mem_of_mem_take hx))
    have h2 : (R.take (8 * j)).length ≤ 60 := by rw [List.length_take]; omega
    omega
  have HLE := Lib.hid hle
  have hlc : ∀ i k, (catR ((R.drop i).take k)).length ≤ 1463 * k := fun i k => by
    have h1 := catR_le ((R.drop i).take k) (fun x hx => hok x (List.mem_of_mem_drop (List.mem_of_mem_take hx)))
    have h2 : ((R.drop i).take k).length ≤ k := by rw [List.length_take]; omega
    omega
  have HLC := Lib.hid hlc
  clear hS hn hok hhb hs0 hs0d hle hlc
  go_enter Try.func15, Try.ntmps15
  go_wp2_with fail
  refine HH.out.mono ?_
  rintro e w1 ⟨rfl, b1⟩
  have HB1 := Lib.hid b1
  clear b1
  go_wp2_with fail
  refine (HF0.out _).mono ?_
  rintro e w2 ⟨rfl, b2⟩
  have HB2 := Lib.hid (HB1.out.trans (b2.mono HB1.out.size))
  clear b2 HF0
  go_wp2
  go_loopw [3, 4, 5, 6] (fun v3 v4 _ _ wr => ∃ (j : Nat) (s : ByteArray), v4 = .int .i64 ((8 * j : Nat) : Int) ∧ 8 * j ≤ n + 7 ∧ v3 = .string s ∧ Hid (s.data.toList = frameL (lep ++ numB 2 n) ++ catF ((blocks (R.take (8 * j))).map catR)) ∧ s.size ≤ 90000 ∧ Hid (Below w.heap.size w wr)) (fun _ v4 _ _ _ => n + 7 - (Go.RowKit.intOf v4).toNat)
  case atStart => exact ⟨0, s0, rfl, Nat.zero_le _, rfl, (show _ = _ by rw [HS0.out, Nat.mul_zero, List.take_zero]; simp [blocks_nil, catF]), by omega, HB2⟩
  case round =>
    obtain ⟨j, s, rfl, hj, rfl, HC, hss, HB⟩ := hrel
    by_cases hjn : 8 * j < n
    · obtain ⟨i, hi⟩ : ∃ i, 8 * j = i := ⟨_, rfl⟩
      rw [hi] at hjn hj ⊢
      have HI := Lib.hid hi
      have j1 : (i : Int) < n := by omega
      clear hi
      go_wp2
      go_loopw [5, 6] (fun v5 v6 wr2 => ∃ (k : Nat) (b : ByteArray), v6 = .int .i64 ((i + k : Nat) : Int) ∧ k ≤ 8 ∧ i + k ≤ n ∧ v5 = .string b ∧ Hid (b.data.toList = catR ((R.drop i).take k)) ∧ b.size ≤ 4103 * k ∧ Hid (Below w.heap.size w wr2)) (fun _ v6 _ => n - (Go.RowKit.intOf v6).toNat)
      case atStart => exact ⟨0, ⟨#[]⟩, rfl, by omega, by omega, rfl, rfl, Nat.zero_le _, HB⟩
      case round =>
        obtain ⟨k, b, rfl, hk8, hkn, rfl, HCB, hbs, HB3⟩ := hrel
        obtain ⟨q, hq⟩ : ∃ q, i + k = q := ⟨_, rfl⟩
        rw [hq] at hkn ⊢
        by_cases hc : k < 8 ∧ q < n
        · have j2 : (q : Int) < (i : Int) + 8 := by omega
          have j3 : (q : Int) < n := by omega
          obtain ⟨x, hx⟩ := get_ltG HN.out hc.2
          obtain ⟨bA, offA, rfl, hR⟩ := (HS.out.below frow HB3.out).at hx
          obtain ⟨oL, cL, c0, c1, hL, lL⟩ := row_at hR hx
          have hok := okX_okR (HOK.out x (List.mem_of_getElem? hx))
          obtain ⟨nL, hnL⟩ : ∃ nL, x.1.length = nL := ⟨_, rfl⟩
          rw [hnL] at c0 lL
          obtain ⟨v, hv⟩ : ∃ v, x.2 = v := ⟨_, rfl⟩
          rw [hv] at c1 hok
          have HP := Lib.hid (dput_any oL nL cL x.1 v wr hnL hok hL.sees)
          have hps : (putS x.1 v).size ≤ 4103 := by
            unfold putS; rw [if_pos hok, Crc.str_size]; exact putR_len (okX_right (x := (x.1, v)) hok).1
          have HC2 := Lib.hid (show (b ++ putS x.1 v).data.toList = catR ((R.drop i).take (k + 1)) by
            have hx2 : (R.drop i)[k]? = some x := by rw [List.getElem?_drop, hq]; exact hx
            rw [catR_takeS hx2, Crc.app_data, HCB.out]
            unfold putS; rw [if_pos hok, Crc.str_data, hv])
          obtain ⟨u, hu⟩ : ∃ u, putS x.1 v = u := ⟨_, rfl⟩
          rw [hu] at HP HC2 hps
          have hbu : (b ++ u).size = b.size + u.size := ByteArray.size_append
          have k1 : ¬ (b.size + u.size > 9223372036854775807) := by omega
          have HQ := Lib.hid hq
          have hq1 : i + (k + 1) ≤ n := by omega
          have hk1 : k + 1 ≤ 8 := by omega
          clear hL hR hx hok hnL hv hu hq
          go_wp2_with fail
          refine HP.out.mono ?_
          rintro e w4 ⟨rfl, b4⟩
          have HB4 := Lib.hid (HB3.out.trans (b4.mono HB3.out.size))
          clear b4 c0 c1 HP
          go_wp2
          go_roundw
          case rel => exact ⟨k + 1, b ++ u, by rw [← HQ.out]; go_num, hk1, hq1, rfl, HC2, by omega, HB4⟩
          case measure => simp [Go.RowKit.intOf]; omega
        · have hkk : k = min 8 (n - i) := by omega
          have HBL := Lib.hid (show b.data.toList = catR (blockN R j) by
            rw [HCB.out]
            unfold blockN
            rw [HI.out, hkk]
            by_cases h8 : 8 ≤ n - i
            · rw [Nat.min_eq_left h8]
            · rw [Nat.min_eq_right (by omega), List.take_of_length_le (by rw [List.length_drop, HN.out]; omega), List.take_of_length_le (by rw [List.length_drop, HN.out]; omega)])
          have hbs2 : b.size ≤ 11704 := by
            rw [Lib.size_eq, HBL.out]; exact blockN_cat HOK.out j
          have HF := Lib.hid (fun (W : World) => dframe_any b W (by omega))
          obtain ⟨f, hf⟩ : ∃ f, frameS b = f := ⟨_, rfl⟩
          have hfd : f.data.toList = frameL (catR (blockN R j)) := by rw [← hf, frameS_data, HBL.out]
          have hfs : f.size ≤ 11714 := by rw [← hf, frameS_size]; omega
          rw [hf] at HF
          have HC3 := Lib.hid (show (s ++ f).data.toList = frameL (lep ++ numB 2 n) ++ catF ((blocks (R.take (8 * (j + 1)))).map catR) by
            rw [Crc.app_data, HC.out, hfd, blocks_snoc j R (by rw [HN.out, HI.out]; exact hjn), List.map_append, catF_app, List.append_assoc]
            simp [catF, blockN])
          have hsf : (s ++ f).size ≤ 90000 := by
            rw [Lib.size_eq, HC3.out, List.length_append, frameL_len, List.length_append, numB_len]
            have := HLE.out (j + 1)
            have h3 : lep.length = 3 := rfl
            omega
          have k1 : ¬ (s.size + f.size > 9223372036854775807) := by omega
          by_cases h1 : k < 8
          · have j2 : (q : Int) < (i : Int) + 8 := by omega
            have j3 : (n : Int) ≤ q := by omega
            clear hc hkk hq hf hfd HBL
            go_wp2_with fail
            refine (HF.out _).mono ?_
            rintro e w4 ⟨rfl, b4⟩
            have HB4 := Lib.hid (HB3.out.trans (b4.mono HB3.out.size))
            clear b4 HF
            go_wp2
            go_roundw
            case rel => exact ⟨j + 1, s ++ f, by have := HI.out; go_num, by have := HI.out; omega, rfl, HC3, hsf, HB4⟩
            case measure => have := HI.out; simp [Go.RowKit.intOf]; omega
          · have j2 : (i : Int) + 8 ≤ q := by omega
            clear hc hkk hq hf hfd HBL
            go_wp2_with fail
            refine (HF.out _).mono ?_
            rintro e w4 ⟨rfl, b4⟩
            have HB4 := Lib.hid (HB3.out.trans (b4.mono HB3.out.size))
            clear b4 HF
            go_wp2
            go_roundw
            case rel => exact ⟨j + 1, s ++ f, by have := HI.out; go_num, by have := HI.out; omega, rfl, HC3, hsf, HB4⟩
            case measure => have := HI.out; simp [Go.RowKit.intOf]; omega
    · have HF := Lib.hid (fun (W : World) => dframe_any ⟨#[69, 78, 68]⟩ W (by decide))
      obtain ⟨f, hf⟩ : ∃ f, frameS ⟨#[69, 78, 68]⟩ = f := ⟨_, rfl⟩
      have hfd : f.data.toList = frameL fin := by rw [← hf, frameS_data]; rfl
      have hfs : f.size = 13 := by rw [← hf, frameS_size]; rfl
      rw [hf] at HF
      have HX := Lib.hid (show s ++ f = ⟨(runF R).toArray⟩ from Crc.bytes_same (by
        rw [Crc.app_data, HC.out, hfd, Crc.str_data, run_parts, HN.out, List.take_of_length_le (by rw [HN.out]; omega), List.append_assoc]))
      have k1 : ¬ (s.size + 13 > 9223372036854775807) := by omega
      have k2 : ¬ (s.size + f.size > 9223372036854775807) := by omega
      obtain ⟨i, hi⟩ : ∃ i, 8 * j = i := ⟨_, rfl⟩
      rw [hi] at hjn ⊢
      have j1 : (n : Int) ≤ i := by omega
      clear hi hf hfd HC
      go_wp2_with fail
      refine (HF.out _).mono ?_
      rintro e w4 ⟨rfl, b4⟩
      have HB4 := Lib.hid (HB.out.trans (b4.mono HB.out.size))
      clear b4 HF
      go_wp2
      go_ret
      exact ⟨ret_s HX.out, HB4.out⟩
end Go.Proofs.Ytldlfmeppcdbbaa.Run
