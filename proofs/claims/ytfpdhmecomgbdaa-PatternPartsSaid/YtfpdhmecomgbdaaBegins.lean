/- The walk of the statement on how much of a text's beginning a pattern takes. -/
import Derived.Test.YtfpdhmecomgbdaaLong
import Derived.Test.YtfpdhmecomgbdaaR0
namespace Go.Proofs.Ytfpdhmecomgbdaa
open Go.RowKit

/-- The three outcomes of Compile, with what a pattern is. -/
theorem comp_cases2 (S : ByteArray) (W : World) (hs : S.size ≤ 1000000) :
    (Calls Try.prog 12 #[.string S] W fun e w' => e = .returned (.tuple #[.pointer none, .int .i64 1]) ∧ Below W.heap.size W w') ∨
    (Calls Try.prog 12 #[.string S] W fun e w' => e = .returned (.tuple #[.pointer none, .int .i64 2]) ∧ Below W.heap.size W w') ∨
    (∃ x, readP (spell S.data.toList) = some x ∧ PatOk (layF x ⟨[], []⟩) ∧ Calls Try.prog 12 #[.string S] W (Comp W S (layF x ⟨[], []⟩))) := by
  by_cases h : 40 < (spell S.data.toList).length
  · exact .inl (compile_long S W hs h)
  · cases hr : readP (spell S.data.toList) with
    | none => exact .inr (.inl (compile_form S W hs h hr))
    | some x => exact .inr (.inr ⟨x, rfl, readP_ok hr h, compile_ok S x W hs h hr⟩)
theorem spell_size (s : ByteArray) : (spell s.data.toList).length ≤ s.size := by
  have h1 : (spell s.data.toList).length ≤ s.data.toList.length := by unfold spell; rw [List.length_map]; exact sufs_len _
  rwa [← Lib.size_eq] at h1

set_option maxHeartbeats 8000000 in
set_option maxRecDepth 100000 in
theorem begs_any (p s : ByteArray) (w : World) :
    Calls Try.prog 8 #[.string p, .string s] w fun e w' => e = .returned (.bool true) ∧ Below w.heap.size w w' := by
  have HAL := Lib.hid (fun W => alive_any W)
  by_cases h1 : 60 < p.size
  · have i1 : (60 : Int) < p.size := by omega
    have t1 : decide ((60 : Int) < p.size) = true := by simpa using i1
    clear h1
    go_enter Try.func8, Try.ntmps8
    go_wp2_with fail
    refine (HAL.out _).mono ?_
    rintro e w1 ⟨rfl, b1⟩
    go_wp2
    go_ret
    exact ⟨rfl, b1⟩
  have i1 : (p.size : Int) ≤ 60 := by omega
  have t1 : decide ((60 : Int) < p.size) = false := by simpa using i1
  by_cases h2 : 40 < s.size
  · have i2 : (40 : Int) < s.size := by omega
    have t2 : decide ((40 : Int) < s.size) = true := by simpa using i2
    clear h1 h2
    go_enter Try.func8, Try.ntmps8
    go_wp2_with fail
    refine (HAL.out _).mono ?_
    rintro e w1 ⟨rfl, b1⟩
    go_wp2
    go_ret
    exact ⟨rfl, b1⟩
  have i2 : (s.size : Int) ≤ 40 := by omega
  have t2 : decide ((40 : Int) < s.size) = false := by simpa using i2
  have hss : s.size ≤ 40 := by omega
  have hps : p.size ≤ 60 := by omega
  have HCM := Lib.hid (fun W => comp_cases2 p W (by omega))
  have HSP := Lib.hid (fun W => spell_any s W (by omega))
  have hsl := spell_size s
  have HOK := Lib.hid (spell_ok s.data.toList)
  obtain ⟨rs, hrs⟩ : ∃ rs, spell s.data.toList = rs := ⟨_, rfl⟩
  have HBG := Lib.hid (fun bp T W (hp : PatAt W bp p T) (hok : PatOk T) => begins_any bp p T s W hp hok (by omega))
  rw [hrs] at HSP hsl HOK HBG
  obtain ⟨n, hn⟩ : ∃ n, rs.length = n := ⟨_, rfl⟩
  have HN := Lib.hid hn
  rw [hn] at hsl
  clear h1 h2 hrs hn
  go_enter Try.func8, Try.ntmps8
  go_wp2_with fail
  refine (HAL.out _).mono ?_
  rintro e w1 ⟨rfl, b1⟩
  have HB1 := Lib.hid b1
  clear b1
  rcases HCM.out w1 with hc | hc | ⟨x, _, hok, hc⟩
  · have HC := Lib.hid hc
    clear hc
    go_wp2_with fail
    refine HC.out.mono ?_
    rintro e w2 ⟨rfl, b2⟩
    have HB2 := Lib.hid (HB1.out.trans (b2.mono HB1.out.size))
    clear b2
    go_wp2
    go_ret
    exact ⟨rfl, HB2.out⟩
  · have HC := Lib.hid hc
    clear hc
    go_wp2_with fail
    refine HC.out.mono ?_
    rintro e w2 ⟨rfl, b2⟩
    have HB2 := Lib.hid (HB1.out.trans (b2.mono HB1.out.size))
    clear b2
    go_wp2
    go_ret
    exact ⟨rfl, HB2.out⟩
  obtain ⟨T, hT⟩ : ∃ T, layF x ⟨[], []⟩ = T := ⟨_, rfl⟩
  rw [hT] at hok hc
  have HC := Lib.hid hc
  have HPO := Lib.hid hok
  clear hc hok hT
  go_wp2_with fail
  refine HC.out.mono ?_
  rintro e w2 ⟨bp, rfl, hp2, b2⟩
  have HP2 := Lib.hid hp2
  have HB2 := Lib.hid (HB1.out.trans (b2.mono HB1.out.size))
  clear b2 hp2
  go_wp2_with fail
  refine (HSP.out w2).mono ?_
  rintro e w3 ⟨hspelt, b3⟩
  obtain ⟨oa, cap, rfl, hcap, hlies⟩ := hspelt.open
  have HL3 := Lib.hid (show Lies oa rs w3 from hlies)
  have HP3 := Lib.hid (HP2.out.below b3)
  have HB3 := Lib.hid (HB2.out.trans (b3.mono HB2.out.size))
  rw [HN.out] at hcap ⊢
  clear b3 hlies hspelt
  go_wp2_with fail
  refine (HBG.out bp T w3 HP3.out HPO.out).mono ?_
  rintro e w4 ⟨rfl, b4⟩
  have HL4 := Lib.hid (HL3.out.below b4)
  have HP4 := Lib.hid (HP3.out.below b4)
  have HB4 := Lib.hid (HB3.out.trans (b4.mono HB3.out.size))
  have HLAW := Lib.hid (beg_law T rs)
  obtain ⟨B, hB⟩ : ∃ B, begF T rs = B := ⟨_, rfl⟩
  rw [hB] at HLAW ⊢
  obtain ⟨hb1, hb2, _⟩ := HLAW.out
  rw [HN.out] at hb2
  clear b4 hB
  go_wp2_with fail
  go_loopg [9] (n + 1) (fun k v wr => ∃ i : Nat, k + i = n + 1 ∧ v = .int .i64 i ∧ Hid (Below w.heap.size w wr ∧ Lies oa rs wr ∧ PatAt wr bp p T))
  case atStart => exact ⟨0, rfl, rfl, HB4.out, HL4.out, HP4.out⟩
  case round =>
    obtain ⟨i, hgk, rfl, H⟩ := hrel
    have HGK := Lib.hid hgk
    by_cases hin : i ≤ n
    · have j1 : (i : Int) ≤ n := by omega
      have j2 : (i : Int) ≤ cap := by omega
      have hcv := H.out.2.1.conv i cap (by rw [HN.out]; exact hin)
      have hlaw := HLAW.out.2.2 i (by rw [HN.out]; exact hin)
      have hsp : spell (runesBytes (rs.take i)).data.toList = rs.take i := spell_bytes (fun r hr => HOK.out r (List.mem_of_mem_take hr))
      have hsz := bytes_size (rs.take i)
      have hW := whole_any bp p T (runesBytes (rs.take i)) wr H.out.2.2 HPO.out (by rw [List.length_take] at hsz; omega)
      rw [hsp] at hW
      obtain ⟨S, hS⟩ : ∃ S, runesBytes (rs.take i) = S := ⟨_, rfl⟩
      rw [hS] at hcv hW
      obtain ⟨V, hV⟩ : ∃ V, wholeF T (rs.take i) = V := ⟨_, rfl⟩
      rw [hV] at hW hlaw
      have HW := Lib.hid hW
      clear hgk hsp hsz hS hV hW
      cases V with
      | true =>
        have k1 : (i : Int) ≤ B := hlaw.1 rfl
        clear hlaw
        rcases (show (i : Int) = B ∨ (i : Int) < B by omega) with rfl | k2
        · clear hb1 hb2 k1
          go_wp2_with fail
          refine HW.out.mono ?_
          rintro e w5 ⟨rfl, b5⟩
          have H5 := Lib.hid (And.intro (H.out.1.trans (b5.mono H.out.1.size)) (And.intro (H.out.2.1.below b5) (H.out.2.2.below b5)))
          clear b5 hcv
          go_wp2_with fail
          go_roundg (gk - 1)
          case measure => have := HGK.out; omega
          case rel => exact ⟨i + 1, by have := HGK.out; omega, by go_num, H5.out⟩
        · have k3 : ((i : Int) == B) = false := beq_eq_false_iff_ne.2 (by omega)
          go_wp2_with fail
          refine HW.out.mono ?_
          rintro e w5 ⟨rfl, b5⟩
          have H5 := Lib.hid (And.intro (H.out.1.trans (b5.mono H.out.1.size)) (And.intro (H.out.2.1.below b5) (H.out.2.2.below b5)))
          clear b5 hcv
          go_wp2_with fail
          go_roundg (gk - 1)
          case measure => have := HGK.out; omega
          case rel => exact ⟨i + 1, by have := HGK.out; omega, by go_num, H5.out⟩
      | false =>
        have k1 : ((i : Int) == B) = false := beq_eq_false_iff_ne.2 (fun e => by have := hlaw.2 e.symm; cases this)
        clear hlaw
        by_cases k2 : B < (i : Int)
        · have k3 : decide (B < (i : Int)) = true := by simpa using k2
          go_wp2_with fail
          refine HW.out.mono ?_
          rintro e w5 ⟨rfl, b5⟩
          have H5 := Lib.hid (And.intro (H.out.1.trans (b5.mono H.out.1.size)) (And.intro (H.out.2.1.below b5) (H.out.2.2.below b5)))
          clear b5 hcv
          go_wp2_with fail
          go_roundg (gk - 1)
          case measure => have := HGK.out; omega
          case rel => exact ⟨i + 1, by have := HGK.out; omega, by go_num, H5.out⟩
        · have k3 : decide (B < (i : Int)) = false := by simpa using k2
          have k4 : (i : Int) ≤ B := by omega
          go_wp2_with fail
          refine HW.out.mono ?_
          rintro e w5 ⟨rfl, b5⟩
          have H5 := Lib.hid (And.intro (H.out.1.trans (b5.mono H.out.1.size)) (And.intro (H.out.2.1.below b5) (H.out.2.2.below b5)))
          clear b5 hcv
          go_wp2_with fail
          go_roundg (gk - 1)
          case measure => have := HGK.out; omega
          case rel => exact ⟨i + 1, by have := HGK.out; omega, by go_num, H5.out⟩
    · have j1 : (n : Int) < i := by omega
      have d1 : decide (-1 ≤ B) = true := by simpa using hb1
      have d2 : decide (B ≤ (n : Int)) = true := by simpa using hb2
      clear hgk
      go_wp2_with fail
      go_ret
      exact ⟨rfl, H.out.1⟩
end Go.Proofs.Ytfpdhmecomgbdaa
