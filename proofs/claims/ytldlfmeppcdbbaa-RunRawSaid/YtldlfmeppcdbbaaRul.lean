/- The law: two files have the same bytes just if they have the same rows. -/
import Derived.Test.YtldlfmeppcdbbaaRuk
namespace Go.Proofs.Ytldlfmeppcdbbaa.Run
open Go.RowKit Go.Lib Go.Proofs.Ytldlfmeppcdbbaa.Crc Go.Proofs.Ytldlfmeppcdbbaa.Row Go.Proofs.Ytldlfmeppcdbbaa.Vec

theorem own_cap {w : World} {B n c : Nat} {o : Option Addr} {us : List (List Value)} {xs : List Rw} (h : OwnR w B (.slice o n c) us xs) (hn : xs.length = n) : n ≤ c := by
  cases n with
  | zero => exact Nat.zero_le _
  | succ n =>
    have hus : us.length = n + 1 := by rw [h.len, hn]
    obtain ⟨g, cap, e, hc, _, _⟩ := own_posG (by have := h.own; rwa [hus] at this) (by omega : 1 ≤ n + 1)
    cases e
    omega
theorem okX_vec (xs : List Rw) : ∀ x ∈ vecT xs, okX x = true := fun x hx => by
  obtain ⟨h1, h2⟩ := (right_fit (vecT_right xs)).2.1 x hx
  unfold okX Fix.rgtB
  rw [h1, decide_eq_true h2]; rfl
/-- Rows that a statement brings into order. -/
theorem tidy_file (o : Option Addr) (n c : Nat) (xs : List Rw) (w : World) (B : Nat) (hn : xs.length = n) (hl : lightR xs = true) (hS : RowsS w B o xs) (R : List Rw) (hR : vecT xs = R) (m : Nat) (hm : R.length = m) :
    Calls Try.prog 14 #[.slice o n c] w fun e w' => (∃ oR cR us, e = .returned (.slice oR m cR) ∧ OwnR w' w.heap.size (.slice oR m cR) us R ∧ m ≤ cR) ∧ Below w.heap.size w w' := by
  obtain ⟨h60, hsm⟩ := lightR_mk hl
  refine (ltidy_any o n c xs w B hn (by omega) hsm hS).mono ?_
  rintro e w' ⟨⟨v, us, rfl, hO⟩, hb⟩
  rw [hR] at hO
  obtain ⟨oR, cR, rfl, _, _⟩ := hO.sees frow
  rw [hm] at hO ⊢
  exact ⟨⟨oR, cR, us, rfl, hO, own_cap hO hm⟩, hb⟩
theorem own_rows {w : World} {B n c : Nat} {o : Option Addr} {us : List (List Value)} {xs : List Rw} (h : OwnR w B (.slice o n c) us xs) : RowsS w 0 o xs := by
  obtain ⟨o2, c2, e, hS, _⟩ := h.sees frow
  cases e; exact hS
/-- A file of rows that a statement brings into order is made: it is made, or it is too large. -/
theorem make_own {W : World} {B m c : Nat} {o : Option Addr} {us : List (List Value)} {R : List Rw} (h : OwnR W B (.slice o m c) us R) (hm : R.length = m) (hm6 : m ≤ 600) (hc : m ≤ c) (hok : ∀ x ∈ R, okX x = true) :
    Calls Try.prog 12 #[.slice o m c] W fun e w' => e = .returned (makeV R) ∧ Below W.heap.size W w' :=
  make_any o m c R W 0 hm hm6 hc hok (own_rows h)
theorem makeV_ok {R : List Rw} (h : (runF R).length ≤ 60000) : makeV R = .tuple #[.string ⟨(runF R).toArray⟩, .int .i64 0] := by unfold makeV; rw [if_pos h]
theorem makeV_no {R : List Rw} (h : ¬ (runF R).length ≤ 60000) : makeV R = .tuple #[.string ⟨#[]⟩, .int .i64 8] := by unfold makeV; rw [if_neg h]

set_option maxHeartbeats 16000000 in
set_option maxRecDepth 100000 in
theorem unlike_any (oa ob : Option Addr) (na ca nb cb : Nat) (xs ys : List Rw) (w : World) (B : Nat) (hna : xs.length = na) (hnb : ys.length = nb) (hS : RowsS w B oa xs) (hT : RowsS w B ob ys) :
    Calls Try.prog 6 #[.slice oa na ca, .slice ob nb cb] w fun e w' => e = .returned (.bool true) ∧ Below w.heap.size w w' := by
  have HAL := Lib.hid (fun W => alive_any W)
  have HL1 := Lib.hid (fun (W : World) (hb : Below w.heap.size w W) => lightR_any oa na ca xs W B hna (hS.below frow hb))
  have HL2 := Lib.hid (fun (W : World) (hb : Below w.heap.size w W) => lightR_any ob nb cb ys W B hnb (hT.below frow hb))
  cases hl1 : lightR xs with
  | false =>
    rw [hl1] at HL1
    clear hl1 hS hT hna hnb
    go_enter Try.func6, Try.ntmps6
    go_wp2_with fail
    refine (HL1.out _ (Below.refl _ _)).mono ?_
    rintro e w1 ⟨rfl, b1⟩
    have HB1 := Lib.hid b1
    clear b1
    go_wp2_with fail
    refine (HAL.out _).mono ?_
    rintro e w2 ⟨rfl, b2⟩
    have HB2 := Lib.hid (HB1.out.trans (b2.mono HB1.out.size))
    clear b2
    go_wp2
    go_ret
    exact ⟨rfl, HB2.out⟩
  | true =>
  rw [hl1] at HL1
  cases hl2 : lightR ys with
  | false =>
    rw [hl2] at HL2
    clear hl1 hl2 hS hT hna hnb
    go_enter Try.func6, Try.ntmps6
    go_wp2_with fail
    refine (HL1.out _ (Below.refl _ _)).mono ?_
    rintro e w1 ⟨rfl, b1⟩
    have HB1 := Lib.hid b1
    clear b1
    go_wp2_with fail
    refine (HL2.out _ HB1.out).mono ?_
    rintro e w2 ⟨rfl, b2⟩
    have HB2 := Lib.hid (HB1.out.trans (b2.mono HB1.out.size))
    clear b2
    go_wp2_with fail
    refine (HAL.out _).mono ?_
    rintro e w3 ⟨rfl, b3⟩
    have HB3 := Lib.hid (HB2.out.trans (b3.mono HB2.out.size))
    clear b3
    go_wp2
    go_ret
    exact ⟨rfl, HB3.out⟩
  | true =>
  rw [hl2] at HL2
  obtain ⟨R, hR⟩ : ∃ R, vecT xs = R := ⟨_, rfl⟩
  obtain ⟨m, hm⟩ : ∃ m, R.length = m := ⟨_, rfl⟩
  obtain ⟨Q, hQ⟩ : ∃ Q, vecT ys = Q := ⟨_, rfl⟩
  obtain ⟨k, hk⟩ : ∃ k, Q.length = k := ⟨_, rfl⟩
  have hRo : ∀ x ∈ R, okX x = true := by rw [← hR]; exact okX_vec xs
  have hQo : ∀ x ∈ Q, okX x = true := by rw [← hQ]; exact okX_vec ys
  have hm6 : m ≤ 60 := by rw [← hm, ← hR]; exact Nat.le_trans (vecT_len xs) (lightR_mk hl1).1
  have hk6 : k ≤ 60 := by rw [← hk, ← hQ]; exact Nat.le_trans (vecT_len ys) (lightR_mk hl2).1
  have HT1 := Lib.hid (fun (W : World) (hb : Below w.heap.size w W) => tidy_file oa na ca xs W B hna hl1 (hS.below frow hb) R hR m hm)
  have HT2 := Lib.hid (fun (W : World) (hb : Below w.heap.size w W) => tidy_file ob nb cb ys W B hnb hl2 (hT.below frow hb) Q hQ k hk)
  have HM := Lib.hid hm
  have HK := Lib.hid hk
  have HRO := Lib.hid hRo
  have HQO := Lib.hid hQo
  clear hl1 hl2 hS hT hna hnb hR hQ hm hk hRo hQo
  go_enter Try.func6, Try.ntmps6
  go_wp2_with fail
  refine (HL1.out _ (Below.refl _ _)).mono ?_
  rintro e w1 ⟨rfl, b1⟩
  have HB1 := Lib.hid b1
  clear b1
  go_wp2_with fail
  refine (HL2.out _ HB1.out).mono ?_
  rintro e w2 ⟨rfl, b2⟩
  have HB2 := Lib.hid (HB1.out.trans (b2.mono HB1.out.size))
  clear b2
  go_wp2_with fail
  refine (HAL.out _).mono ?_
  rintro e w3 ⟨rfl, b3⟩
  have HB3 := Lib.hid (HB2.out.trans (b3.mono HB2.out.size))
  clear b3
  go_wp2_with fail
  refine (HT1.out _ HB3.out).mono ?_
  rintro e w4 ⟨⟨oR, cR, us, rfl, hO, hc⟩, b4⟩
  have HB4 := Lib.hid (HB3.out.trans (b4.mono HB3.out.size))
  have HO4 := Lib.hid (And.intro hO hc)
  clear b4 hO hc
  go_wp2_with fail
  refine (HT2.out _ HB4.out).mono ?_
  rintro e w5 ⟨⟨oQ, cQ, us2, rfl, hO, hc⟩, b5⟩
  have HB5 := Lib.hid (HB4.out.trans (b5.mono HB4.out.size))
  have HO5 := Lib.hid (And.intro (HO4.out.1.below frow b5) hO)
  have HC1 := Lib.hid HO4.out.2
  have HC2 := Lib.hid hc
  clear b5 hO hc HO4
  go_wp2_with fail
  refine (make_own HO5.out.1 HM.out (by omega) HC1.out HRO.out).mono ?_
  rintro e w6 ⟨rfl, b6⟩
  have HB6 := Lib.hid (HB5.out.trans (b6.mono HB5.out.size))
  have HO6 := Lib.hid (And.intro (HO5.out.1.below frow b6) (HO5.out.2.below frow b6))
  clear b6 HO5
  by_cases h1 : (runF R).length ≤ 60000
  · rw [makeV_ok h1]
    obtain ⟨s, hs⟩ : ∃ s : ByteArray, ⟨(runF R).toArray⟩ = s := ⟨_, rfl⟩
    rw [hs]
    have HSS := Lib.hid hs
    clear hs
    go_wp2_with fail
    refine (make_own HO6.out.2 HK.out (by omega) HC2.out HQO.out).mono ?_
    rintro e w7 ⟨rfl, b7⟩
    have HB7 := Lib.hid (HB6.out.trans (b7.mono HB6.out.size))
    have HO7 := Lib.hid (And.intro (HO6.out.1.below frow b7) (HO6.out.2.below frow b7))
    clear b7 HO6
    by_cases h2 : (runF Q).length ≤ 60000
    · rw [makeV_ok h2]
      obtain ⟨t, ht⟩ : ∃ t : ByteArray, ⟨(runF Q).toArray⟩ = t := ⟨_, rfl⟩
      rw [ht]
      have HSa := Lib.hid (show Calls Try.prog 11 #[.slice oR m cR, .slice oQ k cQ] w7 fun e w' => e = .returned (.bool (sameR R Q)) ∧ Below w7.heap.size w7 w' from by
        have h := sameRows_any oR oQ cR cQ R Q w7 (by rw [HM.out]; unfold maxLen; omega) (by rw [HK.out]; unfold maxLen; omega) 0 (own_rows HO7.out.1) (own_rows HO7.out.2)
        rwa [HM.out, HK.out] at h)
      have hst : (s.toList == t.toList) = sameR R Q := by
        rw [Bool.eq_iff_iff, beq_iff_eq, ByteArray.toList_eq, ByteArray.toList_eq, sameR_iff, ← ht, ← HSS.out, Crc.str_data, Crc.str_data]
        exact ⟨fun e => run_inj HRO.out HQO.out (by rw [HM.out]; omega) (by rw [HK.out]; omega) e, fun e => by rw [e]⟩
      obtain ⟨z, hz⟩ : ∃ z, sameR R Q = z := ⟨_, rfl⟩
      rw [hz] at HSa hst
      clear ht hz h1 h2
      cases z with
      | true =>
        go_wp2_with fail
        refine HSa.out.mono ?_
        rintro e w8 ⟨rfl, b8⟩
        have HB8 := Lib.hid (HB7.out.trans (b8.mono HB7.out.size))
        clear b8
        go_wp2
        go_ret
        exact ⟨rfl, HB8.out⟩
      | false =>
        go_wp2_with fail
        refine HSa.out.mono ?_
        rintro e w8 ⟨rfl, b8⟩
        have HB8 := Lib.hid (HB7.out.trans (b8.mono HB7.out.size))
        clear b8
        go_wp2
        go_ret
        exact ⟨rfl, HB8.out⟩
    · rw [makeV_no h2]
      clear h1 h2
      go_wp2
      go_ret
      exact ⟨rfl, HB7.out⟩
  · rw [makeV_no h1]
    go_wp2_with fail
    refine (make_own HO6.out.2 HK.out (by omega) HC2.out HQO.out).mono ?_
    rintro e w7 ⟨rfl, b7⟩
    have HB7 := Lib.hid (HB6.out.trans (b7.mono HB6.out.size))
    clear b7 HO6
    by_cases h2 : (runF Q).length ≤ 60000
    · rw [makeV_ok h2]
      clear h1 h2
      go_wp2
      go_ret
      exact ⟨rfl, HB7.out⟩
    · rw [makeV_no h2]
      clear h1 h2
      go_wp2
      go_ret
      exact ⟨rfl, HB7.out⟩
end Go.Proofs.Ytldlfmeppcdbbaa.Run
