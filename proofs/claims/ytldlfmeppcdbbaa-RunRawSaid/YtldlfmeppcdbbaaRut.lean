/- The law: whatever bytes a file has: no rows, or those that it is made of. -/
import Derived.Test.YtldlfmeppcdbbaaRus
namespace Go.Proofs.Ytldlfmeppcdbbaa.Run
open Go.RowKit Go.Lib Go.Proofs.Ytldlfmeppcdbbaa.Crc Go.Proofs.Ytldlfmeppcdbbaa.Row Go.Proofs.Ytldlfmeppcdbbaa.Vec

theorem page_small (l : List UInt8) (a n : Int) : (pageF l a n).2.length ≤ 2000 := by
  rw [← page_is]
  unfold pageQ
  split
  · next all r h =>
    have hN := headQ_le h
    split
    · exact Nat.zero_le _
    · split
      · exact Nat.zero_le _
      · split
        · exact Nat.zero_le _
        · split
          · exact Nat.zero_le _
          · next L hL =>
            have := rowsM_len _ _ _ L _ (Prod.ext hL rfl)
            simp only [List.length_drop, List.length_take]
            omega
  · exact Nat.zero_le _
theorem rows600 {xs : List Rw} (h : (runF xs).length ≤ 3000) : xs.length ≤ 600 := by
  have h1 : ∀ ys : List Rw, 7 * ys.length ≤ (catR ys).length := by
    intro ys
    induction ys with
    | nil => exact Nat.zero_le _
    | cons y ys ih =>
      rw [catR_cons, List.length_append, List.length_cons]
      have : 7 ≤ (putR y.1 y.2).length := by
        unfold putR
        simp only [List.length_append, numB_len]; omega
      omega
  have h2 : ∀ (n : Nat) (ys : List Rw), ys.length ≤ n → 7 * ys.length ≤ (catF ((blocks ys).map catR)).length := by
    intro n
    induction n with
    | zero =>
      intro ys h
      omega
    | succ n ih =>
      intro ys h
      by_cases hne : ys = []
      · subst hne; exact Nat.zero_le _
      · have hl : 0 < ys.length := List.length_pos_iff.2 hne
        have h3 := h1 (ys.take 8)
        have h4 := ih (ys.drop 8) (by rw [List.length_drop]; omega)
        have h5 : (ys.take 8).length = min 8 ys.length := List.length_take
        have h6 : (ys.drop 8).length = ys.length - 8 := List.length_drop
        rw [blocks_cons hne, List.map_cons, catF_cons, List.length_append, frameL_len]
        omega
  have h3 := h2 _ xs (Nat.le_refl _)
  rw [run_parts, List.length_append, List.length_append] at h
  omega

set_option maxHeartbeats 16000000 in
set_option maxRecDepth 100000 in
theorem raw_any (b : ByteArray) (a n : Int) (w : World) :
    Calls Try.prog 3 #[.string b, .int .i64 a, .int .i64 n] w fun e w' => e = .returned (.bool true) ∧ Below w.heap.size w w' := by
  have HAL := Lib.hid (fun W => alive_any W)
  obtain ⟨m, hm⟩ : ∃ m, b.size = m := ⟨_, rfl⟩
  by_cases h3 : 3000 < m
  · have j1 : (3000 : Int) < m := by omega
    clear h3
    go_enter Try.func3, Try.ntmps3
    go_wp2_with fail
    refine (HAL.out _).mono ?_
    rintro e w1 ⟨rfl, b1⟩
    have HB1 := Lib.hid b1
    clear b1
    go_wp2
    go_ret
    exact ⟨rfl, HB1.out⟩
  have j1 : (m : Int) ≤ 3000 := by omega
  have hb6 : b.size ≤ 1000000 := by omega
  have HRd := Lib.hid (fun (W : World) => read_any b W hb6)
  have HPg := Lib.hid (fun (W : World) => page_any b a n W hb6)
  have HDp := Lib.hid (fun (W : World) => dpage_any b a n W hb6)
  obtain ⟨P, hP⟩ : ∃ P, pageF b.data.toList a n = P := ⟨_, rfl⟩
  obtain ⟨pc, pl⟩ := P
  rw [hP] at HPg HDp
  obtain ⟨k, hk⟩ : ∃ k, pl.length = k := ⟨_, rfl⟩
  have hkm : pl.length ≤ 2000 := by
    have := page_small b.data.toList a n
    rw [hP] at this; exact this
  have HK := Lib.hid hk
  have HPg2 := Lib.hid (fun (W : World) => (show Calls Try.prog 9 #[.string b, .int .i64 a, .int .i64 n] W fun e w' => (∃ o c, e = .returned (.tuple #[.slice o k c, .int .i64 (pc : Nat)]) ∧ RowsS w' 0 o pl) ∧ Below W.heap.size W w' from (HPg.out W).mono fun e w' ⟨h1, h2⟩ => ⟨by
    obtain ⟨o, c, h3, h4⟩ := h1
    simp only [hk] at h3
    exact ⟨o, c, h3, h4⟩, h2⟩))
  have HDp2 := Lib.hid (fun (W : World) => (show Calls Try.prog 10 #[.string b, .int .i64 a, .int .i64 n] W fun e w' => (∃ o c, e = .returned (.tuple #[.slice o k c, .int .i64 (pc : Nat)]) ∧ RowsS w' 0 o pl) ∧ Below W.heap.size W w' from (HDp.out W).mono fun e w' ⟨h1, h2⟩ => ⟨by
    obtain ⟨o, c, h3, h4⟩ := h1
    simp only [hk] at h3
    exact ⟨o, c, h3, h4⟩, h2⟩))
  have HSm := Lib.hid (fun (o1 o2 : Option Addr) (c1 c2 : Nat) (W : World) (h1 : RowsS W 0 o1 pl) (h2 : RowsS W 0 o2 pl) => (show Calls Try.prog 11 #[.slice o1 k c1, .slice o2 k c2] W fun e w' => e = .returned (.bool true) ∧ Below W.heap.size W w' from by
    have h := sameRows_any o1 o2 c1 c2 pl pl W (by unfold maxLen; omega) (by unfold maxLen; omega) 0 h1 h2
    rwa [hk, (sameR_iff pl pl).2 rfl] at h))
  clear HPg HDp hP hkm hk h3
  cases hq : readQ b.data.toList with
  | none =>
    have HR2 := Lib.hid (fun (W : World) => (show Calls Try.prog 8 #[.string b] W fun e w' => e = .returned (.tuple #[.slice none 0 0, .int .i64 10]) ∧ Below W.heap.size W w' from (HRd.out W).mono fun e w' ⟨h1, h2⟩ => ⟨by rw [hq] at h1; exact h1, h2⟩))
    clear HRd hq hb6
    go_enter Try.func3, Try.ntmps3
    go_wp2_with fail
    refine (HAL.out _).mono ?_
    rintro e w1 ⟨rfl, b1⟩
    have HB1 := Lib.hid b1
    clear b1
    go_wp2_with fail
    refine (HR2.out _).mono ?_
    rintro e w2 ⟨rfl, b2⟩
    have HB2 := Lib.hid (HB1.out.trans (b2.mono HB1.out.size))
    clear b2
    go_wp2_with fail
    refine (HPg2.out _).mono ?_
    rintro e w3 ⟨⟨o1, c1, rfl, hs1⟩, b3⟩
    have HB3 := Lib.hid (HB2.out.trans (b3.mono HB2.out.size))
    have HS3 := Lib.hid hs1
    clear b3 hs1
    go_wp2_with fail
    refine (HDp2.out _).mono ?_
    rintro e w4 ⟨⟨o2, c2, rfl, hs2⟩, b4⟩
    have HB4 := Lib.hid (HB3.out.trans (b4.mono HB3.out.size))
    have HS4 := Lib.hid (And.intro (HS3.out.below frow b4) hs2)
    clear b4 hs2
    go_wp2_with fail
    refine (HSm.out _ _ _ _ _ HS4.out.1 HS4.out.2).mono ?_
    rintro e w5 ⟨rfl, b5⟩
    have HB5 := Lib.hid (HB4.out.trans (b5.mono HB4.out.size))
    clear b5
    go_wp2
    go_ret
    exact ⟨rfl, HB5.out⟩
  | some R =>
    obtain ⟨q1, q2, q3, q4⟩ := (read_iff _ _).1 hq
    have hrl : (runF R).length ≤ 3000 := by rw [← q1, ← Lib.size_eq]; omega
    obtain ⟨mR, hmR⟩ : ∃ mR, R.length = mR := ⟨_, rfl⟩
    have hm6 : mR ≤ 600 := by rw [← hmR]; exact rows600 hrl
    have hmk := makeV_ok (R := R) (by omega)
    rw [← q1, Crc.str_of] at hmk
    have HR2 := Lib.hid (fun (W : World) => (show Calls Try.prog 8 #[.string b] W fun e w' => (∃ o c us, e = .returned (.tuple #[.slice o mR c, .int .i64 0]) ∧ OwnR w' W.heap.size (.slice o mR c) us R ∧ mR ≤ c) ∧ Below W.heap.size W w' from (HRd.out W).mono fun e w' ⟨h1, h2⟩ => ⟨by
      rw [hq] at h1
      obtain ⟨v, us, h3, hO⟩ := h1
      obtain ⟨o, c, rfl, _, _⟩ := hO.sees frow
      rw [hmR] at h3 hO
      exact ⟨o, c, us, h3, hO, own_cap hO hmR⟩, h2⟩))
    have HMR := Lib.hid hmR
    have HOK := Lib.hid q2
    have HMK := Lib.hid hmk
    clear HRd hq hb6 q1 q2 q3 q4 hrl hmR hmk
    go_enter Try.func3, Try.ntmps3
    go_wp2_with fail
    refine (HAL.out _).mono ?_
    rintro e w1 ⟨rfl, b1⟩
    have HB1 := Lib.hid b1
    clear b1
    go_wp2_with fail
    refine (HR2.out _).mono ?_
    rintro e w2 ⟨⟨oR, cR, us, rfl, hO, hc⟩, b2⟩
    have HB2 := Lib.hid (HB1.out.trans (b2.mono HB1.out.size))
    have HO2 := Lib.hid hO
    have HC := Lib.hid hc
    clear b2 hO hc
    go_wp2_with fail
    refine (HPg2.out _).mono ?_
    rintro e w3 ⟨⟨o1, c1, rfl, hs1⟩, b3⟩
    have HB3 := Lib.hid (HB2.out.trans (b3.mono HB2.out.size))
    have HS3 := Lib.hid hs1
    have HO3 := Lib.hid (HO2.out.below frow b3)
    clear b3 hs1
    go_wp2_with fail
    refine (HDp2.out _).mono ?_
    rintro e w4 ⟨⟨o2, c2, rfl, hs2⟩, b4⟩
    have HB4 := Lib.hid (HB3.out.trans (b4.mono HB3.out.size))
    have HS4 := Lib.hid (And.intro (HS3.out.below frow b4) hs2)
    have HO4 := Lib.hid (HO3.out.below frow b4)
    clear b4 hs2
    go_wp2_with fail
    refine (HSm.out _ _ _ _ _ HS4.out.1 HS4.out.2).mono ?_
    rintro e w5 ⟨rfl, b5⟩
    have HB5 := Lib.hid (HB4.out.trans (b5.mono HB4.out.size))
    have HO5 := Lib.hid (HO4.out.below frow b5)
    clear b5
    go_wp2_with fail
    refine (make_own HO5.out HMR.out hm6 HC.out HOK.out).mono ?_
    rintro e w6 ⟨rfl, b6⟩
    have HB6 := Lib.hid (HB5.out.trans (b6.mono HB5.out.size))
    clear b6
    rw [HMK.out]
    go_wp2
    go_ret
    exact ⟨rfl, HB6.out⟩
end Go.Proofs.Ytldlfmeppcdbbaa.Run
