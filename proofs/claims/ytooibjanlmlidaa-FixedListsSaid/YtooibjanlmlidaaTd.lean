/- The walk of the law on lists of numbers. -/
import Derived.Test.YtooibjanlmlidaaTc
namespace Go.Proofs.Ytooibjanlmlidaa
open Go.RowKit

set_option maxHeartbeats 1000000 in
theorem rrank_any (p : Int) (o : Option Addr) (cap : Nat) (zs : List Int) (w : World) (hm : zs.length ≤ 200) (hS : SeesI w o zs) :
    Calls Try.prog 23 #[.int .i64 p, .slice o zs.length cap] w fun e w' => e = .returned (.tuple #[.int .i64 (rankF p zs).1, .bool (rankF p zs).2]) ∧ Below w.heap.size w w' := by
  by_cases h0 : zs = []
  · have e : rankF p zs = (0, false) := by unfold rankF; rw [if_pos (.inl h0)]
    rw [e]; subst h0; clear e
    go_enter Try.func23, Try.ntmps23
    go_wp2
    go_ret2
    exact ⟨rfl, Below.refl _ _⟩
  by_cases hp : p < 0 ∨ 100 < p
  · have e : rankF p zs = (0, false) := by unfold rankF; rw [if_pos (.inr hp)]
    obtain ⟨n, hn⟩ : ∃ n, zs.length = n := ⟨_, rfl⟩
    have t0 : ((n : Int) == 0) = false := beq_eq_false_iff_ne.2 (by
      have : zs.length ≠ 0 := fun h => h0 (List.length_eq_zero_iff.1 h)
      omega)
    rw [e, hn]
    rw [hn] at hm
    clear e hn hS h0
    by_cases hp0 : p < 0
    · have t1 : decide (p < 0) = true := by simpa using hp0
      clear hp
      go_enter Try.func23, Try.ntmps23
      go_wp2
      go_ret2
      exact ⟨rfl, Below.refl _ _⟩
    · have t1 : decide (p < 0) = false := by simpa using hp0
      have hp1 : 100 < p := by omega
      have t2 : decide (100 < p) = true := by simpa using hp1
      clear hp
      go_enter Try.func23, Try.ntmps23
      go_wp2
      go_ret2
      exact ⟨rfl, Below.refl _ _⟩
  · exact rrank_all p o cap zs w hm hS h0 (by omega) (by omega)

theorem mean_or (zs : List Int) : (meanF zs).2 = 0 ∨ (meanF zs).1 = 0 := by
  unfold meanF
  by_cases h : zs = []
  · rw [if_pos h]; exact .inr rfl
  · rw [if_neg h]
    by_cases h2 : zs.length ≤ 2000 ∧ (∀ z ∈ zs, rgt z)
    · rw [if_pos h2]; exact .inl rfl
    · rw [if_neg h2]; exact .inr rfl

set_option maxHeartbeats 8000000 in
set_option maxRecDepth 100000 in
theorem lists_any (o : Option Addr) (cap : Nat) (zs : List Int) (p : Int) (w : World) (hm : zs.length ≤ maxLen) (hcap : o = none → cap = 0) (hS : SeesI w o zs) :
    Calls Try.prog 4 #[.slice o zs.length cap, .int .i64 p] w fun e w' => e = .returned (.bool true) ∧ Below w.heap.size w w' := by
  have HAL := Lib.hid (fun W => alive_any W)
  obtain ⟨n, hn⟩ : ∃ n, zs.length = n := ⟨_, rfl⟩
  have HN := Lib.hid hn
  by_cases h21 : 2100 < zs.length
  · rw [hn] at h21 hm ⊢
    have i1 : (2100 : Int) < n := by omega
    clear hS hcap hn
    go_enter Try.func4, Try.ntmps4
    go_wp2_with fail
    refine (HAL.out _).mono ?_
    rintro e w1 ⟨rfl, b1⟩
    have HB1 := Lib.hid b1
    clear b1
    go_wp2
    go_ret
    exact ⟨rfl, HB1.out⟩
  have hmm : zs.length ≤ 1000000 := by omega
  have HS := Lib.hid hS
  have HL := Lib.hid (fun W (h : Below w.heap.size w W) => lent_any o cap zs hmm hcap W (hS.below h))
  obtain ⟨sa, se, hs⟩ : ∃ a e : Int, sumF zs = (a, e) := ⟨_, _, rfl⟩
  obtain ⟨ma, me, hmn⟩ : ∃ a e : Int, meanF zs = (a, e) := ⟨_, _, rfl⟩
  have hor := mean_or zs
  rw [hmn] at hor
  have H1 := Lib.hid (fun W (o : Option Addr) c (h : SeesI W o zs) => (show Calls Try.prog 17 #[.slice o n c] W fun e w' => e = .returned (.tuple #[.int .i64 sa, .int .i64 se]) ∧ W = w' by
    have := sum_any o c zs W hm h
    rw [hs, hn] at this; exact this))
  have H2 := Lib.hid (fun W (o : Option Addr) c (h : SeesI W o zs) => (show Calls Try.prog 18 #[.slice o n c] W fun e w' => e = .returned (.tuple #[.int .i64 sa, .int .i64 se]) ∧ W = w' by
    have := rsum_any o c zs W hmm h
    rw [hs, hn] at this; exact this))
  have H3 := Lib.hid (fun W (o : Option Addr) c (h : SeesI W o zs) => (show Calls Try.prog 19 #[.slice o n c] W fun e w' => e = .returned (.tuple #[.int .i64 ma, .int .i64 me]) ∧ W = w' by
    have := mean_any o c zs W hm h
    rw [hmn, hn] at this; exact this))
  have H4 := Lib.hid (fun W (o : Option Addr) c (h : SeesI W o zs) => (show Calls Try.prog 20 #[.slice o n c] W fun e w' => e = .returned (.tuple #[.int .i64 ma, .int .i64 me]) ∧ W = w' by
    have := rmean_any o c zs W hmm h
    rw [hmn, hn] at this; exact this))
  have H5 := Lib.hid (fun W g c (hL : Lent W g c zs) (h : SeesI W o zs) => (show Calls Try.prog 21 #[.slice (some ⟨g, 0, none⟩) n c, .slice o n cap] W fun e w' => e = .returned (.bool true) ∧ Below W.heap.size W w' by
    have := stays_any g c o cap zs hmm W hL h
    rw [hn] at this; exact this))
  rw [hn] at HL h21 ⊢
  have i1 : (n : Int) ≤ 2100 := by omega
  obtain ⟨rv, rk, hrk⟩ : ∃ (a : Int) (e : Bool), rankF p zs = (a, e) := ⟨_, _, rfl⟩
  have H6 := Lib.hid (fun (hn2 : n ≤ 200) W (o : Option Addr) c (h : SeesI W o zs) => (show Calls Try.prog 22 #[.int .i64 p, .slice o n c] W fun e w' => e = .returned (.tuple #[.int .i64 rv, .bool rk]) ∧ Below W.heap.size W w' by
    have := rank_any p o c zs W (by omega) h
    rw [hrk, hn] at this; exact this))
  have H7 := Lib.hid (fun (hn2 : n ≤ 200) W (o : Option Addr) c (h : SeesI W o zs) => (show Calls Try.prog 23 #[.int .i64 p, .slice o n c] W fun e w' => e = .returned (.tuple #[.int .i64 rv, .bool rk]) ∧ Below W.heap.size W w' by
    have := rrank_any p o c zs W (by omega) h
    rw [hrk, hn] at this; exact this))
  clear hS hcap hs hmn hn hmm hm hrk
  by_cases h2 : 200 < n

  · skip
    have i2 : (200 : Int) < n := by omega
    clear h2
    rcases hor with rfl | rfl
    all_goals
      go_enter Try.func4, Try.ntmps4
      go_wp2_with fail
      refine (HAL.out _).mono ?_
      rintro e w1 ⟨rfl, b1⟩
      have HB1 := Lib.hid b1
      clear b1
      go_wp2_with fail
      refine (HL.out _ HB1.out).mono ?_
      rintro e w2 ⟨⟨g, c, rfl, hl⟩, b2⟩
      have HB2 := Lib.hid (HB1.out.trans (b2.mono HB1.out.size))
      have HLE := Lib.hid hl
      clear b2 hl
      go_wp2_with fail
      refine (H1.out _ _ _ HLE.out.sees).mono ?_
      rintro e w' ⟨rfl, rfl⟩
      go_wp2_with fail
      refine (H2.out _ _ _ (HS.out.below HB2.out)).mono ?_
      rintro e w' ⟨rfl, rfl⟩
      go_wp2_with fail
      refine (H3.out _ _ _ HLE.out.sees).mono ?_
      rintro e w' ⟨rfl, rfl⟩
      go_wp2_with fail
      refine (H4.out _ _ _ (HS.out.below HB2.out)).mono ?_
      rintro e w' ⟨rfl, rfl⟩
      go_wp2_with fail

      all_goals
        refine (H5.out _ _ _ HLE.out (HS.out.below HB2.out)).mono ?_
        rintro e w3 ⟨rfl, b3⟩
        have HB3 := Lib.hid (HB2.out.trans (b3.mono HB2.out.size))
        clear b3
        go_wp2
        go_ret
        exact ⟨rfl, HB3.out⟩
  · skip
    have i2 : (n : Int) ≤ 200 := by omega
    have i3 : n ≤ 200 := by omega
    have H6 := Lib.hid (H6.out i3)
    have H7 := Lib.hid (H7.out i3)
    clear h2
    rcases hor with rfl | rfl
    all_goals
      cases rk
      all_goals
        go_enter Try.func4, Try.ntmps4
        go_wp2_with fail
        refine (HAL.out _).mono ?_
        rintro e w1 ⟨rfl, b1⟩
        have HB1 := Lib.hid b1
        clear b1
        go_wp2_with fail
        refine (HL.out _ HB1.out).mono ?_
        rintro e w2 ⟨⟨g, c, rfl, hl⟩, b2⟩
        have HB2 := Lib.hid (HB1.out.trans (b2.mono HB1.out.size))
        have HLE := Lib.hid hl
        clear b2 hl
        go_wp2_with fail
        refine (H1.out _ _ _ HLE.out.sees).mono ?_
        rintro e w' ⟨rfl, rfl⟩
        go_wp2_with fail
        refine (H2.out _ _ _ (HS.out.below HB2.out)).mono ?_
        rintro e w' ⟨rfl, rfl⟩
        go_wp2_with fail
        refine (H3.out _ _ _ HLE.out.sees).mono ?_
        rintro e w' ⟨rfl, rfl⟩
        go_wp2_with fail
        refine (H4.out _ _ _ (HS.out.below HB2.out)).mono ?_
        rintro e w' ⟨rfl, rfl⟩
        go_wp2_with fail

        all_goals
          refine (H5.out _ _ _ HLE.out (HS.out.below HB2.out)).mono ?_
          rintro e w3 ⟨rfl, b3⟩
          have HB3 := Lib.hid (HB2.out.trans (b3.mono HB2.out.size))
          have HL3 := Lib.hid (HLE.out.below b3)
          clear b3
          go_wp2_with fail
          refine (H6.out _ _ _ HL3.out.sees).mono ?_
          rintro e w4 ⟨rfl, b4⟩
          have HB4 := Lib.hid (HB3.out.trans (b4.mono HB3.out.size))
          have HL4 := Lib.hid (HL3.out.below b4)
          clear b4
          go_wp2_with fail
          refine (H7.out _ _ _ (HS.out.below HB4.out)).mono ?_
          rintro e w5 ⟨rfl, b5⟩
          have HB5 := Lib.hid (HB4.out.trans (b5.mono HB4.out.size))
          have HL5 := Lib.hid (HL4.out.below b5)
          clear b5
          go_wp2_with fail
          refine (H5.out _ _ _ HL5.out (HS.out.below HB5.out)).mono ?_
          rintro e w6 ⟨rfl, b6⟩
          have HB6 := Lib.hid (HB5.out.trans (b6.mono HB5.out.size))
          clear b6
          go_wp2
          go_ret
          exact ⟨by first | rfl | simp, HB6.out⟩
end Go.Proofs.Ytooibjanlmlidaa
