/- The walk of the statement on dots. -/
import Derived.Test.YtfpdhmecomgbdaaBegins
import Derived.Test.YtfpdhmecomgbdaaQf
namespace Go.Proofs.Ytfpdhmecomgbdaa
open Go.RowKit

/-- So many dots. -/
def dotsB (n : Nat) : ByteArray := ⟨(List.replicate n (46 : UInt8)).toArray⟩
theorem dotsB_size (n : Nat) : (dotsB n).size = n := by
  show (List.replicate n (46 : UInt8)).toArray.size = n
  simp
theorem dotsB_step (n : Nat) : dotsB n ++ (⟨#[46]⟩ : ByteArray) = dotsB (n + 1) := by
  apply bytes_ext
  simp only [ByteArray.data_append, Array.toList_append]
  show List.replicate n (46 : UInt8) ++ [46] = List.replicate (n + 1) 46
  rw [List.replicate_succ']
theorem dots_spell : ∀ n : Nat, spell (List.replicate n (46 : UInt8)) = List.replicate n (46 : Int)
  | 0 => rfl
  | n + 1 => by
    rw [List.replicate_succ, ascii_cons _ (by decide), dots_spell n, List.replicate_succ]; rfl
theorem dotsB_spell (n : Nat) : spell (dotsB n).data.toList = List.replicate n (46 : Int) := dots_spell n

/-- What a pattern of dots is. -/
structure DotsAt (n : Nat) (T : Eg × Gr) : Prop where
  whole : ∀ rs : List Int, wholeF T rs = decide (rs.length = n)
  beg : ∀ rs : List Int, begF T rs = if n ≤ rs.length then (n : Int) else -1
theorem dots_at (n : Nat) : DotsAt n (layF (.choice [.chain (List.replicate n .dot)]) ⟨[], []⟩) := by
  refine ⟨fun rs => ?_, fun rs => beg_of fun k hk => ?_⟩
  · rw [Bool.eq_iff_iff, whole_lang, lang_dots]; simp
  · rw [lang_dots, List.length_take, Nat.min_eq_left hk]
theorem dots_comp (n : Nat) (W : World) (hn : n ≤ 40) : ∃ T, DotsAt n T ∧ PatOk T ∧ Calls Try.prog 12 #[.string (dotsB n)] W (Comp W (dotsB n) T) := by
  have hs := dotsB_size n
  have hsp := dotsB_spell n
  have hr := read_dots n
  rw [← hsp] at hr
  have hl : ¬ 40 < (spell (dotsB n).data.toList).length := by rw [hsp]; simp; omega
  exact ⟨_, dots_at n, readP_ok hr hl, compile_ok _ _ W (by omega) hl hr⟩
theorem spell_len (s : ByteArray) (K : Nat) (hK : (spell s.data.toList).length = K) (W : World) (hs : s.size ≤ 1099511627776) :
    Calls Try.prog 10 #[.string s] W fun e w' => (∃ o c, e = .returned (.slice o K c)) ∧ Below W.heap.size W w' :=
  (spell_any s W hs).mono fun e w' q => (show (∃ o c, e = .returned (.slice o K c)) ∧ Below W.heap.size W w' from by
    obtain ⟨⟨v, he, hown⟩, hb⟩ := q
    obtain ⟨o, c, rfl⟩ := own_shape hown
    exact ⟨⟨o, c, by rw [he, hK]⟩, hb⟩)

set_option maxHeartbeats 8000000 in
set_option maxRecDepth 100000 in
theorem dots_any (n : Int) (s : ByteArray) (w : World) :
    Calls Try.prog 7 #[.int .i64 n, .string s] w fun e w' => e = .returned (.bool true) ∧ Below w.heap.size w w' := by
  have HAL := Lib.hid (fun W => alive_any W)
  by_cases h0 : n < 0
  · have t0 : decide (n < 0) = true := by simpa using h0
    go_enter Try.func7, Try.ntmps7
    go_wp2_with fail
    refine (HAL.out _).mono ?_
    rintro e w1 ⟨rfl, b1⟩
    go_wp2
    go_ret
    exact ⟨rfl, b1⟩
  by_cases h1 : 40 < n
  · have t0 : decide (n < 0) = false := by simpa using h0
    have t1 : decide (40 < n) = true := by simpa using h1
    clear h0
    go_enter Try.func7, Try.ntmps7
    go_wp2_with fail
    refine (HAL.out _).mono ?_
    rintro e w1 ⟨rfl, b1⟩
    go_wp2
    go_ret
    exact ⟨rfl, b1⟩
  obtain ⟨N, rfl⟩ : ∃ N : Nat, n = N := ⟨n.toNat, by omega⟩
  have t0 : decide ((N : Int) < 0) = false := by simp
  have t1 : decide (40 < (N : Int)) = false := by simpa using h1
  have hN : N ≤ 40 := by omega
  clear h0 h1
  by_cases h2 : 200 < s.size
  · have i2 : (200 : Int) < s.size := by omega
    have t2 : decide ((200 : Int) < s.size) = true := by simpa using i2
    clear h2
    go_enter Try.func7, Try.ntmps7
    go_wp2_with fail
    refine (HAL.out _).mono ?_
    rintro e w1 ⟨rfl, b1⟩
    go_wp2
    go_ret
    exact ⟨rfl, b1⟩
  have i2 : (s.size : Int) ≤ 200 := by omega
  have t2 : decide ((200 : Int) < s.size) = false := by simpa using i2
  have hss : s.size ≤ 200 := by omega
  clear h2
  obtain ⟨K, hK⟩ : ∃ K, (spell s.data.toList).length = K := ⟨_, rfl⟩
  have hKs := spell_size s
  have HSP := Lib.hid (fun W => spell_len s K hK W (by omega))
  have HK := Lib.hid hK
  rw [hK] at hKs
  have HDC := Lib.hid (fun W => dots_comp N W hN)
  clear hK
  go_enter Try.func7, Try.ntmps7
  go_wp2_with fail
  refine (HAL.out _).mono ?_
  rintro e w1 ⟨rfl, b1⟩
  have HB1 := Lib.hid b1
  clear b1
  go_wp2_with fail
  go_loopg [5, 6] (N + 1) (fun k v5 v6 wr => ∃ i : Nat, i ≤ N ∧ k + i = N + 1 ∧ v5 = .string (dotsB i) ∧ v6 = .int .i64 i ∧ Hid (Below w.heap.size w wr))
  case atStart => exact ⟨0, by omega, rfl, rfl, rfl, HB1.out⟩
  case round =>
    obtain ⟨i, hiN, hgk, rfl, rfl, HB⟩ := hrel
    have HGK := Lib.hid hgk
    by_cases hin : i < N
    · have j1 : (i : Int) < N := by omega
      have hds : (dotsB i).size ≤ 40 := by rw [dotsB_size]; omega
      clear hgk
      go_wp2_with fail
      go_roundg (gk - 1)
      case measure => have := HGK.out; omega
      case rel => exact ⟨i + 1, by omega, by have := HGK.out; omega, by rw [dotsB_step], by go_num, HB⟩
    · have hi : i = N := by omega
      subst hi
      clear hgk hin
      obtain ⟨T, hat, hok, hc⟩ := HDC.out wr
      have HC := Lib.hid hc
      have HPO := Lib.hid hok
      obtain ⟨V, hV⟩ : ∃ V, wholeF T (spell s.data.toList) = V := ⟨_, rfl⟩
      obtain ⟨B, hB⟩ : ∃ B, begF T (spell s.data.toList) = B := ⟨_, rfl⟩
      have HWV := Lib.hid (fun bp W (hp : PatAt W bp (dotsB i) T) => whole_any bp _ T s W hp hok (by omega))
      have HBG := Lib.hid (fun bp W (hp : PatAt W bp (dotsB i) T) => begins_any bp _ T s W hp hok (by omega))
      have kV := hat.whole (spell s.data.toList)
      have kB := hat.beg (spell s.data.toList)
      rw [hV] at HWV kV
      rw [hB] at HBG kB
      rw [HK.out] at kV kB
      clear hc hok hat hV hB
      rcases (show K < i ∨ i < K ∨ K = i by omega) with h | h | h
      · have j1 : (K : Int) < i := by omega
        have j2 : ((K : Int) == i) = false := beq_eq_false_iff_ne.2 (by omega)
        rw [decide_eq_false (by omega)] at kV
        rw [if_neg (by omega)] at kB
        subst kV kB
        clear h
        go_wp2_with fail
        refine HC.out.mono ?_
        rintro e w2 ⟨bp, rfl, hp2, b2⟩
        have HP2 := Lib.hid hp2
        have HB2 := Lib.hid (HB.out.trans (b2.mono HB.out.size))
        clear b2 hp2
        go_wp2_with fail
        refine (HSP.out w2).mono ?_
        rintro e w3 ⟨⟨o, c, rfl⟩, b3⟩
        have HP3 := Lib.hid (HP2.out.below b3)
        have HB3 := Lib.hid (HB2.out.trans (b3.mono HB2.out.size))
        clear b3
        go_wp2_with fail
        refine (HWV.out bp w3 HP3.out).mono ?_
        rintro e w4 ⟨rfl, b4⟩
        have HP4 := Lib.hid (HP3.out.below b4)
        have HB4 := Lib.hid (HB3.out.trans (b4.mono HB3.out.size))
        clear b4
        go_wp2_with fail
        refine (HBG.out bp w4 HP4.out).mono ?_
        rintro e w5 ⟨rfl, b5⟩
        have HB5 := Lib.hid (HB4.out.trans (b5.mono HB4.out.size))
        clear b5
        go_wp2_with fail
        go_ret
        exact ⟨rfl, HB5.out⟩
      · have j1 : (i : Int) ≤ K := by omega
        have j2 : ((K : Int) == i) = false := beq_eq_false_iff_ne.2 (by omega)
        rw [decide_eq_false (by omega)] at kV
        rw [if_pos (by omega)] at kB
        subst kV kB
        clear h
        go_wp2_with fail
        refine HC.out.mono ?_
        rintro e w2 ⟨bp, rfl, hp2, b2⟩
        have HP2 := Lib.hid hp2
        have HB2 := Lib.hid (HB.out.trans (b2.mono HB.out.size))
        clear b2 hp2
        go_wp2_with fail
        refine (HSP.out w2).mono ?_
        rintro e w3 ⟨⟨o, c, rfl⟩, b3⟩
        have HP3 := Lib.hid (HP2.out.below b3)
        have HB3 := Lib.hid (HB2.out.trans (b3.mono HB2.out.size))
        clear b3
        go_wp2_with fail
        refine (HWV.out bp w3 HP3.out).mono ?_
        rintro e w4 ⟨rfl, b4⟩
        have HP4 := Lib.hid (HP3.out.below b4)
        have HB4 := Lib.hid (HB3.out.trans (b4.mono HB3.out.size))
        clear b4
        go_wp2_with fail
        refine (HBG.out bp w4 HP4.out).mono ?_
        rintro e w5 ⟨rfl, b5⟩
        have HB5 := Lib.hid (HB4.out.trans (b5.mono HB4.out.size))
        clear b5
        go_wp2_with fail
        go_ret
        exact ⟨rfl, HB5.out⟩
      · subst h
        rw [decide_eq_true rfl] at kV
        rw [if_pos (Nat.le_refl _)] at kB
        subst kV kB
        go_wp2_with fail
        refine HC.out.mono ?_
        rintro e w2 ⟨bp, rfl, hp2, b2⟩
        have HP2 := Lib.hid hp2
        have HB2 := Lib.hid (HB.out.trans (b2.mono HB.out.size))
        clear b2 hp2
        go_wp2_with fail
        refine (HSP.out w2).mono ?_
        rintro e w3 ⟨⟨o, c, rfl⟩, b3⟩
        have HP3 := Lib.hid (HP2.out.below b3)
        have HB3 := Lib.hid (HB2.out.trans (b3.mono HB2.out.size))
        clear b3
        go_wp2_with fail
        refine (HWV.out bp w3 HP3.out).mono ?_
        rintro e w4 ⟨rfl, b4⟩
        have HP4 := Lib.hid (HP3.out.below b4)
        have HB4 := Lib.hid (HB3.out.trans (b4.mono HB3.out.size))
        clear b4
        go_wp2_with fail
        refine (HBG.out bp w4 HP4.out).mono ?_
        rintro e w5 ⟨rfl, b5⟩
        have HB5 := Lib.hid (HB4.out.trans (b5.mono HB4.out.size))
        clear b5
        go_wp2_with fail
        go_ret
        exact ⟨rfl, HB5.out⟩
end Go.Proofs.Ytfpdhmecomgbdaa
