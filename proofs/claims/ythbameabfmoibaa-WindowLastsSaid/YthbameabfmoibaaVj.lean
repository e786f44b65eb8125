/- The law on the last number of a while. -/
import Derived.Test.YthbameabfmoibaaVb
import Derived.Test.YthbameabfmoibaaVh
namespace Go.Proofs.Ythbameabfmoibaa.Win
open Go.RowKit Go.Lib

/-- The last of so many points that is not too young: where it stands. -/
def LastAt (xs : List Pt) (t : Int) (k : Nat) (v : Value) : Prop :=
  (v = .int .i64 (-1) ∧ ((xs.take k).filter (upTo t)).getLast? = none) ∨ ∃ (a : Nat) (x : Pt), v = .int .i64 a ∧ a < xs.length ∧ xs[a]? = some x ∧ ((xs.take k).filter (upTo t)).getLast? = some x
theorem last_zero (xs : List Pt) (t : Int) : LastAt xs t 0 (.int .i64 (-1)) := .inl ⟨rfl, rfl⟩
theorem last_yes {xs : List Pt} {t : Int} {k : Nat} {x : Pt} (hx : xs[k]? = some x) (h : x.1 ≤ t) : LastAt xs t (k + 1) (.int .i64 k) := by
  refine .inr ⟨k, x, rfl, (List.getElem?_eq_some_iff.1 hx).1, hx, ?_⟩
  rw [upTo_step hx t, if_pos h]; simp
theorem last_no {xs : List Pt} {t : Int} {k : Nat} {x : Pt} {v : Value} (hx : xs[k]? = some x) (h : ¬ x.1 ≤ t) (hl : LastAt xs t k v) : LastAt xs t (k + 1) v := by
  unfold LastAt
  rw [upTo_step hx t, if_neg h, List.append_nil]; exact hl
theorem last_end {xs : List Pt} {t : Int} {k : Nat} {v : Value} (hk : xs.length ≤ k) (hl : LastAt xs t k v) : (v = .int .i64 (-1) ∧ (xs.filter (upTo t)).getLast? = none) ∨ ∃ (a : Nat) (x : Pt), v = .int .i64 a ∧ a < xs.length ∧ xs[a]? = some x ∧ (xs.filter (upTo t)).getLast? = some x := by
  unfold LastAt at hl
  rw [List.take_of_length_le hk] at hl; exact hl
theorem lastF_good {xs : List Pt} {t w : Int} (h : pointsB xs = true ∧ timeP t ∧ timeP w) : lastF xs t w = match (xs.filter (upTo t)).getLast? with | some x => if t - w < x.1 then (x.2, true) else (0, false) | none => (0, false) := by
  unfold lastF
  rw [of_good h, last_win ((points_iff xs).1 h.1).2.1]
  cases (xs.filter (upTo t)).getLast? with
  | none => rfl
  | some x =>
    dsimp only
    by_cases hc : t - w < x.1
    · rw [if_pos hc, if_pos hc]
    · rw [if_neg hc, if_neg hc]

set_option maxHeartbeats 4000000 in
set_option maxRecDepth 100000 in
theorem wlasts_any (o : Option Addr) (cap : Nat) (xs : List Pt) (t wh : Int) (w : World) (hm : xs.length ≤ maxLen) (hS : Pnt.SeesO w o xs) :
    Calls Try.prog 8 #[.slice o xs.length cap, .int .i64 t, .int .i64 wh] w fun e w' => e = .returned (.bool true) ∧ Below w.heap.size w w' := by
  have HP := Lib.hid (rpoints_any o cap xs w hm hS)
  have HAL := Lib.hid (fun W => alive_any W)
  have HL := Lib.hid (fun W (h : Below w.heap.size w W) => last_any o cap xs t wh W hm (hS.below h))
  have HSO := Lib.hid hS
  obtain ⟨n, hn⟩ : ∃ n, xs.length = n := ⟨_, rfl⟩
  have HN := Lib.hid hn
  rw [hn] at HP HL hm ⊢
  unfold maxLen at hm
  clear hS hn
  cases hp : pointsB xs with
  | false =>
    rw [hp] at HP
    clear HL HSO
    go_enter Try.func8, Try.ntmps8
    go_wp2_with fail
    refine HP.out.mono ?_
    rintro e w1 ⟨rfl, b1⟩
    go_wp2_with fail
    refine (HAL.out _).mono ?_
    rintro e w2 ⟨rfl, b2⟩
    have HB2 := Lib.hid (b1.trans (b2.mono b1.size))
    clear b1 b2
    go_wp2
    go_ret
    exact ⟨rfl, HB2.out⟩
  | true =>
  rw [hp] at HP
  have hbad : ∀ (_ : ¬ (timeP t ∧ timeP wh)), Calls Try.prog 8 #[.slice o n cap, .int .i64 t, .int .i64 wh] w fun e w' => e = .returned (.bool true) ∧ Below w.heap.size w w' := by
    intro hb
    by_cases h1 : t < 0
    case' pos => clear hb
    case' neg =>
      by_cases h2 : 1000000000 < t
      case' pos => clear hb
      case' neg =>
        by_cases h3 : wh < 0
        case' pos => clear hb
        case' neg =>
          have h4 : 1000000000 < wh := by
            by_cases h4 : wh ≤ 1000000000
            · exact absurd ⟨⟨by omega, by omega⟩, ⟨by omega, h4⟩⟩ hb
            · omega
          clear hb
    all_goals
      clear HL HSO hp
      go_enter Try.func8, Try.ntmps8
      go_wp2_with fail
      refine HP.out.mono ?_
      rintro e w1 ⟨rfl, b1⟩
      go_wp2_with fail
      refine (HAL.out _).mono ?_
      rintro e w2 ⟨rfl, b2⟩
      have HB2 := Lib.hid (b1.trans (b2.mono b1.size))
      clear b1 b2
      go_wp2
      go_ret
      exact ⟨rfl, HB2.out⟩
  by_cases hg : timeP t ∧ timeP wh
  case neg => exact hbad hg
  clear hbad
  have HF := Lib.hid (lastF_good ⟨hp, hg.1, hg.2⟩)
  obtain ⟨⟨t1, t2⟩, ⟨u1, u2⟩⟩ := hg
  have hn25 : n ≤ 25 := by rw [← HN.out]; exact ((points_iff xs).1 hp).1
  clear hp
  generalize lastF xs t wh = R at HL HF
  go_enter Try.func8, Try.ntmps8
  go_wp2_with fail
  refine HP.out.mono ?_
  rintro e w1 ⟨rfl, b1⟩
  have HB1 := Lib.hid b1
  clear b1
  go_wp2_with fail
  refine (HAL.out _).mono ?_
  rintro e w2 ⟨rfl, b2⟩
  have HB2 := Lib.hid (HB1.out.trans (b2.mono HB1.out.size))
  clear b2 HB1
  have HS2 := Lib.hid (HSO.out.below HB2.out)
  go_wp2
  go_loop [7, 8] (fun v7 v8 => ∃ k : Nat, v8 = .int .i64 k ∧ k ≤ n ∧ Hid (LastAt xs t k v7)) (fun _ v8 => n - (intOf v8).toNat)
  case atStart => exact ⟨0, rfl, Nat.zero_le _, last_zero xs t⟩
  case round =>
    obtain ⟨k, rfl, hk, H⟩ := hrel
    by_cases hkn : k < n
    · have j1 : (k : Int) < n := by omega
      obtain ⟨x, hx⟩ := Pnt.get_lt HN.out hkn
      obtain ⟨b, off, rfl, hS⟩ := HS2.out.at hx
      have c0 := hS.at0 k x hx
      by_cases hxt : x.1 ≤ t
      · have H2 := Lib.hid (last_yes hx hxt)
        clear hS hx
        go_wp2
        go_round
        case rel => exact ⟨k + 1, by go_num, by omega, H2⟩
        case measure => simp [intOf]; omega
      · have H2 := Lib.hid (last_no hx hxt H.out)
        clear hS hx
        go_wp2
        go_round
        case rel => exact ⟨k + 1, by go_num, by omega, H2⟩
        case measure => simp [intOf]; omega
    · have j1 : ¬ ((k : Int) < n) := by omega
      rcases last_end (by rw [HN.out]; omega) H.out with ⟨rfl, hl⟩ | ⟨a, x, rfl, ha, hx, hl⟩
      · have HR := HF.out
        rw [hl] at HR
        rw [HR] at HL
        clear hl HR HF
        go_wp2_with fail
        refine (HL.out _ HB2.out).mono ?_
        rintro e w3 ⟨rfl, b3⟩
        have HB3 := Lib.hid (HB2.out.trans (b3.mono HB2.out.size))
        clear b3
        go_wp2
        go_ret
        exact ⟨rfl, HB3.out⟩
      · have HR := HF.out
        rw [hl] at HR
        rw [HN.out] at ha
        have j2 : (a : Int) < n := by omega
        have HX := Lib.hid hx
        by_cases hc : t - wh < x.1
        · have hR2 : R = (x.2, true) := by rw [HR]; exact if_pos hc
          rw [hR2] at HL
          clear hl HR HF hx hR2
          go_wp2_with fail
          refine (HL.out _ HB2.out).mono ?_
          rintro e w3 ⟨rfl, b3⟩
          have HB3 := Lib.hid (HB2.out.trans (b3.mono HB2.out.size))
          obtain ⟨b, off, rfl, hS⟩ := (HS2.out.below b3).at HX.out
          have c0 := hS.at0 a x HX.out
          have c1 := hS.at1 a x HX.out
          clear b3 hS
          go_wp2
          go_ret
          exact ⟨by simp, HB3.out⟩
        · have hR2 : R = (0, false) := by rw [HR]; exact if_neg hc
          rw [hR2] at HL
          clear hl HR HF hx hR2
          go_wp2_with fail
          refine (HL.out _ HB2.out).mono ?_
          rintro e w3 ⟨rfl, b3⟩
          have HB3 := Lib.hid (HB2.out.trans (b3.mono HB2.out.size))
          obtain ⟨b, off, rfl, hS⟩ := (HS2.out.below b3).at HX.out
          have c0 := hS.at0 a x HX.out
          have c1 := hS.at1 a x HX.out
          clear b3 hS
          go_wp2
          go_ret
          exact ⟨by simp, HB3.out⟩
end Go.Proofs.Ythbameabfmoibaa.Win
