/- The walk of the statement on classes. -/
import Derived.Test.YtfpdhmecomgbdaaPlain
namespace Go.Proofs.Ytfpdhmecomgbdaa
open Go.RowKit

/-- The characters of a class. -/
def clsR (neg : Bool) (lo hi : Int) : List Int := 91 :: (if neg then [94] else []) ++ [lo, 45, hi, 93]
/-- A class, as a text. -/
def clsB (neg : Bool) (lo hi : Int) : ByteArray := runesBytes (clsR neg lo hi)
theorem enc_ascii : Lib.encodeRune 91 = [91] ∧ Lib.encodeRune 93 = [93] ∧ Lib.encodeRune 45 = [45] ∧ Lib.encodeRune 94 = [94] := by decide
theorem clsB_neg (lo hi : Int) : (((((⟨#[91]⟩ : ByteArray) ++ (⟨#[94]⟩ : ByteArray)) ++ runesBytes [lo]) ++ (⟨#[45]⟩ : ByteArray)) ++ runesBytes [hi]) ++ (⟨#[93]⟩ : ByteArray) = clsB true lo hi := by
  apply bytes_ext
  obtain ⟨e1, e2, e3, e4⟩ := enc_ascii
  simp only [ByteArray.data_append, Array.toList_append, clsB, clsR, runesBytes_data, List.flatMap_cons, List.flatMap_nil, List.append_nil, if_true, List.cons_append, List.nil_append, e1, e2, e3, e4, List.append_assoc]
theorem clsB_pos (lo hi : Int) : (((((⟨#[91]⟩ : ByteArray) ++ (⟨#[]⟩ : ByteArray)) ++ runesBytes [lo]) ++ (⟨#[45]⟩ : ByteArray)) ++ runesBytes [hi]) ++ (⟨#[93]⟩ : ByteArray) = clsB false lo hi := by
  apply bytes_ext
  obtain ⟨e1, e2, e3, e4⟩ := enc_ascii
  simp only [ByteArray.data_append, Array.toList_append, clsB, clsR, runesBytes_data, List.flatMap_cons, List.flatMap_nil, List.append_nil, Bool.false_eq_true, if_false, List.cons_append, List.nil_append, e1, e2, e3, List.append_assoc]
/-- What a class takes. -/
structure ClsPat (V : Bool) (q : Int) (T : Eg × Gr) : Prop where
  one : wholeF T [q] = V
  none : wholeF T [] = false
  two : wholeF T [q, q] = false
  beg : begF T [q, q] = if V then 1 else -1
theorem cls_pat (neg : Bool) (lo hi q : Int) : ClsPat (decide (lo ≤ q ∧ q ≤ hi) != neg) q (layF (.choice [.chain [.cls neg [(lo, hi)]]]) ⟨[], []⟩) := by
  refine ⟨?_, ?_, ?_, ?_⟩
  · rw [Bool.eq_iff_iff, whole_lang, lang_class]
    constructor
    · rintro ⟨r, hr, h⟩
      obtain rfl : q = r := by simpa using hr
      exact h
    · intro h; exact ⟨q, rfl, h⟩
  · rw [Bool.eq_false_iff, ne_eq, whole_lang, lang_class]
    rintro ⟨r, hr, _⟩
    cases hr
  · rw [Bool.eq_false_iff, ne_eq, whole_lang, lang_class]
    rintro ⟨r, hr, _⟩
    cases hr
  · cases hV : (decide (lo ≤ q ∧ q ≤ hi) != neg)
    · refine (beg_of (n := 3) fun k hk => ?_).trans rfl
      rw [lang_class]
      constructor
      · rintro ⟨r, hr, h⟩
        have hk1 : k = 1 := by
          have := congrArg List.length hr
          rw [List.length_take] at this
          simp at this hk
          omega
        subst hk1
        obtain rfl : q = r := by simpa using hr
        rw [hV] at h; cases h
      · rintro rfl; simp at hk
    · refine (beg_of (n := 1) fun k hk => ?_).trans rfl
      rw [lang_class]
      constructor
      · rintro ⟨r, hr, _⟩
        have := congrArg List.length hr
        rw [List.length_take] at this
        simp at this hk
        omega
      · rintro rfl; exact ⟨q, rfl, hV⟩
theorem cls_comp (neg : Bool) (lo hi q : Int) (h1 : 97 ≤ lo) (h2 : lo ≤ hi) (h3 : hi ≤ 8192) (W : World) : ∃ T, ClsPat (decide (lo ≤ q ∧ q ≤ hi) != neg) q T ∧ PatOk T ∧ Calls Try.prog 12 #[.string (clsB neg lo hi)] W (Comp W (clsB neg lo hi) T) := by
  have hok : ∀ r ∈ clsR neg lo hi, okR r := by
    intro r hr
    unfold okR
    have : r = 91 ∨ r = 94 ∨ r = lo ∨ r = 45 ∨ r = hi ∨ r = 93 := by
      cases neg <;> simp [clsR] at hr <;> omega
    omega
  have hlen : (clsR neg lo hi).length ≤ 6 := by cases neg <;> simp [clsR]
  have hsp : spell (clsB neg lo hi).data.toList = clsR neg lo hi := spell_bytes hok
  have hs := bytes_size (clsR neg lo hi)
  have hr := read_class lo hi neg h1 h2
  have hr2 : readP (spell (clsB neg lo hi).data.toList) = some (.choice [.chain [.cls neg [(lo, hi)]]]) := by rw [hsp]; exact hr
  have hl : ¬ 40 < (spell (clsB neg lo hi).data.toList).length := by rw [hsp]; omega
  exact ⟨_, cls_pat neg lo hi q, readP_ok hr2 hl, compile_ok _ _ W (by show (runesBytes _).size ≤ _; omega) hl hr2⟩
theorem one_spell (r : Int) : spell (runesBytes [r]).data.toList = [norm r] := by
  rw [runesBytes_data, spell_enc]; rfl
theorem two_spell (r : Int) : spell (runesBytes [r] ++ runesBytes [r]).data.toList = [norm r, norm r] := by
  have e : runesBytes [r] ++ runesBytes [r] = runesBytes [r, r] := by
    apply bytes_ext
    simp only [ByteArray.data_append, Array.toList_append, runesBytes_data, List.flatMap_cons, List.flatMap_nil, List.append_nil]
  rw [e, runesBytes_data, spell_enc]; rfl

set_option maxHeartbeats 8000000 in
set_option maxRecDepth 100000 in
/-- Behind Compile. -/
theorem classes_any (lo hi r : Int) (neg : Bool) (w : World) :
    Calls Try.prog 6 #[.int .i32 lo, .int .i32 hi, .int .i32 r, .bool neg] w fun e w' => e = .returned (.bool true) ∧ Below w.heap.size w w' := by
  have HAL := Lib.hid (fun W => alive_any W)
  by_cases h0 : lo < 97
  · have t0 : decide (lo < 97) = true := by simpa using h0
    clear h0
    go_enter Try.func6, Try.ntmps6
    go_wp2_with fail
    refine (HAL.out _).mono ?_
    rintro e w1 ⟨rfl, b1⟩
    go_wp2
    go_ret
    exact ⟨rfl, b1⟩
  have t0 : decide (lo < 97) = false := by simpa using h0
  by_cases h1 : hi < lo
  · have t1 : decide (hi < lo) = true := by simpa using h1
    clear h0 h1
    go_enter Try.func6, Try.ntmps6
    go_wp2_with fail
    refine (HAL.out _).mono ?_
    rintro e w1 ⟨rfl, b1⟩
    go_wp2
    go_ret
    exact ⟨rfl, b1⟩
  have t1 : decide (hi < lo) = false := by simpa using h1
  by_cases h2 : 8192 < hi
  · have t2 : decide (8192 < hi) = true := by simpa using h2
    clear h0 h1 h2
    go_enter Try.func6, Try.ntmps6
    go_wp2_with fail
    refine (HAL.out _).mono ?_
    rintro e w1 ⟨rfl, b1⟩
    go_wp2
    go_ret
    exact ⟨rfl, b1⟩
  have t2 : decide (8192 < hi) = false := by simpa using h2
  have q1 : (lo == 93) = false := beq_eq_false_iff_ne.2 (by omega)
  have q2 : (hi == 93) = false := beq_eq_false_iff_ne.2 (by omega)
  have q3 : (lo == 92) = false := beq_eq_false_iff_ne.2 (by omega)
  have q4 : (hi == 92) = false := beq_eq_false_iff_ne.2 (by omega)
  have HCC := Lib.hid (fun W => cls_comp neg lo hi (norm r) (by omega) (by omega) (by omega) W)
  have HS1 := Lib.hid (fun W => spell_any (runesBytes [r]) W (by have := one_size r; omega))
  rw [one_spell] at HS1
  have z1 := one_size lo
  have z2 := one_size hi
  have z3 := one_size r
  obtain ⟨q, hq⟩ : ∃ q, norm r = q := ⟨_, rfl⟩
  have HQ := Lib.hid hq
  rw [hq] at HCC HS1
  clear h0 h1 h2 hq
  go_enter Try.func6, Try.ntmps6
  go_wp2_with fail
  refine (HAL.out _).mono ?_
  rintro e w1 ⟨rfl, b1⟩
  have HB1 := Lib.hid b1
  clear b1
  have c1 := conv_one lo w1
  have c2 := conv_one hi (w1.alloc (.cells #[.int .i32 lo] 21))
  rw [World.size_alloc] at c2
  cases neg with
  | true =>
    have HCL := Lib.hid (clsB_neg lo hi)
    obtain ⟨T, hat, hok, hc⟩ := HCC.out ((w1.alloc (.cells #[.int .i32 lo] 21)).alloc (.cells #[.int .i32 hi] 21))
    obtain ⟨V, hV⟩ : ∃ V, (decide (lo ≤ q ∧ q ≤ hi) != true) = V := ⟨_, rfl⟩
    rw [hV] at hat
    have HV := Lib.hid hV
    have HW1 := Lib.hid (fun bp W (hp : PatAt W bp (clsB true lo hi) T) => whole_any bp _ T (runesBytes [r]) W hp hok (by omega))
    have HW0 := Lib.hid (fun bp W (hp : PatAt W bp (clsB true lo hi) T) => whole_any bp _ T (⟨#[]⟩ : ByteArray) W hp hok (by show 0 ≤ _; omega))
    have HW2 := Lib.hid (fun bp W (hp : PatAt W bp (clsB true lo hi) T) => whole_any bp _ T (runesBytes [r] ++ runesBytes [r]) W hp hok (by rw [ByteArray.size_append]; omega))
    have HBG := Lib.hid (fun bp W (hp : PatAt W bp (clsB true lo hi) T) => begins_any bp _ T (runesBytes [r] ++ runesBytes [r]) W hp hok (by rw [ByteArray.size_append]; omega))
    rw [one_spell, HQ.out, hat.one] at HW1
    rw [show spell (⟨#[]⟩ : ByteArray).data.toList = [] from rfl, hat.none] at HW0
    rw [two_spell, HQ.out, hat.two] at HW2
    rw [two_spell, HQ.out, hat.beg] at HBG
    have HC := Lib.hid hc
    have HA0 := Lib.hid ((HB1.out.alloc HB1.out.size (.cells #[.int .i32 lo] 21)).alloc (by rw [World.size_alloc]; have := HB1.out.size; omega) (.cells #[.int .i32 hi] 21))
    clear hc hok hat hV
    go_wp2_with fail
    rw [HCL.out]
    refine HC.out.mono ?_
    rintro e w2 ⟨bp, rfl, hp2, b2⟩
    have HP2 := Lib.hid hp2
    have HB2 := Lib.hid (HA0.out.trans (b2.mono HA0.out.size))
    have c3 := conv_one r w2
    clear b2 hp2 c1 c2
    go_wp2_with fail
    refine (HS1.out _).mono ?_
    rintro e w4 ⟨hsp, b4⟩
    obtain ⟨oa, cap, rfl, hcap, hl⟩ := hsp.open
    rcases hl with ⟨_, hl⟩ | ⟨g, rfl, hg, hl⟩
    · cases hl
    have hcell := hl 0 q rfl
    have HP4 := Lib.hid ((HP2.out.below ((Below.refl _ _).alloc (Nat.le_refl _) _)).below b4)
    have HB4 := Lib.hid ((HB2.out.alloc HB2.out.size _).trans (b4.mono (by rw [World.size_alloc]; have := HB2.out.size; omega)))
    rw [show [q].length = 1 from rfl] at hcap ⊢
    clear hsp b4 hl c3
    by_cases k1 : lo ≤ q
    · have k2 : decide (lo ≤ q) = true := by simpa using k1
      by_cases k3 : q ≤ hi
      · have k4 : decide (q ≤ hi) = true := by simpa using k3
        have hVV : V = false := by rw [← HV.out, decide_eq_true (by omega)]; rfl
        subst hVV
        go_wp2_with fail
        refine (HW1.out bp w4 HP4.out).mono ?_
        rintro e w5 ⟨rfl, b5⟩
        have HP5 := Lib.hid (HP4.out.below b5)
        have HB5 := Lib.hid (HB4.out.trans (b5.mono HB4.out.size))
        clear b5
        go_wp2_with fail
        refine (HW0.out bp w5 HP5.out).mono ?_
        rintro e w6 ⟨rfl, b6⟩
        have HP6 := Lib.hid (HP5.out.below b6)
        have HB6 := Lib.hid (HB5.out.trans (b6.mono HB5.out.size))
        clear b6
        go_wp2_with fail
        refine (HW2.out bp w6 HP6.out).mono ?_
        rintro e w7 ⟨rfl, b7⟩
        have HP7 := Lib.hid (HP6.out.below b7)
        have HB7 := Lib.hid (HB6.out.trans (b7.mono HB6.out.size))
        clear b7
        go_wp2_with fail
        refine (HBG.out bp w7 HP7.out).mono ?_
        rintro e w8 ⟨rfl, b8⟩
        have HB8 := Lib.hid (HB7.out.trans (b8.mono HB7.out.size))
        clear b8
        go_wp2_with fail
        go_ret
        exact ⟨rfl, HB8.out⟩
      · have k4 : decide (q ≤ hi) = false := by simpa using k3
        have hVV : V = true := by rw [← HV.out, decide_eq_false (by omega)]; rfl
        subst hVV
        go_wp2_with fail
        refine (HW1.out bp w4 HP4.out).mono ?_
        rintro e w5 ⟨rfl, b5⟩
        have HP5 := Lib.hid (HP4.out.below b5)
        have HB5 := Lib.hid (HB4.out.trans (b5.mono HB4.out.size))
        clear b5
        go_wp2_with fail
        refine (HW0.out bp w5 HP5.out).mono ?_
        rintro e w6 ⟨rfl, b6⟩
        have HP6 := Lib.hid (HP5.out.below b6)
        have HB6 := Lib.hid (HB5.out.trans (b6.mono HB5.out.size))
        clear b6
        go_wp2_with fail
        refine (HW2.out bp w6 HP6.out).mono ?_
        rintro e w7 ⟨rfl, b7⟩
        have HP7 := Lib.hid (HP6.out.below b7)
        have HB7 := Lib.hid (HB6.out.trans (b7.mono HB6.out.size))
        clear b7
        go_wp2_with fail
        refine (HBG.out bp w7 HP7.out).mono ?_
        rintro e w8 ⟨rfl, b8⟩
        have HB8 := Lib.hid (HB7.out.trans (b8.mono HB7.out.size))
        clear b8
        go_wp2_with fail
        go_ret
        exact ⟨rfl, HB8.out⟩
    · have k2 : decide (lo ≤ q) = false := by simpa using k1
      have hVV : V = true := by rw [← HV.out, decide_eq_false (by omega)]; rfl
      subst hVV
      go_wp2_with fail
      refine (HW1.out bp w4 HP4.out).mono ?_
      rintro e w5 ⟨rfl, b5⟩
      have HP5 := Lib.hid (HP4.out.below b5)
      have HB5 := Lib.hid (HB4.out.trans (b5.mono HB4.out.size))
      clear b5
      go_wp2_with fail
      refine (HW0.out bp w5 HP5.out).mono ?_
      rintro e w6 ⟨rfl, b6⟩
      have HP6 := Lib.hid (HP5.out.below b6)
      have HB6 := Lib.hid (HB5.out.trans (b6.mono HB5.out.size))
      clear b6
      go_wp2_with fail
      refine (HW2.out bp w6 HP6.out).mono ?_
      rintro e w7 ⟨rfl, b7⟩
      have HP7 := Lib.hid (HP6.out.below b7)
      have HB7 := Lib.hid (HB6.out.trans (b7.mono HB6.out.size))
      clear b7
      go_wp2_with fail
      refine (HBG.out bp w7 HP7.out).mono ?_
      rintro e w8 ⟨rfl, b8⟩
      have HB8 := Lib.hid (HB7.out.trans (b8.mono HB7.out.size))
      clear b8
      go_wp2_with fail
      go_ret
      exact ⟨rfl, HB8.out⟩
  | false =>
    have HCL := Lib.hid (clsB_pos lo hi)
    obtain ⟨T, hat, hok, hc⟩ := HCC.out ((w1.alloc (.cells #[.int .i32 lo] 21)).alloc (.cells #[.int .i32 hi] 21))
    obtain ⟨V, hV⟩ : ∃ V, (decide (lo ≤ q ∧ q ≤ hi) != false) = V := ⟨_, rfl⟩
    rw [hV] at hat
    have HV := Lib.hid hV
    have HW1 := Lib.hid (fun bp W (hp : PatAt W bp (clsB false lo hi) T) => whole_any bp _ T (runesBytes [r]) W hp hok (by omega))
    have HW0 := Lib.hid (fun bp W (hp : PatAt W bp (clsB false lo hi) T) => whole_any bp _ T (⟨#[]⟩ : ByteArray) W hp hok (by show 0 ≤ _; omega))
    have HW2 := Lib.hid (fun bp W (hp : PatAt W bp (clsB false lo hi) T) => whole_any bp _ T (runesBytes [r] ++ runesBytes [r]) W hp hok (by rw [ByteArray.size_append]; omega))
    have HBG := Lib.hid (fun bp W (hp : PatAt W bp (clsB false lo hi) T) => begins_any bp _ T (runesBytes [r] ++ runesBytes [r]) W hp hok (by rw [ByteArray.size_append]; omega))
    rw [one_spell, HQ.out, hat.one] at HW1
    rw [show spell (⟨#[]⟩ : ByteArray).data.toList = [] from rfl, hat.none] at HW0
    rw [two_spell, HQ.out, hat.two] at HW2
    rw [two_spell, HQ.out, hat.beg] at HBG
    have HC := Lib.hid hc
    have HA0 := Lib.hid ((HB1.out.alloc HB1.out.size (.cells #[.int .i32 lo] 21)).alloc (by rw [World.size_alloc]; have := HB1.out.size; omega) (.cells #[.int .i32 hi] 21))
    clear hc hok hat hV
    go_wp2_with fail
    rw [HCL.out]
    refine HC.out.mono ?_
    rintro e w2 ⟨bp, rfl, hp2, b2⟩
    have HP2 := Lib.hid hp2
    have HB2 := Lib.hid (HA0.out.trans (b2.mono HA0.out.size))
    have c3 := conv_one r w2
    clear b2 hp2 c1 c2
    go_wp2_with fail
    refine (HS1.out _).mono ?_
    rintro e w4 ⟨hsp, b4⟩
    obtain ⟨oa, cap, rfl, hcap, hl⟩ := hsp.open
    rcases hl with ⟨_, hl⟩ | ⟨g, rfl, hg, hl⟩
    · cases hl
    have hcell := hl 0 q rfl
    have HP4 := Lib.hid ((HP2.out.below ((Below.refl _ _).alloc (Nat.le_refl _) _)).below b4)
    have HB4 := Lib.hid ((HB2.out.alloc HB2.out.size _).trans (b4.mono (by rw [World.size_alloc]; have := HB2.out.size; omega)))
    rw [show [q].length = 1 from rfl] at hcap ⊢
    clear hsp b4 hl c3
    by_cases k1 : lo ≤ q
    · have k2 : decide (lo ≤ q) = true := by simpa using k1
      by_cases k3 : q ≤ hi
      · have k4 : decide (q ≤ hi) = true := by simpa using k3
        have hVV : V = true := by rw [← HV.out, decide_eq_true (by omega)]; rfl
        subst hVV
        go_wp2_with fail
        refine (HW1.out bp w4 HP4.out).mono ?_
        rintro e w5 ⟨rfl, b5⟩
        have HP5 := Lib.hid (HP4.out.below b5)
        have HB5 := Lib.hid (HB4.out.trans (b5.mono HB4.out.size))
        clear b5
        go_wp2_with fail
        refine (HW0.out bp w5 HP5.out).mono ?_
        rintro e w6 ⟨rfl, b6⟩
        have HP6 := Lib.hid (HP5.out.below b6)
        have HB6 := Lib.hid (HB5.out.trans (b6.mono HB5.out.size))
        clear b6
        go_wp2_with fail
        refine (HW2.out bp w6 HP6.out).mono ?_
        rintro e w7 ⟨rfl, b7⟩
        have HP7 := Lib.hid (HP6.out.below b7)
        have HB7 := Lib.hid (HB6.out.trans (b7.mono HB6.out.size))
        clear b7
        go_wp2_with fail
        refine (HBG.out bp w7 HP7.out).mono ?_
        rintro e w8 ⟨rfl, b8⟩
        have HB8 := Lib.hid (HB7.out.trans (b8.mono HB7.out.size))
        clear b8
        go_wp2_with fail
        go_ret
        exact ⟨rfl, HB8.out⟩
      · have k4 : decide (q ≤ hi) = false := by simpa using k3
        have hVV : V = false := by rw [← HV.out, decide_eq_false (by omega)]; rfl
        subst hVV
        go_wp2_with fail
        refine (HW1.out bp w4 HP4.out).mono ?_
        rintro e w5 ⟨rfl, b5⟩
        have HP5 := Lib.hid (HP4.out.below b5)
        have HB5 := Lib.hid (HB4.out.trans (b5.mono HB4.out.size))
        clear b5
        go_wp2_with fail
        refine (HW0.out bp w5 HP5.out).mono ?_
        rintro e w6 ⟨rfl, b6⟩
        have HP6 := Lib.hid (HP5.out.below b6)
        have HB6 := Lib.hid (HB5.out.trans (b6.mono HB5.out.size))
        clear b6
        go_wp2_with fail
        refine (HW2.out bp w6 HP6.out).mono ?_
        rintro e w7 ⟨rfl, b7⟩
        have HP7 := Lib.hid (HP6.out.below b7)
        have HB7 := Lib.hid (HB6.out.trans (b7.mono HB6.out.size))
        clear b7
        go_wp2_with fail
        refine (HBG.out bp w7 HP7.out).mono ?_
        rintro e w8 ⟨rfl, b8⟩
        have HB8 := Lib.hid (HB7.out.trans (b8.mono HB7.out.size))
        clear b8
        go_wp2_with fail
        go_ret
        exact ⟨rfl, HB8.out⟩
    · have k2 : decide (lo ≤ q) = false := by simpa using k1
      have hVV : V = false := by rw [← HV.out, decide_eq_false (by omega)]; rfl
      subst hVV
      go_wp2_with fail
      refine (HW1.out bp w4 HP4.out).mono ?_
      rintro e w5 ⟨rfl, b5⟩
      have HP5 := Lib.hid (HP4.out.below b5)
      have HB5 := Lib.hid (HB4.out.trans (b5.mono HB4.out.size))
      clear b5
      go_wp2_with fail
      refine (HW0.out bp w5 HP5.out).mono ?_
      rintro e w6 ⟨rfl, b6⟩
      have HP6 := Lib.hid (HP5.out.below b6)
      have HB6 := Lib.hid (HB5.out.trans (b6.mono HB5.out.size))
      clear b6
      go_wp2_with fail
      refine (HW2.out bp w6 HP6.out).mono ?_
      rintro e w7 ⟨rfl, b7⟩
      have HP7 := Lib.hid (HP6.out.below b7)
      have HB7 := Lib.hid (HB6.out.trans (b7.mono HB6.out.size))
      clear b7
      go_wp2_with fail
      refine (HBG.out bp w7 HP7.out).mono ?_
      rintro e w8 ⟨rfl, b8⟩
      have HB8 := Lib.hid (HB7.out.trans (b8.mono HB7.out.size))
      clear b8
      go_wp2_with fail
      go_ret
      exact ⟨rfl, HB8.out⟩
end Go.Proofs.Ytfpdhmecomgbdaa
