/- The walk of the statement on signs of how often. -/
import Derived.Test.YtfpdhmecomgbdaaClasses
namespace Go.Proofs.Ytfpdhmecomgbdaa
open Go.RowKit

/-- A character below 128 ends what stands ahead of it. -/
theorem width_ascii (l : List UInt8) (hne : l ≠ []) (c : UInt8) (hc : c.toNat < 128) (u : List UInt8) : (Lib.decodeL (l ++ c :: u)).2 ≤ l.length := by
  have hl : 0 < l.length := List.length_pos_iff.2 hne
  have g : (l ++ c :: u).getD l.length 0 = c := by simp [List.getD]
  rw [Lib.decodeL_N]
  rcases Lib.decodeN_shape (l ++ c :: u).length ((l ++ c :: u).getD 0 0).toNat ((l ++ c :: u).getD 1 0).toNat ((l ++ c :: u).getD 2 0).toNat ((l ++ c :: u).getD 3 0).toNat with ⟨_, e⟩ | ⟨_, _, c3, _, e⟩ | ⟨_, _, c3, c4, _, _, e⟩ | ⟨_, _, c3, c4, c5, _, _, e⟩ | e
  all_goals rw [e]
  all_goals dsimp only
  · omega
  · by_cases h1 : l.length = 1
    · rw [h1] at g; rw [g] at c3; omega
    · omega
  · by_cases h1 : l.length = 1
    · rw [h1] at g; rw [g] at c3; omega
    · by_cases h2 : l.length = 2
      · rw [h2] at g; rw [g] at c4; omega
      · omega
  · by_cases h1 : l.length = 1
    · rw [h1] at g; rw [g] at c3; omega
    · by_cases h2 : l.length = 2
      · rw [h2] at g; rw [g] at c4; omega
      · by_cases h3 : l.length = 3
        · rw [h3] at g; rw [g] at c5; omega
        · omega
  · omega
theorem spell_ascii (c : UInt8) (hc : c.toNat < 128) (u l : List UInt8) : spell (l ++ c :: u) = spell l ++ spell (c :: u) := by
  induction l using sufs_induct with
  | h0 => rfl
  | h1 l hne ih =>
    have hd : Lib.decodeL (l ++ c :: u) = Lib.decodeL l := by
      have := decodeL_take (l ++ c :: u) l.length (by simp [hne]) (width_ascii l hne c hc u)
      rw [List.take_left] at this
      exact this.symm
    have hwl := Lib.decodeL_le l hne
    have hne2 : l ++ c :: u ≠ [] := by simp
    rw [spell_step (l ++ c :: u) hne2, hd, List.drop_append_of_le_length hwl, ih, spell_step l hne]
    unfold rune
    rw [hd]; rfl
/-- '(p)' and a sign. -/
def often (p : ByteArray) (q : UInt8) : ByteArray := (⟨#[40]⟩ : ByteArray) ++ p ++ (⟨#[41, q]⟩ : ByteArray)
theorem often_size (p : ByteArray) (q : UInt8) : (often p q).size = p.size + 3 := by
  unfold often
  rw [ByteArray.size_append, ByteArray.size_append]
  show 1 + p.size + 2 = _
  omega
theorem often_spell (p : ByteArray) (q : UInt8) (hq : q.toNat < 128) : spell (often p q).data.toList = 40 :: spell p.data.toList ++ [41, (q.toNat : Int)] := by
  have e : (often p q).data.toList = 40 :: (p.data.toList ++ 41 :: [q]) := by
    simp [often, ByteArray.data_append]
  rw [e, ascii_cons _ (by decide), spell_ascii _ (by decide), ascii_cons _ (by decide), ascii_cons _ hq]
  rfl
theorem often_comp {p : ByteArray} {x : Pt} (hr : readP (spell p.data.toList) = some x) (hp : p.size ≤ 20) (q : UInt8) (u v : Bool) (hq : (q = 42 ∧ u = true ∧ v = true) ∨ (q = 43 ∧ u = false ∧ v = true) ∨ (q = 63 ∧ u = true ∧ v = false)) :
    PatOk (layF (.choice [.chain [.times x u v]]) ⟨[], []⟩) ∧ ∀ W, Calls Try.prog 12 #[.string (often p q)] W (Comp W (often p q) (layF (.choice [.chain [.times x u v]]) ⟨[], []⟩)) := by
  obtain ⟨c, rfl, _, _⟩ := readP_open hr
  have hq128 : q.toNat < 128 := by rcases hq with ⟨rfl, _⟩ | ⟨rfl, _⟩ | ⟨rfl, _⟩ <;> decide
  have hsp := often_spell p q hq128
  have hsz := often_size p q
  have hl0 := spell_size p
  have hro := read_often hr (q.toNat : Int) u v (by
    rcases hq with ⟨rfl, h⟩ | ⟨rfl, h⟩ | ⟨rfl, h⟩
    · exact .inl ⟨by decide, h⟩
    · exact .inr (.inl ⟨by decide, h⟩)
    · exact .inr (.inr ⟨by decide, h⟩))
  rw [← hsp] at hro
  have hl : ¬ 40 < (spell (often p q).data.toList).length := by
    rw [hsp]; simp only [List.length_append, List.length_cons, List.length_nil]; omega
  exact ⟨readP_ok hro hl, fun W => compile_ok _ _ W (by omega) hl hro⟩
/-- What the four patterns say of a text. -/
structure AgainAt (rs : List Int) (E L P : Bool) (T5 T8 T10 T12 : Eg × Gr) : Prop where
  e5 : wholeF T5 [] = E
  l5 : wholeF T5 rs = L
  e8 : wholeF T8 [] = true
  l8 : wholeF T8 rs = (decide (rs = []) || P)
  e10 : wholeF T10 [] = E
  l10 : wholeF T10 rs = P
  e12 : wholeF T12 [] = true
  l12 : wholeF T12 rs = (decide (rs = []) || L)
  lp : L = true → P = true
  ll : L = true → wholeF T10 (rs ++ rs) = true
  zp : rs = [] → P = L
theorem again_at (x : Pt) (rs : List Int) : ∃ E L P, AgainAt rs E L P (layF x ⟨[], []⟩) (layF (.choice [.chain [.times x true true]]) ⟨[], []⟩) (layF (.choice [.chain [.times x false true]]) ⟨[], []⟩) (layF (.choice [.chain [.times x true false]]) ⟨[], []⟩) := by
  refine ⟨_, _, _, rfl, rfl, ?_, ?_, ?_, rfl, ?_, ?_, ?_, ?_, ?_⟩
  · rw [whole_lang, lang_star]; exact .inl rfl
  · rw [Bool.eq_iff_iff, whole_lang, lang_star, Bool.or_eq_true, decide_eq_true_iff, whole_lang, lang_plus]
  · rw [Bool.eq_iff_iff, whole_lang, lang_plus, plus_nil, whole_lang]
  · rw [whole_lang, lang_maybe]; exact .inl rfl
  · rw [Bool.eq_iff_iff, whole_lang, lang_maybe, Bool.or_eq_true, decide_eq_true_iff, whole_lang]
  · rw [whole_lang, whole_lang, lang_plus]; exact .one
  · rw [whole_lang, whole_lang, lang_plus]; intro h; exact .more h (.one h)
  · rintro rfl; rw [Bool.eq_iff_iff, whole_lang, whole_lang, lang_plus, plus_nil]
theorem empty_bytes (b : ByteArray) (rs : List Int) (h : spell b.data.toList = rs) : (rs = [] ↔ b.size = 0) := by
  rw [Lib.size_eq, ← h]
  constructor
  · intro h0
    cases hb : b.data.toList with
    | nil => rfl
    | cons a l => rw [hb, spell_step _ (by simp)] at h0; cases h0
  · intro h0
    rw [List.eq_nil_of_length_eq_zero h0]; rfl

set_option maxHeartbeats 16000000 in
set_option maxRecDepth 100000 in
theorem again_any (a b : ByteArray) (w : World) :
    Calls Try.prog 5 #[.string a, .string b] w fun e w' => e = .returned (.bool true) ∧ Below w.heap.size w w' := by
  have HAL := Lib.hid (fun W => alive_any W)
  by_cases h1 : 20 < a.size
  · have i1 : (20 : Int) < a.size := by omega
    have t1 : decide ((20 : Int) < a.size) = true := by simpa using i1
    clear h1
    go_enter Try.func5, Try.ntmps5
    go_wp2_with fail
    refine (HAL.out _).mono ?_
    rintro e w1 ⟨rfl, b1⟩
    go_wp2
    go_ret
    exact ⟨rfl, b1⟩
  have i1 : (a.size : Int) ≤ 20 := by omega
  have t1 : decide ((20 : Int) < a.size) = false := by simpa using i1
  by_cases h2 : 30 < b.size
  · have i2 : (30 : Int) < b.size := by omega
    have t2 : decide ((30 : Int) < b.size) = true := by simpa using i2
    clear h1 h2
    go_enter Try.func5, Try.ntmps5
    go_wp2_with fail
    refine (HAL.out _).mono ?_
    rintro e w1 ⟨rfl, b1⟩
    go_wp2
    go_ret
    exact ⟨rfl, b1⟩
  have i2 : (b.size : Int) ≤ 30 := by omega
  have t2 : decide ((30 : Int) < b.size) = false := by simpa using i2
  have has : a.size ≤ 20 := by omega
  have hbs : b.size ≤ 30 := by omega
  clear h1 h2
  have HCM := Lib.hid (fun W => comp_cases2 a W (by omega))
  have HSB := Lib.hid (fun W => spell_any b W (by omega))
  have hBl := spell_size b
  have hokb := spell_ok b.data.toList
  obtain ⟨rs, hrs⟩ : ∃ rs, spell b.data.toList = rs := ⟨_, rfl⟩
  rw [hrs] at HSB hBl hokb
  have HRS := Lib.hid hrs
  have HEM := Lib.hid (empty_bytes b rs hrs)
  have HOKB := Lib.hid hokb
  obtain ⟨K, hK⟩ : ∃ K, rs.length = K := ⟨_, rfl⟩
  have HK := Lib.hid hK
  rw [hK] at hBl
  have hz7 := bytes_size rs
  rw [hK] at hz7
  clear hrs hokb hK
  go_enter Try.func5, Try.ntmps5
  go_wp2_with fail
  refine (HAL.out _).mono ?_
  rintro e w1 ⟨rfl, b1⟩
  have HB1 := Lib.hid b1
  clear b1
  rcases HCM.out w1 with hc | hc | ⟨x, hrx, hok, hc⟩
  · have HC := Lib.hid hc
    clear hc
    go_wp2_with fail
    refine HC.out.mono ?_
    rintro e w2 ⟨rfl, b2⟩
    have HB2 := Lib.hid (HB1.out.trans (b2.mono HB1.out.size))
    clear b2
    go_wp2
    go_ret
    exact ⟨rfl, HB2.out⟩
  · have HC := Lib.hid hc
    clear hc
    go_wp2_with fail
    refine HC.out.mono ?_
    rintro e w2 ⟨rfl, b2⟩
    have HB2 := Lib.hid (HB1.out.trans (b2.mono HB1.out.size))
    clear b2
    go_wp2
    go_ret
    exact ⟨rfl, HB2.out⟩
  obtain ⟨ok8, hc8⟩ := often_comp hrx has 42 true true (.inl ⟨rfl, rfl, rfl⟩)
  obtain ⟨ok10, hc10⟩ := often_comp hrx has 43 false true (.inr (.inl ⟨rfl, rfl, rfl⟩))
  obtain ⟨ok12, hc12⟩ := often_comp hrx has 63 true false (.inr (.inr ⟨rfl, rfl, rfl⟩))
  obtain ⟨E, L, P, hat⟩ := again_at x rs
  obtain ⟨T5, hT5⟩ : ∃ T, layF x ⟨[], []⟩ = T := ⟨_, rfl⟩
  obtain ⟨T8, hT8⟩ : ∃ T, layF (.choice [.chain [.times x true true]]) ⟨[], []⟩ = T := ⟨_, rfl⟩
  obtain ⟨T10, hT10⟩ : ∃ T, layF (.choice [.chain [.times x false true]]) ⟨[], []⟩ = T := ⟨_, rfl⟩
  obtain ⟨T12, hT12⟩ : ∃ T, layF (.choice [.chain [.times x true false]]) ⟨[], []⟩ = T := ⟨_, rfl⟩
  rw [hT5] at hok hc hat
  rw [hT8] at ok8 hc8 hat
  rw [hT10] at ok10 hc10 hat
  rw [hT12] at ok12 hc12 hat
  have hE : spell (⟨#[]⟩ : ByteArray).data.toList = [] := rfl
  have hE2 : (⟨#[]⟩ : ByteArray).size ≤ 1099511627776 := by show 0 ≤ _; omega
  have hBB : spell (runesBytes rs ++ runesBytes rs).data.toList = rs ++ rs := by
    have e : runesBytes rs ++ runesBytes rs = runesBytes (rs ++ rs) := by
      apply bytes_ext
      simp only [ByteArray.data_append, Array.toList_append, runesBytes_data, List.flatMap_append]
    rw [e]
    exact spell_bytes fun r hr => by rcases List.mem_append.1 hr with h | h <;> exact HOKB.out r h
  have hBB2 : (runesBytes rs ++ runesBytes rs).size ≤ 1099511627776 := by rw [ByteArray.size_append]; omega
  have HW5e := Lib.hid (fun bp W (hp : PatAt W bp a T5) => whole_any bp _ T5 (⟨#[]⟩ : ByteArray) W hp hok hE2)
  have HW5b := Lib.hid (fun bp W (hp : PatAt W bp a T5) => whole_any bp _ T5 b W hp hok (by omega))
  rw [hE, hat.e5] at HW5e
  rw [HRS.out, hat.l5] at HW5b
  have HW8e := Lib.hid (fun bp W (hp : PatAt W bp (often a 42) T8) => whole_any bp _ T8 (⟨#[]⟩ : ByteArray) W hp ok8 hE2)
  have HW8b := Lib.hid (fun bp W (hp : PatAt W bp (often a 42) T8) => whole_any bp _ T8 b W hp ok8 (by omega))
  rw [hE, hat.e8] at HW8e
  rw [HRS.out, hat.l8] at HW8b
  have HW10e := Lib.hid (fun bp W (hp : PatAt W bp (often a 43) T10) => whole_any bp _ T10 (⟨#[]⟩ : ByteArray) W hp ok10 hE2)
  have HW10b := Lib.hid (fun bp W (hp : PatAt W bp (often a 43) T10) => whole_any bp _ T10 b W hp ok10 (by omega))
  rw [hE, hat.e10] at HW10e
  rw [HRS.out, hat.l10] at HW10b
  have HW12e := Lib.hid (fun bp W (hp : PatAt W bp (often a 63) T12) => whole_any bp _ T12 (⟨#[]⟩ : ByteArray) W hp ok12 hE2)
  have HW12b := Lib.hid (fun bp W (hp : PatAt W bp (often a 63) T12) => whole_any bp _ T12 b W hp ok12 (by omega))
  rw [hE, hat.e12] at HW12e
  rw [HRS.out, hat.l12] at HW12b
  have HWbb := Lib.hid (fun bp W (hp : PatAt W bp (often a 43) T10) => whole_any bp _ T10 (runesBytes rs ++ runesBytes rs) W hp ok10 hBB2)
  rw [hBB] at HWbb
  have HLP := Lib.hid (And.intro hat.lp (And.intro hat.ll hat.zp))
  have HC := Lib.hid hc
  have HC8 := Lib.hid hc8
  have HC10 := Lib.hid hc10
  have HC12 := Lib.hid hc12
  have HF8 := Lib.hid (show (⟨#[40]⟩ : ByteArray) ++ a ++ (⟨#[41, 42]⟩ : ByteArray) = often a 42 from rfl)
  have HF10 := Lib.hid (show (⟨#[40]⟩ : ByteArray) ++ a ++ (⟨#[41, 43]⟩ : ByteArray) = often a 43 from rfl)
  have HF12 := Lib.hid (show (⟨#[40]⟩ : ByteArray) ++ a ++ (⟨#[41, 63]⟩ : ByteArray) = often a 63 from rfl)
  clear hc hc8 hc10 hc12 hat hok ok8 ok10 ok12 hT5 hT8 hT10 hT12 hrx hBB hBB2 hE hE2
  go_wp2_with fail
  refine HC.out.mono ?_
  rintro e w2 ⟨b5, rfl, hp5, b2⟩
  have HB2 := Lib.hid (HB1.out.trans (b2.mono HB1.out.size))
  have HP2 := Lib.hid hp5
  clear b2 hp5
  go_wp2_with fail
  refine (HSB.out _).mono ?_
  rintro e w3 ⟨hsp, b3⟩
  obtain ⟨oa, cap, rfl, hcap, hl⟩ := hsp.open
  have hcv := conv_all (show Lies oa rs w3 from hl) HK.out cap
  have HB3 := Lib.hid (HB2.out.trans (b3.mono HB2.out.size))
  have HP3 := Lib.hid (HP2.out.below b3)
  rw [HK.out] at hcap ⊢
  clear b3 hl hsp
  go_wp2_with fail
  rw [HF8.out]
  refine (HC8.out _).mono ?_
  rintro e w4 ⟨b8, rfl, hp8, bw⟩
  have HB4 := Lib.hid (HB3.out.trans (bw.mono HB3.out.size))
  have HP4 := Lib.hid (And.intro (HP3.out.below bw) hp8)
  clear bw hp8 hcv
  go_wp2_with fail
  rw [HF10.out]
  refine (HC10.out _).mono ?_
  rintro e w5 ⟨b10, rfl, hp10, bw⟩
  have HB5 := Lib.hid (HB4.out.trans (bw.mono HB4.out.size))
  have HP5 := Lib.hid (And.intro (HP4.out.1.below bw) (And.intro (HP4.out.2.below bw) hp10))
  clear bw hp10
  go_wp2_with fail
  rw [HF12.out]
  refine (HC12.out _).mono ?_
  rintro e w6 ⟨b12, rfl, hp12, bw⟩
  have H6 := Lib.hid (And.intro (HB5.out.trans (bw.mono HB5.out.size)) (And.intro (HP5.out.1.below bw) (And.intro (HP5.out.2.1.below bw) (And.intro (HP5.out.2.2.below bw) hp12))))
  clear bw hp12
  by_cases hz : b.size = 0
  · have hr0 : rs = [] := HEM.out.2 hz
    have e1 : P = L := HLP.out.2.2 hr0
    have d1 : decide (rs = []) = true := decide_eq_true hr0
    have k1 : b.toList.isEmpty = true := by rw [ByteArray.toList_eq]; rw [Lib.size_eq] at hz; rw [List.isEmpty_iff]; exact List.eq_nil_of_length_eq_zero hz
    have k2 : (b.toList == []) = true := by rw [List.isEmpty_iff] at k1; rw [k1]; rfl
    subst e1
    rw [d1, Bool.true_or] at HW8b HW12b
    clear hz hr0 d1
    cases P with
    | true =>
      rw [HLP.out.2.1 rfl] at HWbb
      go_wp2_with fail
      refine (HW8e.out b8 w6 H6.out.2.2.1).mono ?_
      rintro e w7 ⟨rfl, bw⟩
      have H7 := Lib.hid (And.intro (H6.out.1.trans (bw.mono H6.out.1.size)) (And.intro (H6.out.2.1.below bw) (And.intro (H6.out.2.2.1.below bw) (And.intro (H6.out.2.2.2.1.below bw) (H6.out.2.2.2.2.below bw)))))
      clear bw H6
      go_wp2_with fail
      refine (HW12e.out b12 w7 H7.out.2.2.2.2).mono ?_
      rintro e w8 ⟨rfl, bw⟩
      have H8 := Lib.hid (And.intro (H7.out.1.trans (bw.mono H7.out.1.size)) (And.intro (H7.out.2.1.below bw) (And.intro (H7.out.2.2.1.below bw) (And.intro (H7.out.2.2.2.1.below bw) (H7.out.2.2.2.2.below bw)))))
      clear bw H7
      go_wp2_with fail
      refine (HW10e.out b10 w8 H8.out.2.2.2.1).mono ?_
      rintro e w9 ⟨rfl, bw⟩
      have H9 := Lib.hid (And.intro (H8.out.1.trans (bw.mono H8.out.1.size)) (And.intro (H8.out.2.1.below bw) (And.intro (H8.out.2.2.1.below bw) (And.intro (H8.out.2.2.2.1.below bw) (H8.out.2.2.2.2.below bw)))))
      clear bw H8
      go_wp2_with fail
      refine (HW5e.out b5 w9 H9.out.2.1).mono ?_
      rintro e w10 ⟨rfl, bw⟩
      have H10 := Lib.hid (And.intro (H9.out.1.trans (bw.mono H9.out.1.size)) (And.intro (H9.out.2.1.below bw) (And.intro (H9.out.2.2.1.below bw) (And.intro (H9.out.2.2.2.1.below bw) (H9.out.2.2.2.2.below bw)))))
      clear bw H9
      go_wp2_with fail
      refine (HW12b.out b12 w10 H10.out.2.2.2.2).mono ?_
      rintro e w11 ⟨rfl, bw⟩
      have H11 := Lib.hid (And.intro (H10.out.1.trans (bw.mono H10.out.1.size)) (And.intro (H10.out.2.1.below bw) (And.intro (H10.out.2.2.1.below bw) (And.intro (H10.out.2.2.2.1.below bw) (H10.out.2.2.2.2.below bw)))))
      clear bw H10
      go_wp2_with fail
      refine (HW5b.out b5 w11 H11.out.2.1).mono ?_
      rintro e w12 ⟨rfl, bw⟩
      have H12 := Lib.hid (And.intro (H11.out.1.trans (bw.mono H11.out.1.size)) (And.intro (H11.out.2.1.below bw) (And.intro (H11.out.2.2.1.below bw) (And.intro (H11.out.2.2.2.1.below bw) (H11.out.2.2.2.2.below bw)))))
      clear bw H11
      go_wp2_with fail
      refine (HW10b.out b10 w12 H12.out.2.2.2.1).mono ?_
      rintro e w13 ⟨rfl, bw⟩
      have H13 := Lib.hid (And.intro (H12.out.1.trans (bw.mono H12.out.1.size)) (And.intro (H12.out.2.1.below bw) (And.intro (H12.out.2.2.1.below bw) (And.intro (H12.out.2.2.2.1.below bw) (H12.out.2.2.2.2.below bw)))))
      clear bw H12
      go_wp2_with fail
      refine (HW10b.out b10 w13 H13.out.2.2.2.1).mono ?_
      rintro e w14 ⟨rfl, bw⟩
      have H14 := Lib.hid (And.intro (H13.out.1.trans (bw.mono H13.out.1.size)) (And.intro (H13.out.2.1.below bw) (And.intro (H13.out.2.2.1.below bw) (And.intro (H13.out.2.2.2.1.below bw) (H13.out.2.2.2.2.below bw)))))
      clear bw H13
      go_wp2_with fail
      refine (HW8b.out b8 w14 H14.out.2.2.1).mono ?_
      rintro e w15 ⟨rfl, bw⟩
      have H15 := Lib.hid (And.intro (H14.out.1.trans (bw.mono H14.out.1.size)) (And.intro (H14.out.2.1.below bw) (And.intro (H14.out.2.2.1.below bw) (And.intro (H14.out.2.2.2.1.below bw) (H14.out.2.2.2.2.below bw)))))
      clear bw H14
      go_wp2_with fail
      refine (HW5b.out b5 w15 H15.out.2.1).mono ?_
      rintro e w16 ⟨rfl, bw⟩
      have H16 := Lib.hid (And.intro (H15.out.1.trans (bw.mono H15.out.1.size)) (And.intro (H15.out.2.1.below bw) (And.intro (H15.out.2.2.1.below bw) (And.intro (H15.out.2.2.2.1.below bw) (H15.out.2.2.2.2.below bw)))))
      clear bw H15
      go_wp2_with fail
      refine (HWbb.out b10 w16 H16.out.2.2.2.1).mono ?_
      rintro e w17 ⟨rfl, bw⟩
      have H17 := Lib.hid (And.intro (H16.out.1.trans (bw.mono H16.out.1.size)) (And.intro (H16.out.2.1.below bw) (And.intro (H16.out.2.2.1.below bw) (And.intro (H16.out.2.2.2.1.below bw) (H16.out.2.2.2.2.below bw)))))
      clear bw H16
      go_wp2_with fail
      go_ret
      exact ⟨rfl, H17.out.1⟩
    | false =>
      go_wp2_with fail
      refine (HW8e.out b8 w6 H6.out.2.2.1).mono ?_
      rintro e w7 ⟨rfl, bw⟩
      have H7 := Lib.hid (And.intro (H6.out.1.trans (bw.mono H6.out.1.size)) (And.intro (H6.out.2.1.below bw) (And.intro (H6.out.2.2.1.below bw) (And.intro (H6.out.2.2.2.1.below bw) (H6.out.2.2.2.2.below bw)))))
      clear bw H6
      go_wp2_with fail
      refine (HW12e.out b12 w7 H7.out.2.2.2.2).mono ?_
      rintro e w8 ⟨rfl, bw⟩
      have H8 := Lib.hid (And.intro (H7.out.1.trans (bw.mono H7.out.1.size)) (And.intro (H7.out.2.1.below bw) (And.intro (H7.out.2.2.1.below bw) (And.intro (H7.out.2.2.2.1.below bw) (H7.out.2.2.2.2.below bw)))))
      clear bw H7
      go_wp2_with fail
      refine (HW10e.out b10 w8 H8.out.2.2.2.1).mono ?_
      rintro e w9 ⟨rfl, bw⟩
      have H9 := Lib.hid (And.intro (H8.out.1.trans (bw.mono H8.out.1.size)) (And.intro (H8.out.2.1.below bw) (And.intro (H8.out.2.2.1.below bw) (And.intro (H8.out.2.2.2.1.below bw) (H8.out.2.2.2.2.below bw)))))
      clear bw H8
      go_wp2_with fail
      refine (HW5e.out b5 w9 H9.out.2.1).mono ?_
      rintro e w10 ⟨rfl, bw⟩
      have H10 := Lib.hid (And.intro (H9.out.1.trans (bw.mono H9.out.1.size)) (And.intro (H9.out.2.1.below bw) (And.intro (H9.out.2.2.1.below bw) (And.intro (H9.out.2.2.2.1.below bw) (H9.out.2.2.2.2.below bw)))))
      clear bw H9
      go_wp2_with fail
      refine (HW12b.out b12 w10 H10.out.2.2.2.2).mono ?_
      rintro e w11 ⟨rfl, bw⟩
      have H11 := Lib.hid (And.intro (H10.out.1.trans (bw.mono H10.out.1.size)) (And.intro (H10.out.2.1.below bw) (And.intro (H10.out.2.2.1.below bw) (And.intro (H10.out.2.2.2.1.below bw) (H10.out.2.2.2.2.below bw)))))
      clear bw H10
      go_wp2_with fail
      refine (HW5b.out b5 w11 H11.out.2.1).mono ?_
      rintro e w12 ⟨rfl, bw⟩
      have H12 := Lib.hid (And.intro (H11.out.1.trans (bw.mono H11.out.1.size)) (And.intro (H11.out.2.1.below bw) (And.intro (H11.out.2.2.1.below bw) (And.intro (H11.out.2.2.2.1.below bw) (H11.out.2.2.2.2.below bw)))))
      clear bw H11
      go_wp2_with fail
      refine (HW10b.out b10 w12 H12.out.2.2.2.1).mono ?_
      rintro e w13 ⟨rfl, bw⟩
      have H13 := Lib.hid (And.intro (H12.out.1.trans (bw.mono H12.out.1.size)) (And.intro (H12.out.2.1.below bw) (And.intro (H12.out.2.2.1.below bw) (And.intro (H12.out.2.2.2.1.below bw) (H12.out.2.2.2.2.below bw)))))
      clear bw H12
      go_wp2_with fail
      refine (HW5b.out b5 w13 H13.out.2.1).mono ?_
      rintro e w14 ⟨rfl, bw⟩
      have H14 := Lib.hid (And.intro (H13.out.1.trans (bw.mono H13.out.1.size)) (And.intro (H13.out.2.1.below bw) (And.intro (H13.out.2.2.1.below bw) (And.intro (H13.out.2.2.2.1.below bw) (H13.out.2.2.2.2.below bw)))))
      clear bw H13
      go_wp2_with fail
      go_ret
      exact ⟨rfl, H14.out.1⟩
  · have hr0 : ¬ rs = [] := fun h => hz (HEM.out.1 h)
    have d1 : decide (rs = []) = false := decide_eq_false hr0
    have k0 : ¬ b.toList = [] := fun h => hz (by rw [Lib.size_eq, ← ByteArray.toList_eq, h]; rfl)
    have k1 : b.toList.isEmpty = false := by rw [Bool.eq_false_iff, ne_eq, List.isEmpty_iff]; exact k0
    have k2 : (b.toList == []) = false := beq_eq_false_iff_ne.2 k0
    rw [d1, Bool.false_or] at HW8b HW12b
    clear hz hr0 d1 k0
    cases L with
    | true =>
      rw [HLP.out.2.1 rfl] at HWbb
      obtain rfl : P = true := HLP.out.1 rfl
      go_wp2_with fail
      refine (HW8e.out b8 w6 H6.out.2.2.1).mono ?_
      rintro e w7 ⟨rfl, bw⟩
      have H7 := Lib.hid (And.intro (H6.out.1.trans (bw.mono H6.out.1.size)) (And.intro (H6.out.2.1.below bw) (And.intro (H6.out.2.2.1.below bw) (And.intro (H6.out.2.2.2.1.below bw) (H6.out.2.2.2.2.below bw)))))
      clear bw H6
      go_wp2_with fail
      refine (HW12e.out b12 w7 H7.out.2.2.2.2).mono ?_
      rintro e w8 ⟨rfl, bw⟩
      have H8 := Lib.hid (And.intro (H7.out.1.trans (bw.mono H7.out.1.size)) (And.intro (H7.out.2.1.below bw) (And.intro (H7.out.2.2.1.below bw) (And.intro (H7.out.2.2.2.1.below bw) (H7.out.2.2.2.2.below bw)))))
      clear bw H7
      go_wp2_with fail
      refine (HW10e.out b10 w8 H8.out.2.2.2.1).mono ?_
      rintro e w9 ⟨rfl, bw⟩
      have H9 := Lib.hid (And.intro (H8.out.1.trans (bw.mono H8.out.1.size)) (And.intro (H8.out.2.1.below bw) (And.intro (H8.out.2.2.1.below bw) (And.intro (H8.out.2.2.2.1.below bw) (H8.out.2.2.2.2.below bw)))))
      clear bw H8
      go_wp2_with fail
      refine (HW5e.out b5 w9 H9.out.2.1).mono ?_
      rintro e w10 ⟨rfl, bw⟩
      have H10 := Lib.hid (And.intro (H9.out.1.trans (bw.mono H9.out.1.size)) (And.intro (H9.out.2.1.below bw) (And.intro (H9.out.2.2.1.below bw) (And.intro (H9.out.2.2.2.1.below bw) (H9.out.2.2.2.2.below bw)))))
      clear bw H9
      go_wp2_with fail
      refine (HW12b.out b12 w10 H10.out.2.2.2.2).mono ?_
      rintro e w11 ⟨rfl, bw⟩
      have H11 := Lib.hid (And.intro (H10.out.1.trans (bw.mono H10.out.1.size)) (And.intro (H10.out.2.1.below bw) (And.intro (H10.out.2.2.1.below bw) (And.intro (H10.out.2.2.2.1.below bw) (H10.out.2.2.2.2.below bw)))))
      clear bw H10
      go_wp2_with fail
      refine (HW5b.out b5 w11 H11.out.2.1).mono ?_
      rintro e w12 ⟨rfl, bw⟩
      have H12 := Lib.hid (And.intro (H11.out.1.trans (bw.mono H11.out.1.size)) (And.intro (H11.out.2.1.below bw) (And.intro (H11.out.2.2.1.below bw) (And.intro (H11.out.2.2.2.1.below bw) (H11.out.2.2.2.2.below bw)))))
      clear bw H11
      go_wp2_with fail
      refine (HW5b.out b5 w12 H12.out.2.1).mono ?_
      rintro e w13 ⟨rfl, bw⟩
      have H13 := Lib.hid (And.intro (H12.out.1.trans (bw.mono H12.out.1.size)) (And.intro (H12.out.2.1.below bw) (And.intro (H12.out.2.2.1.below bw) (And.intro (H12.out.2.2.2.1.below bw) (H12.out.2.2.2.2.below bw)))))
      clear bw H12
      go_wp2_with fail
      refine (HW10b.out b10 w13 H13.out.2.2.2.1).mono ?_
      rintro e w14 ⟨rfl, bw⟩
      have H14 := Lib.hid (And.intro (H13.out.1.trans (bw.mono H13.out.1.size)) (And.intro (H13.out.2.1.below bw) (And.intro (H13.out.2.2.1.below bw) (And.intro (H13.out.2.2.2.1.below bw) (H13.out.2.2.2.2.below bw)))))
      clear bw H13
      go_wp2_with fail
      refine (HW10b.out b10 w14 H14.out.2.2.2.1).mono ?_
      rintro e w15 ⟨rfl, bw⟩
      have H15 := Lib.hid (And.intro (H14.out.1.trans (bw.mono H14.out.1.size)) (And.intro (H14.out.2.1.below bw) (And.intro (H14.out.2.2.1.below bw) (And.intro (H14.out.2.2.2.1.below bw) (H14.out.2.2.2.2.below bw)))))
      clear bw H14
      go_wp2_with fail
      refine (HW8b.out b8 w15 H15.out.2.2.1).mono ?_
      rintro e w16 ⟨rfl, bw⟩
      have H16 := Lib.hid (And.intro (H15.out.1.trans (bw.mono H15.out.1.size)) (And.intro (H15.out.2.1.below bw) (And.intro (H15.out.2.2.1.below bw) (And.intro (H15.out.2.2.2.1.below bw) (H15.out.2.2.2.2.below bw)))))
      clear bw H15
      go_wp2_with fail
      refine (HW5b.out b5 w16 H16.out.2.1).mono ?_
      rintro e w17 ⟨rfl, bw⟩
      have H17 := Lib.hid (And.intro (H16.out.1.trans (bw.mono H16.out.1.size)) (And.intro (H16.out.2.1.below bw) (And.intro (H16.out.2.2.1.below bw) (And.intro (H16.out.2.2.2.1.below bw) (H16.out.2.2.2.2.below bw)))))
      clear bw H16
      go_wp2_with fail
      refine (HWbb.out b10 w17 H17.out.2.2.2.1).mono ?_
      rintro e w18 ⟨rfl, bw⟩
      have H18 := Lib.hid (And.intro (H17.out.1.trans (bw.mono H17.out.1.size)) (And.intro (H17.out.2.1.below bw) (And.intro (H17.out.2.2.1.below bw) (And.intro (H17.out.2.2.2.1.below bw) (H17.out.2.2.2.2.below bw)))))
      clear bw H17
      go_wp2_with fail
      go_ret
      exact ⟨rfl, H18.out.1⟩
    | false =>
      cases P with
      | true =>
        go_wp2_with fail
        refine (HW8e.out b8 w6 H6.out.2.2.1).mono ?_
        rintro e w7 ⟨rfl, bw⟩
        have H7 := Lib.hid (And.intro (H6.out.1.trans (bw.mono H6.out.1.size)) (And.intro (H6.out.2.1.below bw) (And.intro (H6.out.2.2.1.below bw) (And.intro (H6.out.2.2.2.1.below bw) (H6.out.2.2.2.2.below bw)))))
        clear bw H6
        go_wp2_with fail
        refine (HW12e.out b12 w7 H7.out.2.2.2.2).mono ?_
        rintro e w8 ⟨rfl, bw⟩
        have H8 := Lib.hid (And.intro (H7.out.1.trans (bw.mono H7.out.1.size)) (And.intro (H7.out.2.1.below bw) (And.intro (H7.out.2.2.1.below bw) (And.intro (H7.out.2.2.2.1.below bw) (H7.out.2.2.2.2.below bw)))))
        clear bw H7
        go_wp2_with fail
        refine (HW10e.out b10 w8 H8.out.2.2.2.1).mono ?_
        rintro e w9 ⟨rfl, bw⟩
        have H9 := Lib.hid (And.intro (H8.out.1.trans (bw.mono H8.out.1.size)) (And.intro (H8.out.2.1.below bw) (And.intro (H8.out.2.2.1.below bw) (And.intro (H8.out.2.2.2.1.below bw) (H8.out.2.2.2.2.below bw)))))
        clear bw H8
        go_wp2_with fail
        refine (HW5e.out b5 w9 H9.out.2.1).mono ?_
        rintro e w10 ⟨rfl, bw⟩
        have H10 := Lib.hid (And.intro (H9.out.1.trans (bw.mono H9.out.1.size)) (And.intro (H9.out.2.1.below bw) (And.intro (H9.out.2.2.1.below bw) (And.intro (H9.out.2.2.2.1.below bw) (H9.out.2.2.2.2.below bw)))))
        clear bw H9
        go_wp2_with fail
        refine (HW12b.out b12 w10 H10.out.2.2.2.2).mono ?_
        rintro e w11 ⟨rfl, bw⟩
        have H11 := Lib.hid (And.intro (H10.out.1.trans (bw.mono H10.out.1.size)) (And.intro (H10.out.2.1.below bw) (And.intro (H10.out.2.2.1.below bw) (And.intro (H10.out.2.2.2.1.below bw) (H10.out.2.2.2.2.below bw)))))
        clear bw H10
        go_wp2_with fail
        refine (HW5b.out b5 w11 H11.out.2.1).mono ?_
        rintro e w12 ⟨rfl, bw⟩
        have H12 := Lib.hid (And.intro (H11.out.1.trans (bw.mono H11.out.1.size)) (And.intro (H11.out.2.1.below bw) (And.intro (H11.out.2.2.1.below bw) (And.intro (H11.out.2.2.2.1.below bw) (H11.out.2.2.2.2.below bw)))))
        clear bw H11
        go_wp2_with fail
        refine (HW5b.out b5 w12 H12.out.2.1).mono ?_
        rintro e w13 ⟨rfl, bw⟩
        have H13 := Lib.hid (And.intro (H12.out.1.trans (bw.mono H12.out.1.size)) (And.intro (H12.out.2.1.below bw) (And.intro (H12.out.2.2.1.below bw) (And.intro (H12.out.2.2.2.1.below bw) (H12.out.2.2.2.2.below bw)))))
        clear bw H12
        go_wp2_with fail
        refine (HW10b.out b10 w13 H13.out.2.2.2.1).mono ?_
        rintro e w14 ⟨rfl, bw⟩
        have H14 := Lib.hid (And.intro (H13.out.1.trans (bw.mono H13.out.1.size)) (And.intro (H13.out.2.1.below bw) (And.intro (H13.out.2.2.1.below bw) (And.intro (H13.out.2.2.2.1.below bw) (H13.out.2.2.2.2.below bw)))))
        clear bw H13
        go_wp2_with fail
        refine (HW8b.out b8 w14 H14.out.2.2.1).mono ?_
        rintro e w15 ⟨rfl, bw⟩
        have H15 := Lib.hid (And.intro (H14.out.1.trans (bw.mono H14.out.1.size)) (And.intro (H14.out.2.1.below bw) (And.intro (H14.out.2.2.1.below bw) (And.intro (H14.out.2.2.2.1.below bw) (H14.out.2.2.2.2.below bw)))))
        clear bw H14
        go_wp2_with fail
        refine (HW5b.out b5 w15 H15.out.2.1).mono ?_
        rintro e w16 ⟨rfl, bw⟩
        have H16 := Lib.hid (And.intro (H15.out.1.trans (bw.mono H15.out.1.size)) (And.intro (H15.out.2.1.below bw) (And.intro (H15.out.2.2.1.below bw) (And.intro (H15.out.2.2.2.1.below bw) (H15.out.2.2.2.2.below bw)))))
        clear bw H15
        go_wp2_with fail
        go_ret
        exact ⟨rfl, H16.out.1⟩
      | false =>
        go_wp2_with fail
        refine (HW8e.out b8 w6 H6.out.2.2.1).mono ?_
        rintro e w7 ⟨rfl, bw⟩
        have H7 := Lib.hid (And.intro (H6.out.1.trans (bw.mono H6.out.1.size)) (And.intro (H6.out.2.1.below bw) (And.intro (H6.out.2.2.1.below bw) (And.intro (H6.out.2.2.2.1.below bw) (H6.out.2.2.2.2.below bw)))))
        clear bw H6
        go_wp2_with fail
        refine (HW12e.out b12 w7 H7.out.2.2.2.2).mono ?_
        rintro e w8 ⟨rfl, bw⟩
        have H8 := Lib.hid (And.intro (H7.out.1.trans (bw.mono H7.out.1.size)) (And.intro (H7.out.2.1.below bw) (And.intro (H7.out.2.2.1.below bw) (And.intro (H7.out.2.2.2.1.below bw) (H7.out.2.2.2.2.below bw)))))
        clear bw H7
        go_wp2_with fail
        refine (HW10e.out b10 w8 H8.out.2.2.2.1).mono ?_
        rintro e w9 ⟨rfl, bw⟩
        have H9 := Lib.hid (And.intro (H8.out.1.trans (bw.mono H8.out.1.size)) (And.intro (H8.out.2.1.below bw) (And.intro (H8.out.2.2.1.below bw) (And.intro (H8.out.2.2.2.1.below bw) (H8.out.2.2.2.2.below bw)))))
        clear bw H8
        go_wp2_with fail
        refine (HW5e.out b5 w9 H9.out.2.1).mono ?_
        rintro e w10 ⟨rfl, bw⟩
        have H10 := Lib.hid (And.intro (H9.out.1.trans (bw.mono H9.out.1.size)) (And.intro (H9.out.2.1.below bw) (And.intro (H9.out.2.2.1.below bw) (And.intro (H9.out.2.2.2.1.below bw) (H9.out.2.2.2.2.below bw)))))
        clear bw H9
        go_wp2_with fail
        refine (HW12b.out b12 w10 H10.out.2.2.2.2).mono ?_
        rintro e w11 ⟨rfl, bw⟩
        have H11 := Lib.hid (And.intro (H10.out.1.trans (bw.mono H10.out.1.size)) (And.intro (H10.out.2.1.below bw) (And.intro (H10.out.2.2.1.below bw) (And.intro (H10.out.2.2.2.1.below bw) (H10.out.2.2.2.2.below bw)))))
        clear bw H10
        go_wp2_with fail
        refine (HW5b.out b5 w11 H11.out.2.1).mono ?_
        rintro e w12 ⟨rfl, bw⟩
        have H12 := Lib.hid (And.intro (H11.out.1.trans (bw.mono H11.out.1.size)) (And.intro (H11.out.2.1.below bw) (And.intro (H11.out.2.2.1.below bw) (And.intro (H11.out.2.2.2.1.below bw) (H11.out.2.2.2.2.below bw)))))
        clear bw H11
        go_wp2_with fail
        refine (HW5b.out b5 w12 H12.out.2.1).mono ?_
        rintro e w13 ⟨rfl, bw⟩
        have H13 := Lib.hid (And.intro (H12.out.1.trans (bw.mono H12.out.1.size)) (And.intro (H12.out.2.1.below bw) (And.intro (H12.out.2.2.1.below bw) (And.intro (H12.out.2.2.2.1.below bw) (H12.out.2.2.2.2.below bw)))))
        clear bw H12
        go_wp2_with fail
        refine (HW10b.out b10 w13 H13.out.2.2.2.1).mono ?_
        rintro e w14 ⟨rfl, bw⟩
        have H14 := Lib.hid (And.intro (H13.out.1.trans (bw.mono H13.out.1.size)) (And.intro (H13.out.2.1.below bw) (And.intro (H13.out.2.2.1.below bw) (And.intro (H13.out.2.2.2.1.below bw) (H13.out.2.2.2.2.below bw)))))
        clear bw H13
        go_wp2_with fail
        refine (HW5b.out b5 w14 H14.out.2.1).mono ?_
        rintro e w15 ⟨rfl, bw⟩
        have H15 := Lib.hid (And.intro (H14.out.1.trans (bw.mono H14.out.1.size)) (And.intro (H14.out.2.1.below bw) (And.intro (H14.out.2.2.1.below bw) (And.intro (H14.out.2.2.2.1.below bw) (H14.out.2.2.2.2.below bw)))))
        clear bw H14
        go_wp2_with fail
        go_ret
        exact ⟨rfl, H15.out.1⟩
end Go.Proofs.Ytfpdhmecomgbdaa
