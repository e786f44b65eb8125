import Derived.Test.YtleldfhfdgjfmaaMg12
import Derived.Test.YtleldfhfdgjfmaaMg13
section
/- Patterns of the statement on labels that are not there: the empty one, and at least one character; plain. -/


namespace Go.Proofs.Ytleldfhfdgjfmaa.Sto
open Go.RowKit

def likeNo : ByteArray := ⟨#[]⟩
def likeAny : ByteArray := ⟨#[46, 43]⟩
def ptNo : Pat.Pt := .choice [.chain []]
def ptAny : Pat.Pt := .choice [.chain [.times .dot false true]]
theorem likeNo_read : patO likeNo = some ptNo := by kernel_rfl
theorem likeAny_read : patO likeAny = some ptAny := by kernel_rfl
theorem no_lang (s : List Int) : Pat.Lang ptNo s ↔ s = [] := by
  unfold ptNo
  simp [Pat.Lang, Pat.LangAny, Pat.LangSeq]
theorem plus_dot (s : List Int) : Pat.Plus (fun t => Pat.Lang .dot t) s ↔ s ≠ [] := by
  constructor
  · intro h
    induction h with
    | one h => obtain ⟨r, e, _⟩ := h; rw [e]; simp
    | more h k ih => obtain ⟨r, e, _⟩ := h; rw [e]; simp
  · intro h
    induction s with
    | nil => exact absurd rfl h
    | cons r s ih =>
      by_cases hs : s = []
      · rw [hs]; exact .one ⟨r, rfl, rfl⟩
      · exact .more (u := [r]) ⟨r, rfl, rfl⟩ (ih hs)
theorem any_lang (s : List Int) : Pat.Lang ptAny s ↔ s ≠ [] := by
  unfold ptAny
  rw [Pat.lang_plus]
  exact plus_dot s
theorem toList_nil (v : ByteArray) : v.toList = [] ↔ v.size = 0 := by
  rw [ByteArray.toList_eq, ← List.length_eq_zero_iff, Array.length_toList]; rfl
theorem spell_nil (v : ByteArray) : spell v.data.toList = [] ↔ v.toList = [] := by
  rw [toList_nil]
  by_cases h : 0 < v.size
  · have := spell_at (s := v) (pos := 0) h
    rw [List.drop_zero] at this
    rw [this]
    exact ⟨fun h2 => (by cases h2), fun h2 => (by omega)⟩
  · have := spell_end (s := v) (pos := 0) h
    rw [List.drop_zero] at this
    rw [this]
    exact ⟨fun _ => by omega, fun _ => rfl⟩
def noB (nm : ByteArray) (l : Labs) : Bool := (getL nm l).toList.isEmpty
theorem isEmpty_eq (v : ByteArray) : (v.toList == (⟨#[]⟩ : ByteArray).toList) = v.toList.isEmpty := by
  have : (⟨#[]⟩ : ByteArray).toList = [] := by decide +kernel
  rw [this]
  cases v.toList <;> rfl
theorem says_is (nm v : ByteArray) : saysB (nm, 1, ⟨#[]⟩) v = v.toList.isEmpty := by
  rw [saysB_is rfl]; exact isEmpty_eq v
theorem says_no (nm v : ByteArray) : saysB (nm, 3, likeNo) v = v.toList.isEmpty := by
  rw [saysB_like rfl likeNo_read, Bool.eq_iff_iff, Pat.whole_lang, no_lang, spell_nil, List.isEmpty_iff]
theorem says_any (nm v : ByteArray) : saysB (nm, 3, likeAny) v = !v.toList.isEmpty := by
  rw [saysB_like rfl likeAny_read, Bool.eq_iff_iff, Pat.whole_lang, any_lang, Ne, spell_nil]
  simp
theorem sel_is (xs : List Srs) (nm : ByteArray) : selC xs [(nm, 1, ⟨#[]⟩)] = xs.filter fun x => noB nm x.1 := by
  unfold selC trueB
  refine List.filter_congr fun x _ => ?_
  simp only [List.all_cons, List.all_nil, Bool.and_true]
  exact says_is nm _
theorem sel_no (xs : List Srs) (nm : ByteArray) : selC xs [(nm, 3, likeNo)] = xs.filter fun x => noB nm x.1 := by
  unfold selC trueB
  refine List.filter_congr fun x _ => ?_
  simp only [List.all_cons, List.all_nil, Bool.and_true]
  exact says_no nm _
theorem sel_any (xs : List Srs) (nm : ByteArray) : selC xs [(nm, 3, likeAny)] = xs.filter fun x => !noB nm x.1 := by
  unfold selC trueB
  refine List.filter_congr fun x _ => ?_
  simp only [List.all_cons, List.all_nil, Bool.and_true]
  exact says_any nm _
theorem mat_is {nm : ByteArray} (h : nameB nm.data.toList = true) : matsB [(nm, 1, ⟨#[]⟩)] = true := by simp [matsB, matB, h]
theorem mat_no {nm : ByteArray} (h : nameB nm.data.toList = true) : matsB [(nm, 3, likeNo)] = true := by simp [matsB, matB, h, likeNo_read]
theorem mat_any {nm : ByteArray} (h : nameB nm.data.toList = true) : matsB [(nm, 3, likeAny)] = true := by simp [matsB, matB, h, likeAny_read]
end Go.Proofs.Ytleldfhfdgjfmaa.Sto
end

section
/- The walk of the statement on labels that are not there. -/




namespace Go.Proofs.Ytleldfhfdgjfmaa.Sto
open Go.RowKit

theorem mat_sees (w : World) (a c : ByteArray) (b : Int) : SeesM (w.alloc (Obj.cells #[.string a, .int .i64 b, .string c] 41)) (some ⟨w.heap.size, 0, none⟩) [(a, b, c)] := by
  refine .inr ⟨_, 0, rfl, by simp, fun j m hm => ?_⟩
  match j, hm with
  | 0, hm => simp at hm; subst hm; simp
  | j + 1, hm => simp at hm
theorem filter_len (p : Srs → Bool) (xs : List Srs) : (xs.filter fun x => p x).length + (xs.filter fun x => !p x).length = xs.length := by
  induction xs with
  | nil => rfl
  | cons a s ih =>
    rw [List.filter_cons, List.filter_cons, List.length_cons]
    cases p a <;> simp <;> omega

/-- A selection by one matcher that may be, at a store whose blocks are from B on. -/
theorem sel_own (B : Nat) (p : Nat) (a c : ByteArray) (b : Int) (xs : List Srs) (w : World) (h : Own B w p xs) (hf : Fine xs) (ha : a.size ≤ 1000000) (hc : c.size ≤ 1000000) (hm : matsB [(a, b, c)] = true) :
    Calls Try.prog 21 #[.pointer (some ⟨p, 0, none⟩), .slice (some ⟨w.heap.size, 0, none⟩) 1 1] (w.alloc (Obj.cells #[.string a, .int .i64 b, .string c] 41)) fun e w' =>
      (∃ o c2, e = .returned (.tuple #[.slice o (selC xs [(a, b, c)]).length c2, .int .i64 0]) ∧ Ser.SeesO w' o (selC xs [(a, b, c)])) ∧ Below w.heap.size w w' := by
  have hb : Below w.heap.size w (w.alloc (Obj.cells #[.string a, .int .i64 b, .string c] 41)) := (Below.refl _ _).alloc (Nat.le_refl _) _
  refine (select_any _ p 1 1 (some ⟨w.heap.size, 0, none⟩) xs [(a, b, c)] _ (St.below h hb) hf rfl (by decide) (fun m hm => by simp at hm; subst hm; exact ⟨ha, hc⟩) (mat_sees w a c b)).mono fun e w' q => ?_
  obtain ⟨h1 | ⟨_, v, us, e1, hA⟩, b2⟩ := q
  · rw [hm] at h1; cases h1.1
  · obtain ⟨o, c2, rfl, hs, _⟩ := hA.sees
    exact ⟨⟨o, c2, e1, hs⟩, hb.trans (b2.mono hb.size)⟩
theorem sel_le (xs : List Srs) (ms : List Mat) : (selC xs ms).length ≤ xs.length := List.length_filter_le _ _

theorem decode_four (s : ByteArray) (i : Nat) : (Utf8.decode s i).2 ≤ 4 := by
  unfold Utf8.decode
  dsimp only
  repeat' split
  all_goals simp
theorem spell_size (s : ByteArray) : ∀ (n pos : Nat), s.size - pos ≤ n → s.size - pos ≤ 4 * (spell (s.data.toList.drop pos)).length
  | 0, pos, h => by omega
  | n + 1, pos, h => by
    by_cases hp : pos < s.size
    · have h1 := width1 s pos
      have h4 := decode_four s pos
      have ih := spell_size s n (pos + (Utf8.decode s pos).2) (by omega)
      rw [spell_at hp, List.length_cons]
      omega
    · omega
theorem nameGo_len : ∀ (l : List Int) (n : Nat), nameGo n l = true → n ≤ 30 → l.length ≤ 30 - n
  | [], _, _, _ => by simp
  | r :: rs, n, h, hn => by
    unfold nameGo at h
    split at h
    · cases h
    · next h2 =>
      have h30 : n ≠ 30 := fun e => h2 (.inl e)
      have := nameGo_len rs (n + 1) h (by omega)
      rw [List.length_cons]; omega
theorem name_size {s : ByteArray} (h : nameB s.data.toList = true) : s.size ≤ 120 := by
  have h1 := nameGo_len _ 0 h (by decide)
  have h2 := spell_size s s.size 0 (by omega)
  rw [List.drop_zero] at h2
  omega
/-- The same, the series that are meant written out. -/
theorem sel_at (B : Nat) (p : Nat) (a c : ByteArray) (b : Int) (xs ys : List Srs) (n : Nat) (w : World) (h : Own B w p xs) (hf : Fine xs) (ha : a.size ≤ 1000000) (hc : c.size ≤ 1000000) (hm : matsB [(a, b, c)] = true) (he : selC xs [(a, b, c)] = ys) (hn : ys.length = n) :
    Calls Try.prog 21 #[.pointer (some ⟨p, 0, none⟩), .slice (some ⟨w.heap.size, 0, none⟩) 1 1] (w.alloc (Obj.cells #[.string a, .int .i64 b, .string c] 41)) fun e w' =>
      (∃ o c2, e = .returned (.tuple #[.slice o n c2, .int .i64 0]) ∧ Ser.SeesO w' o ys) ∧ Below w.heap.size w w' := by
  have := sel_own B p a c b xs w h hf ha hc hm
  rw [he, hn] at this
  exact this

set_option maxHeartbeats 16000000 in
set_option maxRecDepth 100000 in
theorem empty_any (o1 : Option Addr) (n1 c1 : Nat) (l : List OpT) (nm : ByteArray) (w : World) (h1 : l.length = n1) (hm1 : n1 ≤ maxLen) (hS1 : SeesP w o1 l) (hnm : nm.size ≤ 1099511627776) :
    Calls Try.prog 7 #[.slice o1 n1 c1, .string nm] w fun e w' => e = .returned (.bool true) ∧ Below w.heap.size w w' := by
  have HAlive := Lib.hid (fun W => alive_any W)
  have HL1 := Lib.hid (fun W (hb : Below w.heap.size w W) => lightP_any o1 n1 c1 l W h1 hm1 (hS1.below hb))
  have HNm := Lib.hid (fun W => rname_any nm W hnm)
  have HS1 := Lib.hid hS1
  have HN1 := Lib.hid h1
  unfold maxLen at hm1
  clear hS1 h1 hnm
  cases hl1 : lightP l with
  | false =>
    rw [hl1] at HL1
    clear hl1 HNm
    go_enter Try.func7, Try.ntmps7
    go_wp2_with fail
    refine (HL1.out _ (Below.refl _ _)).mono ?_
    rintro e w1 ⟨rfl, b1⟩
    go_wp2_with fail
    refine (HAlive.out _).mono ?_
    rintro e w2 ⟨rfl, b2⟩
    go_wp2
    go_ret
    exact ⟨rfl, b1.trans (b2.mono b1.size)⟩
  | true =>
    have HSm1 := Lib.hid (lightP_small hl1)
    have hk1 := lightP_len hl1
    rw [HN1.out] at hk1
    rw [hl1] at HL1
    clear hl1
    cases hn : nameB nm.data.toList with
    | false =>
      rw [hn] at HNm
      clear hn
      go_enter Try.func7, Try.ntmps7
      go_wp2_with fail
      refine (HL1.out _ (Below.refl _ _)).mono ?_
      rintro e w1 ⟨rfl, b1⟩
      go_wp2_with fail
      refine (HNm.out _).mono ?_
      rintro e w2 ⟨rfl, b2⟩
      have b12 := b1.trans (b2.mono b1.size)
      clear b1 b2
      go_wp2_with fail
      refine (HAlive.out _).mono ?_
      rintro e w3 ⟨rfl, b3⟩
      go_wp2
      go_ret
      exact ⟨rfl, b12.trans (b3.mono b12.size)⟩
    | true =>
      have HNS := Lib.hid (name_size hn)
      have HMi := Lib.hid (mat_is hn)
      have HMn := Lib.hid (mat_no hn)
      have HMa := Lib.hid (mat_any hn)
      rw [hn] at HNm
      clear hn
      go_enter Try.func7, Try.ntmps7
      go_wp2_with fail
      refine (HL1.out _ (Below.refl _ _)).mono ?_
      rintro e w1 ⟨rfl, b1⟩
      go_wp2_with fail
      refine (HNm.out _).mono ?_
      rintro e w2 ⟨rfl, b2⟩
      have b12 := b1.trans (b2.mono b1.size)
      clear b1 b2
      go_wp2_with fail
      refine (HAlive.out _).mono ?_
      rintro e w3 ⟨rfl, b3⟩
      have HB3 := Lib.hid (b12.trans (b3.mono b12.size))
      clear b12 b3 HL1 HAlive HNm
      have hz3 := HB3.out.size
      go_wp2_with fail
      go_loopw [6] (fun v6 wr => ∃ k : Nat, v6 = .int .i64 k ∧ k ≤ n1 ∧ Hid (Own w3.heap.size wr w3.heap.size (putsC [] (l.take k))) ∧ Hid (Below w3.heap.size w3 wr)) (fun v6 _ => n1 - (Go.RowKit.intOf v6).toNat)
      case atStart => exact ⟨0, rfl, Nat.zero_le _, own_new w3 _ _ (Nat.le_refl _) (Below.refl _ _), (Below.refl _ _).alloc (Nat.le_refl _) _⟩
      case round =>
        obtain ⟨k, rfl, hk, HO, HB⟩ := hrel
        by_cases hkn : k < n1
        · have j1 : (k : Int) < n1 := by omega
          obtain ⟨x, hx⟩ : ∃ x, l[k]? = some x := ⟨_, List.getElem?_eq_getElem (by rw [HN1.out]; exact hkn)⟩
          have hBw : Below w.heap.size w wr := HB3.out.trans (HB.out.mono hz3)
          obtain ⟨b, off, rfl, oL, cL, a1, a2, a3, a4, a5, a6⟩ := (HS1.out.below hBw).at hx
          have hfk : Fine (putsC [] (l.take k)) := fine_puts _ fine_nil fun y hy => HSm1.out y (List.mem_of_mem_take hy)
          have HC := Lib.hid (put_own w3.heap.size wr.drew w3.heap.size x.2.1.length cL (putsC [] (l.take k)) oL x.2.1 x.2.2.1 x.2.2.2 (HO.out.on (Below.refl _ _).drew) hfk rfl (HSm1.out x (List.mem_of_getElem? hx)) (a3.below (Below.refl _ _).drew))
          have HST := Lib.hid (puts_step (xs := []) hx)
          clear hBw a1 a3 a4 hfk hx
          generalize x.2.1.length = nL at a2 HC
          generalize (putC (putsC [] (l.take k)) x.2.1 x.2.2.1 x.2.2.2).2 = er at HC
          go_wp2_with fail
          go_region_with (go_at_call 20; refine HC.out.mono ?_; rintro e w4 ⟨rfl, b4, q4⟩)
          all_goals
            have HB4 := Lib.hid (HB.out.trans ((Below.refl _ _).drew.trans b4))
            have HO4 := Lib.hid (show Own w3.heap.size w4 w3.heap.size (putsC [] (l.take (k + 1))) by rw [HST.out]; exact q4)
            clear b4 q4
            go_wp2
            go_roundw
            case rel => exact ⟨k + 1, by go_num, by omega, HO4, HB4⟩
            case measure => simp [Go.RowKit.intOf]; omega
        · have HZ := Lib.hid (show l.take k = l from List.take_of_length_le (by rw [HN1.out]; omega))
          rw [HZ.out] at HO
          obtain ⟨wo, hwo⟩ : ∃ wo : World, wr = wo := ⟨wr, rfl⟩
          subst wr
          obtain ⟨xs, hxs⟩ : ∃ xs, putsC [] l = xs := ⟨_, rfl⟩
          have hf : Fine xs := by rw [← hxs]; exact fine_puts _ fine_nil HSm1.out
          rw [hxs] at HO
          have HF := Lib.hid hf
          have HBw := Lib.hid (HB3.out.trans (HB.out.mono hz3))
          obtain ⟨fs, hfs⟩ : ∃ fs, (xs.filter fun x => noB nm x.1) = fs := ⟨_, rfl⟩
          obtain ⟨gs, hgs⟩ : ∃ gs, (xs.filter fun x => !noB nm x.1) = gs := ⟨_, rfl⟩
          obtain ⟨nA, hnA⟩ : ∃ nA, fs.length = nA := ⟨_, rfl⟩
          obtain ⟨nC, hnC⟩ : ∃ nC, gs.length = nC := ⟨_, rfl⟩
          obtain ⟨nx, hnx⟩ : ∃ nx, xs.length = nx := ⟨_, rfl⟩
          have hsum : nA + nC = nx := by rw [← hnA, ← hnC, ← hnx, ← hfs, ← hgs]; exact filter_len (fun x => noB nm x.1) xs
          have hnx120 : nx ≤ maxLen := by rw [← hnx]; have := hf.1; unfold maxLen; omega
          have HIN := Lib.hid (show ∀ x ∈ fs, noB nm x.1 = true from fun x hx => by rw [← hfs] at hx; exact (List.mem_filter.1 hx).2)
          have E1 := Lib.hid ((sel_is xs nm).trans hfs)
          have E2 := Lib.hid ((sel_no xs nm).trans hfs)
          have E3 := Lib.hid ((sel_any xs nm).trans hgs)
          have HNA := Lib.hid hnA
          have HNC := Lib.hid hnC
          have HNX := Lib.hid hnx
          have HC1 := Lib.hid (sel_at w3.heap.size w3.heap.size nm ⟨#[]⟩ 1 xs fs nA wo HO.out hf (by have := HNS.out; omega) (by decide) HMi.out E1.out hnA)
          clear hf hxs hfs hgs hnA hnC hnx HZ HB HB3
          go_wp2_with fail
          refine HC1.out.mono ?_
          rintro e w4 ⟨⟨oa, ca, rfl, sa⟩, b4⟩
          have HSA := Lib.hid sa
          have HO4 := Lib.hid (HO.out.on b4)
          have HB4 := Lib.hid (HBw.out.trans (b4.mono HBw.out.size))
          have HC2 := Lib.hid (sel_at w3.heap.size w3.heap.size nm likeNo 3 xs fs nA w4 HO4.out HF.out (by have := HNS.out; omega) (by decide) HMn.out E2.out HNA.out)
          unfold likeNo at HC2
          clear sa b4 HC1 HO HBw
          go_wp2_with fail
          refine HC2.out.mono ?_
          rintro e w5 ⟨⟨ob, cb, rfl, sb⟩, b5⟩
          have HSA5 := Lib.hid (HSA.out.below b5)
          have HSB := Lib.hid sb
          have HO5 := Lib.hid (HO4.out.on b5)
          have HB5 := Lib.hid (HB4.out.trans (b5.mono HB4.out.size))
          have HC3 := Lib.hid (sel_at w3.heap.size w3.heap.size nm likeAny 3 xs gs nC w5 HO5.out HF.out (by have := HNS.out; omega) (by decide) HMa.out E3.out HNC.out)
          unfold likeAny at HC3
          clear sb b5 HC2 HO4 HB4 HSA
          go_wp2_with fail
          refine HC3.out.mono ?_
          rintro e w6 ⟨⟨oc, cc, rfl, sc⟩, b6⟩
          have hSA6 := HSA5.out.below b6
          have hSB6 := HSB.out.below b6
          have HSA6 := Lib.hid hSA6
          have HO6 := Lib.hid (HO5.out.on b6)
          have HB6 := Lib.hid (HB5.out.trans (b6.mono HB5.out.size))
          have HSame := Lib.hid (Ser.sameSeries_any oa ob ca cb fs fs w6 (by rw [HNA.out]; omega) (by rw [HNA.out]; omega) hSA6 hSB6)
          rw [Ser.sameL_refl, HNA.out] at HSame
          clear sc b6 HC3 HO5 HB5 HSA5 HSB hSA6 hSB6
          go_wp2_with fail
          refine HSame.out.mono ?_
          rintro e w7 ⟨rfl, b7⟩
          have HO7 := Lib.hid (HO6.out.on b7)
          have HB7 := Lib.hid (HB6.out.trans (b7.mono HB6.out.size))
          have HSA7 := Lib.hid (HSA6.out.below b7)
          have HA7 := Lib.hid (all_any _ w3.heap.size xs w7 HO7.out HF.out)
          have hmx : nx ≤ maxLen := hnx120
          unfold maxLen at hmx
          have jw : IntKind.i64.wrap ((nA : Int) + (nC : Int)) = (nx : Int) := by rw [IntKind.wrap_i64]; omega
          clear b7 HSame HO6 HB6 HSA6
          go_wp2_with fail
          refine HA7.out.mono ?_
          rintro e w8 ⟨⟨va, ua, rfl, aa⟩, b8⟩
          obtain ⟨ox, cx, rfl, _, _⟩ := aa.sees
          rw [HNX.out]
          have HB8 := Lib.hid (HB7.out.trans (b8.mono HB7.out.size))
          have HSA8 := Lib.hid (HSA7.out.below b8)
          clear b8 aa HA7 HB7 HSA7 HO7
          go_wp2
          go_loopw [13] (fun v13 wr => ∃ i : Nat, v13 = .int .i64 i ∧ i ≤ nA ∧ Hid (wr = w8)) (fun v13 _ => nA - (Go.RowKit.intOf v13).toNat)
          case atStart => exact ⟨0, rfl, Nat.zero_le _, rfl⟩
          case round =>
            obtain ⟨i, rfl, hi, HW⟩ := hrel
            obtain rfl := HW.out
            by_cases hin : i < nA
            · have j2 : (i : Int) < nA := by omega
              obtain ⟨x, hx⟩ := Ser.get_lt HNA.out hin
              obtain ⟨b, off, rfl, hSS⟩ := HSA8.out.at hx
              obtain ⟨u, v, c0, c1, oL, cL, oP, cP, rfl, rfl, hL, hP, lL, lP⟩ := hSS.at0 _ x hx
              have hno := HIN.out x (List.mem_of_getElem? hx)
              have t1 : (getL nm x.1).toList.isEmpty = true := hno
              have HG := Lib.hid (rget_any oL cL x.1 nm wr lL hL)
              clear c1 hSS hP lP hno hx
              generalize x.1.length = nL at c0 HG
              go_wp2_with fail
              refine HG.out.mono ?_
              rintro e w9 ⟨rfl, rfl⟩
              go_wp2
              go_roundw
              case rel => exact ⟨i + 1, by go_num, by omega, (by first | exact Lib.hid rfl | exact Lib.hid trivial)⟩
              case measure => simp [Go.RowKit.intOf]; omega
            · go_wp2
              go_ret
              exact ⟨rfl, HB8.out⟩
end Go.Proofs.Ytleldfhfdgjfmaa.Sto
end
