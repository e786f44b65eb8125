/- The walk of the law on windows. -/
import Derived.Test.YthbameabfmoibaaGreatVt
import Derived.Test.YthbameabfmoibaaGreatPnk
namespace Go.Proofs.YthbameabfmoibaaGreat.Win
open Go.RowKit Go.Lib

/-- What stands while the answers are held against the document's. -/
structure St (WF w : World) (q : Nat) (a : Value) (m : Nat) (P : List Pt) : Prop where
  bk : Pnt.Bk WF.heap.size w q
  a : w.ownsRow WF.heap.size 43 2 a m (Pnt.flatL P)
theorem St.below {WF w w' : World} {q : Nat} {a : Value} {m : Nat} {P : List Pt} (h : St WF w q a m P) (hb : Below w.heap.size w w') : St WF w' q a m P :=
  ⟨h.bk.below hb, Pnt.own_grown h.a hb⟩

set_option maxHeartbeats 4000000 in
set_option maxRecDepth 100000 in
theorem tells_long (o : Option Addr) (cap n : Nat) (t wh : Int) (s : ByteArray) (w : World) (hm : n ≤ maxLen) (hs : s.size ≤ maxLen) (h : 80 < n ∨ 40 < s.size) :
    Calls Tryz.prog 3 #[.slice o n cap, .int .i64 t, .int .i64 wh, .string s] w fun e w' => e = .returned (.bool true) ∧ Below w.heap.size w w' := by
  have HAL := Lib.hid (fun W => alive_any W)
  unfold maxLen at hm hs
  by_cases h1 : 80 < n
  · have j1 : (80 : Int) < n := by omega
    clear h
    go_enter Tryz.func3, Tryz.ntmps3
    go_wp2_with fail
    refine (HAL.out _).mono ?_
    rintro e w2 ⟨rfl, b2⟩
    have HB := Lib.hid b2
    clear b2
    go_wp2
    go_ret
    exact ⟨rfl, HB.out⟩
  · have j1 : ¬ (80 : Int) < n := by omega
    have j2 : (40 : Int) < s.size := by omega
    clear h
    go_enter Tryz.func3, Tryz.ntmps3
    go_wp2_with fail
    refine (HAL.out _).mono ?_
    rintro e w2 ⟨rfl, b2⟩
    have HB := Lib.hid b2
    clear b2
    go_wp2
    go_ret
    exact ⟨rfl, HB.out⟩

set_option maxHeartbeats 16000000 in
set_option maxRecDepth 100000 in
theorem wtells_any (o : Option Addr) (cap : Nat) (xs : List Pt) (t wh : Int) (s : ByteArray) (w : World) (hm : xs.length ≤ maxLen) (hcap : o = none → cap = 0) (hs : s.size ≤ maxLen) (hS : Pnt.SeesO w o xs) :
    Calls Tryz.prog 3 #[.slice o xs.length cap, .int .i64 t, .int .i64 wh, .string s] w fun e w' => e = .returned (.bool true) ∧ Below w.heap.size w w' := by
  by_cases hlong : 80 < xs.length ∨ 40 < s.size
  · exact tells_long o cap xs.length t wh s w hm hs hlong
  have HAL := Lib.hid (fun W => alive_any W)
  obtain ⟨n, hn⟩ : ∃ n, xs.length = n := ⟨_, rfl⟩
  obtain ⟨P, hP⟩ : ∃ P, ofF xs t wh = P := ⟨_, rfl⟩
  obtain ⟨m, hPm⟩ : ∃ m, P.length = m := ⟨_, rfl⟩
  have hm25 : m ≤ 25 := by rw [← hPm, ← hP]; exact of_len _ _ _
  obtain ⟨LV, hLV⟩ : ∃ LV, lastF xs t wh = LV := ⟨_, rfl⟩
  obtain ⟨R, hR⟩ : ∃ R, overF (fnF s) xs = R := ⟨_, rfl⟩
  obtain ⟨pb, hpb⟩ : ∃ pb, pointsB xs = pb := ⟨_, rfl⟩
  obtain ⟨fb, hfb⟩ : ∃ fb, decide (fnF s < 8) = fb := ⟨_, rfl⟩
  have hlast : LV = match P.getLast? with | some x => (x.2, true) | none => (0, false) := by
    rw [← hLV]; unfold lastF; rw [hP]; cases P.getLast? <;> rfl
  have hx6 : xs.length ≤ 1000000 := by omega
  -- the calls
  have HLL := Lib.hid (fun W (h : Below w.heap.size w W) => (show Calls Tryz.prog 5 #[.slice o n cap] W fun e w' => (∃ g c, e = .returned (.slice (some ⟨g, 0, none⟩) n c) ∧ Pnt.LentL w' g c xs) ∧ Below W.heap.size W w' from by
    have := Pnt.lentL_any o cap xs hx6 hcap W (hS.below h)
    rw [hn] at this; exact this))
  have HRW := Lib.hid (fun W (h : Below w.heap.size w W) => (show Calls Tryz.prog 6 #[.slice o n cap, .int .i64 t, .int .i64 wh] W fun e w' => (∃ o2 c2, e = .returned (.slice o2 m c2) ∧ Pnt.SeesO w' o2 P) ∧ Below W.heap.size W w' from
    rwindow_form o cap xs P t wh W hn hP hPm (by rw [← hn]; exact hm) (hS.below h)))
  have HOF := Lib.hid (fun W g c (h : Pnt.LentL W g c xs) => (show Calls Tryz.prog 7 #[.slice (some ⟨g, 0, none⟩) n c, .int .i64 t, .int .i64 wh] W fun e w' => (∃ o2 c2, e = .returned (.slice o2 m c2) ∧ w'.ownsRow W.heap.size 43 2 (.slice o2 m c2) m (Pnt.flatL P)) ∧ Below W.heap.size W w' from by
    refine (of_form (some ⟨g, 0, none⟩) c xs P t wh W hn hP hPm (by rw [← hn]; exact hm) h.sees).mono ?_
    rintro e w' ⟨⟨o2, c2, he, ho, _⟩, hb⟩
    exact ⟨⟨o2, c2, he, ho⟩, hb⟩))
  have HLA := Lib.hid (fun W g c (h : Pnt.LentL W g c xs) => (show Calls Tryz.prog 9 #[.slice (some ⟨g, 0, none⟩) n c, .int .i64 t, .int .i64 wh] W fun e w' => e = .returned (.tuple #[.int .i64 LV.1, .bool LV.2]) ∧ Below W.heap.size W w' from by
    have := last_any (some ⟨g, 0, none⟩) c xs t wh W hm h.sees
    rw [hn, hLV] at this; exact this))
  have HDO := Lib.hid (fun W g c (h : Pnt.LentL W g c xs) => (show Calls Tryz.prog 10 #[.string s, .slice (some ⟨g, 0, none⟩) n c] W fun e w' => e = .returned (.tuple #[.int .i64 R.1, .bool R.2.1, .int .i64 R.2.2]) ∧ Below W.heap.size W w' from by
    have := wdo_any s (some ⟨g, 0, none⟩) c xs W hm h.sees
    rw [hn, wdo_over, hR] at this; exact this))
  have HOV := Lib.hid (fun W (h : Below w.heap.size w W) => (show Calls Tryz.prog 11 #[.string s, .slice o n cap] W fun e w' => e = .returned (.tuple #[.int .i64 R.1, .bool R.2.1, .int .i64 R.2.2]) ∧ Below W.heap.size W w' from by
    have := rover_any s o cap xs W hm (hS.below h)
    rw [hn, hR] at this; exact this))
  have HR1 := Lib.hid (fun W g c (h : Pnt.LentL W g c xs) => (show Calls Tryz.prog 12 #[.slice (some ⟨g, 0, none⟩) n c] W fun e w' => e = .returned (.bool pb) ∧ Below W.heap.size W w' from by
    have := wright_any (some ⟨g, 0, none⟩) c xs W hm h.sees
    rw [hn, hpb] at this; exact this))
  have HR2 := Lib.hid (fun W (h : Below w.heap.size w W) => (show Calls Tryz.prog 13 #[.slice o n cap] W fun e w' => e = .returned (.bool pb) ∧ Below W.heap.size W w' from by
    have := rpoints_any o cap xs W hm (hS.below h)
    rw [hn, hpb] at this; exact this))
  have HSA := Lib.hid (fun W o1 c1 o2 c2 (h1 : Pnt.SeesO W o1 P) (h2 : Pnt.SeesO W o2 P) => (show Calls Tryz.prog 14 #[.slice o1 m c1, .slice o2 m c2] W fun e w' => e = .returned (.bool true) ∧ Below W.heap.size W w' from by
    have := Pnt.samePoints_any o1 o2 c1 c2 P P W (by unfold maxLen; omega) (by unfold maxLen; omega) h1 h2
    rw [hPm, Pnt.sameL_refl] at this; exact this))
  have HF1 := Lib.hid (fun W => (show Calls Tryz.prog 15 #[.string s] W fun e w' => e = .returned (.bool fb) ∧ w' = W from by
    have := fn_any s W
    rw [hfb] at this; exact this))
  have HF2 := Lib.hid (fun W => (show Calls Tryz.prog 16 #[.string s] W fun e w' => e = .returned (.bool fb) ∧ w' = W from by
    have := rfn_any s W
    rw [hfb] at this; exact this))
  have HST := Lib.hid (fun W g c (hL : Pnt.LentL W g c xs) (h : Below w.heap.size w W) => (show Calls Tryz.prog 17 #[.slice (some ⟨g, 0, none⟩) n c, .slice o n cap] W fun e w' => e = .returned (.bool true) ∧ Below W.heap.size W w' from by
    have := Pnt.staysL_any g c o cap xs hx6 W hL (hS.below h)
    rw [hn] at this; exact this))
  have HPM := Lib.hid hPm
  have HLAST := Lib.hid hlast
  have j1 : ¬ (80 : Int) < n := by omega
  have j2 : ¬ (40 : Int) < s.size := by omega
  have j3 : n ≤ 80 := by omega
  rw [hn]
  clear hS hcap hm hs hlong hn hP hPm hLV hR hpb hfb hlast hx6
  go_enter Tryz.func3, Tryz.ntmps3
  go_wp2_with fail
  refine (HAL.out _).mono ?_
  rintro e w1 ⟨rfl, b1⟩
  have HB1 := Lib.hid b1
  clear b1
  go_wp2_with fail
  refine (HLL.out _ HB1.out).mono ?_
  rintro e w2 ⟨⟨g, c, rfl, hl⟩, b2⟩
  have HB2 := Lib.hid (HB1.out.trans (b2.mono HB1.out.size))
  have HG2 := Lib.hid hl
  clear b2 hl HB1
  go_wp2_with fail
  refine (HRW.out _ HB2.out).mono ?_
  rintro e WF ⟨⟨oP, cP, rfl, hsP⟩, b3⟩
  have HBF := Lib.hid (HB2.out.trans (b3.mono HB2.out.size))
  have HGF := Lib.hid (HG2.out.below b3)
  have HPF := Lib.hid hsP
  clear b3 hsP HB2 HG2 HLL HRW
  have HLo := Lib.hid (fun W (h : Below WF.heap.size WF W) => HBF.out.trans (h.mono HBF.out.size))
  have HOF := Lib.hid (fun W (h : Below WF.heap.size WF W) => HOF.out W g c (HGF.out.below h))
  have HLA := Lib.hid (fun W (h : Below WF.heap.size WF W) => HLA.out W g c (HGF.out.below h))
  have HDO := Lib.hid (fun W (h : Below WF.heap.size WF W) => HDO.out W g c (HGF.out.below h))
  have HOV := Lib.hid (fun W (h : Below WF.heap.size WF W) => HOV.out W (HLo.out W h))
  have HR1 := Lib.hid (fun W (h : Below WF.heap.size WF W) => HR1.out W g c (HGF.out.below h))
  have HR2 := Lib.hid (fun W (h : Below WF.heap.size WF W) => HR2.out W (HLo.out W h))
  have HST := Lib.hid (fun W (h : Below WF.heap.size WF W) => HST.out W g c (HGF.out.below h) (HLo.out W h))
  have HPW := Lib.hid (fun W (h : Below WF.heap.size WF W) => HPF.out.below h)
  obtain ⟨w0, hw0⟩ : ∃ w0 : World, WF.alloc (.cells #[.slice none 0 0, .slice none 0 0, .slice none 0 0, .slice none 0 0, .slice none 0 0, .slice none 0 0, .slice none 0 0, .slice none 0 0, .slice none 0 0, .slice none 0 0, .slice none 0 0, .slice none 0 0, .slice none 0 0, .slice none 0 0, .slice none 0 0, .slice none 0 0, .slice none 0 0, .slice none 0 0, .slice none 0 0, .slice none 0 0] 38) = w0 := ⟨_, rfl⟩
  have HB0 := Lib.hid (show Below WF.heap.size WF w0 from by rw [← hw0]; exact (Below.refl _ _).alloc (Nat.le_refl _) _)
  have HK0 := Lib.hid (show Pnt.Bk WF.heap.size w0 0 from by rw [← hw0]; exact Pnt.bk_start WF)
  go_wp2_with fail
  clear hw0
  refine (HOF.out _ HB0.out).mono ?_
  rintro e w1 ⟨⟨oa, ca, rfl, ha⟩, b1⟩
  have HB1 := Lib.hid (HB0.out.trans (b1.mono HB0.out.size))
  have HA1 := Lib.hid ha
  have HS1 := Lib.hid b1
  clear b1 ha
  go_wp2_with fail
  refine (HOF.out _ HB1.out).mono ?_
  rintro e w2 ⟨⟨ob, cb, rfl, hb⟩, b2⟩
  have HB2 := Lib.hid (HB1.out.trans (b2.mono HB1.out.size))
  have HA2 := Lib.hid (Pnt.own_grown HA1.out b2)
  have HC2 := Lib.hid hb
  have HS2 := Lib.hid (HS1.out.trans (b2.mono HS1.out.size))
  have HZ2 := Lib.hid b2.size
  clear b2 hb
  have q0 := HB0.out.size
  have q1 := HS1.out.size
  have q2 := HZ2.out
  have HK2 := Lib.hid (HK0.out.before (Nat.le_refl _) HS2.out)
  have HAb := Lib.hid (fun b e => (HA1.out.lt b e).2)
  have HCg := Lib.hid (fun b e => (HC2.out.lt b e).1)
  have HCb := Lib.hid (fun b e => (HC2.out.lt b e).2)
  go_wp2_with fail
  refine (Pnt.book_keep HPM.out HK2.out (by omega) q0 HA2.out (by omega) (by omega) q1 HAb.out).mono ?_
  rintro e w3 ⟨rfl, hk3, b3, f3⟩
  have HB3 := Lib.hid (HB2.out.trans b3)
  have HK3 := Lib.hid hk3
  have q3 := b3.size
  have HA3 := Lib.hid (f3 _ _ _ (Pnt.own_mono HA2.out q0))
  have HC3 := Lib.hid (f3 _ _ _ (Pnt.own_mono HC2.out (by omega)))
  clear hk3 b3 f3 HK2
  go_wp2_with fail
  refine (Pnt.book_keep HPM.out HK3.out (by omega) (by omega) (Pnt.own_raise HC3.out HCg.out) (by omega) (by omega) q2 HCb.out).mono ?_
  rintro e w4 ⟨rfl, hk4, b4, f4⟩
  have HB4 := Lib.hid (HB3.out.trans b4)
  have q4 := b4.size
  have HX4 := Lib.hid (show St WF w4 (0 + 1 + 1) (.slice oa m ca) m P from ⟨hk4.to (by omega), f4 _ _ _ HA3.out⟩)
  clear hk4 b4 f4 HK3 HA1 HA2 HA3 HC2 HC3 HAb HCg HCb HS1 HS2 HZ2 HB0 HB1 HB2 HB3 HK0 q0 q1 q2 q3 q4 HOF
  go_wp2_with fail
  refine (HLA.out _ HB4.out).mono ?_
  rintro e w5 ⟨rfl, b⟩
  have HB5 := Lib.hid (HB4.out.trans (b.mono HB4.out.size))
  have HX5 := Lib.hid (HX4.out.below b)
  clear b
  by_cases hm0 : m = 0
  · subst hm0
    have eP : P = [] := List.eq_nil_of_length_eq_zero HPM.out
    have hLV := HLAST.out
    rw [eP] at hLV
    have hLV2 : LV = (0, false) := hLV
    subst hLV2
    clear eP hLV
    go_wp2_with fail
    refine (HDO.out _ HB5.out).mono ?_
    rintro e w6 ⟨rfl, b⟩
    have HB6 := Lib.hid (HB5.out.trans (b.mono HB5.out.size))
    have HX6 := Lib.hid (HX5.out.below b)
    clear b
    go_wp2_with fail
    refine (HOV.out _ HB6.out).mono ?_
    rintro e w7 ⟨rfl, b⟩
    have HB7 := Lib.hid (HB6.out.trans (b.mono HB6.out.size))
    have HX7 := Lib.hid (HX6.out.below b)
    clear b
    go_wp2_with fail
    refine (HR1.out _ HB7.out).mono ?_
    rintro e w8 ⟨rfl, b⟩
    have HB8 := Lib.hid (HB7.out.trans (b.mono HB7.out.size))
    have HX8 := Lib.hid (HX7.out.below b)
    clear b
    go_wp2_with fail
    refine (HR2.out _ HB8.out).mono ?_
    rintro e w9 ⟨rfl, b⟩
    have HB9 := Lib.hid (HB8.out.trans (b.mono HB8.out.size))
    have HX9 := Lib.hid (HX8.out.below b)
    clear b
    go_wp2_with fail
    refine (HSA.out _ _ _ _ _ (Pnt.sees_own HPM.out HX9.out.a) (HPW.out _ HB9.out)).mono ?_
    rintro e w10 ⟨rfl, b⟩
    have HB10 := Lib.hid (HB9.out.trans (b.mono HB9.out.size))
    have HX10 := Lib.hid (HX9.out.below b)
    clear b
    go_wp2_with fail
    refine (HF1.out _).mono ?_
    rintro e w11 ⟨rfl, hwq⟩
    rw [hwq]
    clear hwq
    go_wp2_with fail
    refine (HF2.out _).mono ?_
    rintro e w12 ⟨rfl, hwq⟩
    rw [hwq]
    clear hwq
    go_wp2_with fail
    refine (HST.out _ HB10.out).mono ?_
    rintro e w13 ⟨rfl, b⟩
    have HB13 := Lib.hid (HB10.out.trans (b.mono HB10.out.size))
    have HX13 := Lib.hid (HX10.out.below b)
    clear b
    go_wp2_with fail
    refine (Pnt.book_apart HX13.out.bk HB13.out (Nat.le_refl _)).mono ?_
    rintro e w14 ⟨rfl, b⟩
    have HBL := Lib.hid (HLo.out _ b)
    clear b
    go_wp2
    go_ret
    exact ⟨by simp, HBL.out⟩
  · obtain ⟨q, rfl⟩ : ∃ q, m = q + 1 := ⟨m - 1, by omega⟩
    obtain ⟨z, hz⟩ := Pnt.get_lt HPM.out (show q < q + 1 by omega)
    have hLV := HLAST.out
    rw [List.getLast?_eq_getElem?, HPM.out, Nat.add_sub_cancel, hz] at hLV
    have hLV2 : LV = (z.2, true) := hLV
    subst hLV2
    have jq : (0 : Int) < ((q + 1 : Nat) : Int) := by omega
    obtain ⟨bp, offp, rfl, hsp⟩ := (HPW.out _ HB5.out).at hz
    have c1 := hsp.at1 q z hz
    clear hLV hz hsp
    go_wp2_with fail
    refine (HDO.out _ HB5.out).mono ?_
    rintro e w6 ⟨rfl, b⟩
    have HB6 := Lib.hid (HB5.out.trans (b.mono HB5.out.size))
    have HX6 := Lib.hid (HX5.out.below b)
    clear b
    go_wp2_with fail
    refine (HOV.out _ HB6.out).mono ?_
    rintro e w7 ⟨rfl, b⟩
    have HB7 := Lib.hid (HB6.out.trans (b.mono HB6.out.size))
    have HX7 := Lib.hid (HX6.out.below b)
    clear b
    go_wp2_with fail
    refine (HR1.out _ HB7.out).mono ?_
    rintro e w8 ⟨rfl, b⟩
    have HB8 := Lib.hid (HB7.out.trans (b.mono HB7.out.size))
    have HX8 := Lib.hid (HX7.out.below b)
    clear b
    go_wp2_with fail
    refine (HR2.out _ HB8.out).mono ?_
    rintro e w9 ⟨rfl, b⟩
    have HB9 := Lib.hid (HB8.out.trans (b.mono HB8.out.size))
    have HX9 := Lib.hid (HX8.out.below b)
    clear b
    go_wp2_with fail
    refine (HSA.out _ _ _ _ _ (Pnt.sees_own HPM.out HX9.out.a) (HPW.out _ HB9.out)).mono ?_
    rintro e w10 ⟨rfl, b⟩
    have HB10 := Lib.hid (HB9.out.trans (b.mono HB9.out.size))
    have HX10 := Lib.hid (HX9.out.below b)
    clear b
    go_wp2_with fail
    refine (HF1.out _).mono ?_
    rintro e w11 ⟨rfl, hwq⟩
    rw [hwq]
    clear hwq
    go_wp2_with fail
    refine (HF2.out _).mono ?_
    rintro e w12 ⟨rfl, hwq⟩
    rw [hwq]
    clear hwq
    go_wp2_with fail
    refine (HST.out _ HB10.out).mono ?_
    rintro e w13 ⟨rfl, b⟩
    have HB13 := Lib.hid (HB10.out.trans (b.mono HB10.out.size))
    have HX13 := Lib.hid (HX10.out.below b)
    clear b
    go_wp2_with fail
    refine (Pnt.book_apart HX13.out.bk HB13.out (Nat.le_refl _)).mono ?_
    rintro e w14 ⟨rfl, b⟩
    have HBL := Lib.hid (HLo.out _ b)
    clear b
    go_wp2
    go_ret
    exact ⟨by simp, HBL.out⟩
end Go.Proofs.YthbameabfmoibaaGreat.Win
