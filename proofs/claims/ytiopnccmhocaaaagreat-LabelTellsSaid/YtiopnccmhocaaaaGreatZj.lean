/- The walk of the law on labels. -/
import Derived.Test.YtiopnccmhocaaaaGreatZi
import Derived.Deep.QuietTactic
namespace Go.Proofs.YtiopnccmhocaaaaGreat
open Go.RowKit Go.Lib

theorem own_raise {w : World} {B s e sz n : Nat} {v : Value} {xs : List Value} (h : w.ownsRow B e sz v n xs) (hs : ∀ b, v.ownBlock = some b → s ≤ b) : w.ownsRow s e sz v n xs :=
  ⟨h.1, h.2.imp id fun ⟨g, cap, cur, h1, h2, h3⟩ => ⟨g, cap, cur, h1, hs g (by rw [h1]; rfl), h3⟩⟩
/-- What stands while the answers are held against the document's. -/
structure St (WF w : World) (q : Nat) (t a b : Value) (nt na nb : Nat) (T A C : List Lab) : Prop where
  bk : Bk WF.heap.size w q
  t : w.ownsRow WF.heap.size 56 2 t nt (flatL T)
  a : w.ownsRow WF.heap.size 56 2 a na (flatL A)
  b : w.ownsRow WF.heap.size 56 2 b nb (flatL C)
theorem St.below {WF w w' : World} {q : Nat} {t a b : Value} {nt na nb : Nat} {T A C : List Lab} (h : St WF w q t a b nt na nb T A C) (hb : Below w.heap.size w w') : St WF w' q t a b nt na nb T A C :=
  ⟨h.bk.below hb, own_grown h.t hb, own_grown h.a hb, own_grown h.b hb⟩

set_option maxHeartbeats 32000000 in
set_option maxRecDepth 100000 in
theorem tells_any (o oo on : Option Addr) (cap co cn : Nat) (xs ys : List Lab) (ns : List ByteArray) (w : World) (hmx : xs.length ≤ maxLen) (hmy : ys.length ≤ maxLen) (hmn : ns.length ≤ maxLen) (hcap : o = none → cap = 0) (hcapn : on = none → cn = 0) (hS : SeesO w o xs) (hO : SeesO w oo ys) (hN : SeesN w on ns) :
    Calls Tryz.prog 3 #[.slice o xs.length cap, .slice oo ys.length co, .slice on ns.length cn] w fun e w' => e = .returned (.bool true) ∧ Below w.heap.size w w' := by
  obtain ⟨n, hn⟩ : ∃ n, xs.length = n := ⟨_, rfl⟩
  obtain ⟨m, hm⟩ : ∃ m, ys.length = m := ⟨_, rfl⟩
  obtain ⟨q, hq⟩ : ∃ q, ns.length = q := ⟨_, rfl⟩
  have HAL := Lib.hid (fun W => alive_any W)
  have HL1 := Lib.hid (light_any o cap xs w hmx hS)
  have HL2 := Lib.hid (fun W (h : Below w.heap.size w W) => light_any oo co ys W hmy (hO.below h))
  rw [hn] at HL1
  rw [hm] at HL2
  have hT := Txt.SeesT.of hN
  cases hl : lightB xs with
  | false =>
    rw [hl] at HL1
    rw [hn, hm, hq]
    clear hS hO hN hT hcap hcapn hmx hmy hmn hl hn hm hq
    go_enter Tryz.func3, Tryz.ntmps3
    go_wp2_with fail
    refine HL1.out.mono ?_
    rintro e w1 ⟨rfl, b1⟩
    go_wp2_with fail
    refine (HAL.out _).mono ?_
    rintro e w2 ⟨rfl, b2⟩
    have HB2 := Lib.hid (b1.trans (b2.mono b1.size))
    clear b1 b2
    go_wp2
    go_ret
    exact ⟨rfl, HB2.out⟩
  | true =>
  cases hl2 : lightB ys with
  | false =>
    rw [hl] at HL1
    rw [hl2] at HL2
    rw [hn, hm, hq]
    clear hS hO hN hT hcap hcapn hmx hmy hmn hl hl2 hn hm hq
    go_enter Tryz.func3, Tryz.ntmps3
    go_wp2_with fail
    refine HL1.out.mono ?_
    rintro e w1 ⟨rfl, b1⟩
    have HB1 := Lib.hid b1
    clear b1
    go_wp2_with fail
    refine (HL2.out _ HB1.out).mono ?_
    rintro e w2 ⟨rfl, b2⟩
    have HB2 := Lib.hid (HB1.out.trans (b2.mono HB1.out.size))
    clear b2
    go_wp2_with fail
    refine (HAL.out _).mono ?_
    rintro e w3 ⟨rfl, b3⟩
    have HB3 := Lib.hid (HB2.out.trans (b3.mono HB2.out.size))
    clear b3
    go_wp2
    go_ret
    exact ⟨rfl, HB3.out⟩
  | true =>
  rw [hl] at HL1
  rw [hl2] at HL2
  by_cases h20 : 20 < ns.length
  · have i1 : (20 : Int) < q := by omega
    rw [hn, hm, hq]
    rw [hq] at hmn
    clear hS hO hN hT hcap hcapn hmx hmy hl hl2 hn hm hq h20
    go_enter Tryz.func3, Tryz.ntmps3
    go_wp2_with fail
    refine HL1.out.mono ?_
    rintro e w1 ⟨rfl, b1⟩
    have HB1 := Lib.hid b1
    clear b1
    go_wp2_with fail
    refine (HL2.out _ HB1.out).mono ?_
    rintro e w2 ⟨rfl, b2⟩
    have HB2 := Lib.hid (HB1.out.trans (b2.mono HB1.out.size))
    clear b2
    go_wp2_with fail
    refine (HAL.out _).mono ?_
    rintro e w3 ⟨rfl, b3⟩
    have HB3 := Lib.hid (HB2.out.trans (b3.mono HB2.out.size))
    clear b3
    go_wp2
    go_ret
    exact ⟨rfl, HB3.out⟩
  obtain ⟨hx20, hxs⟩ := light_small hl
  obtain ⟨hy20, _⟩ := light_small hl2
  have hn20 : ns.length ≤ 20 := by omega
  have hx6 : xs.length ≤ 1000000 := by omega
  have hn6 : ns.length ≤ 1000000 := by omega
  have hxb : ∀ x ∈ xs, x.1.size ≤ 281474976710656 ∧ x.2.size ≤ 281474976710656 := fun x hx => by have := hxs x hx; omega
  obtain ⟨nt, hnt⟩ : ∃ k, (tidyT xs).length = k := ⟨_, rfl⟩
  obtain ⟨na, hna⟩ : ∃ k, (xs.filter (inB ns)).length = k := ⟨_, rfl⟩
  obtain ⟨nb, hnb⟩ : ∃ k, (xs.filter (outB ns)).length = k := ⟨_, rfl⟩
  have hnt20 : nt ≤ 20 := by have := tidyT_len xs; omega
  have hna20 : na ≤ 20 := by have := List.length_filter_le (inB ns) xs; omega
  have hnb20 : nb ≤ 20 := by have := List.length_filter_le (outB ns) xs; omega
  obtain ⟨ok, hok⟩ : ∃ ok, tidyB xs = ok := ⟨_, rfl⟩
  obtain ⟨z, hz⟩ : ∃ z, cmpL xs ys = z := ⟨_, rfl⟩
  obtain ⟨sm, hsm⟩ : ∃ sm, sameL xs ys = sm := ⟨_, rfl⟩
  obtain ⟨rb, hrb⟩ : ∃ rb, rightB xs = rb := ⟨_, rfl⟩
  obtain ⟨tx, htx⟩ : ∃ tx : ByteArray, ⟨(textT xs).toArray⟩ = tx := ⟨_, rfl⟩
  have hzr := cmpL_range xs ys
  rw [hz] at hzr
  -- the calls
  have HLL := Lib.hid (fun W (h : Below w.heap.size w W) => (show Calls Tryz.prog 6 #[.slice o n cap] W fun e w' => (∃ g c, e = .returned (.slice (some ⟨g, 0, none⟩) n c) ∧ LentL w' g c xs) ∧ Below W.heap.size W w' by
    have := lentL_any o cap xs hx6 hcap W (hS.below h)
    rw [hn] at this; exact this))
  have HLT := Lib.hid (fun W (h : Below w.heap.size w W) => (show Calls Tryz.prog 7 #[.slice on q cn] W fun e w' => (∃ g c, e = .returned (.slice (some ⟨g, 0, none⟩) q c) ∧ Txt.Lent w' g c ns) ∧ Below W.heap.size W w' by
    have := Txt.lent_any on cn ns hn6 hcapn W (hT.below h)
    rw [hq] at this; exact this))
  have HRT := Lib.hid (fun W (h : Below w.heap.size w W) => (show Calls Tryz.prog 8 #[.slice o n cap] W fun e w' => (∃ o2 c2, e = .returned (.tuple #[.slice o2 nt c2, .bool ok]) ∧ SeesO w' o2 (tidyT xs)) ∧ Below W.heap.size W w' by
    have := rtidy_form o cap xs W hx6 (hS.below h) hxs
    rw [hn, hnt, hok] at this; exact this))
  have HTI := Lib.hid (fun W g c (h : LentL W g c xs) => (show Calls Tryz.prog 9 #[.slice (some ⟨g, 0, none⟩) n c] W fun e w' => (∃ o2 c2, e = .returned (.tuple #[.slice o2 nt c2, .int .i64 (tidyE ok)]) ∧ w'.ownsRow W.heap.size 56 2 (.slice o2 nt c2) nt (flatL (tidyT xs))) ∧ Below W.heap.size W w' by
    have := tidy_form (some ⟨g, 0, none⟩) c xs W hx6 h.sees hxs
    rw [hn, hnt, hok] at this; exact this))
  have HON := Lib.hid (fun W g c g2 c2 (h : LentL W g c xs) (h2 : Txt.Lent W g2 c2 ns) => (show Calls Tryz.prog 10 #[.slice (some ⟨g, 0, none⟩) n c, .slice (some ⟨g2, 0, none⟩) q c2] W fun e w' => (∃ o2 c3, e = .returned (.slice o2 na c3) ∧ w'.ownsRow W.heap.size 56 2 (.slice o2 na c3) na (flatL (xs.filter (inB ns)))) ∧ Below W.heap.size W w' by
    have := only_any (some ⟨g, 0, none⟩) (some ⟨g2, 0, none⟩) c c2 xs ns W hx6 hmn h.sees (Txt.SeesT.to h2.sees) hxb
    rw [hn, hq, hna] at this
    refine this.mono ?_
    rintro e w' ⟨⟨v, rfl, hv⟩, hb⟩
    rw [← hna] at hv
    obtain ⟨o2, c3, rfl, _, _⟩ := own_sees hv
    rw [hna] at hv ⊢
    exact ⟨⟨o2, c3, rfl, hv⟩, hb⟩))
  have HWI := Lib.hid (fun W g c g2 c2 (h : LentL W g c xs) (h2 : Txt.Lent W g2 c2 ns) => (show Calls Tryz.prog 11 #[.slice (some ⟨g, 0, none⟩) n c, .slice (some ⟨g2, 0, none⟩) q c2] W fun e w' => (∃ o2 c3, e = .returned (.slice o2 nb c3) ∧ w'.ownsRow W.heap.size 56 2 (.slice o2 nb c3) nb (flatL (xs.filter (outB ns)))) ∧ Below W.heap.size W w' by
    have := without_any (some ⟨g, 0, none⟩) (some ⟨g2, 0, none⟩) c c2 xs ns W hx6 hmn h.sees (Txt.SeesT.to h2.sees) hxb
    rw [hn, hq, hnb] at this
    refine this.mono ?_
    rintro e w' ⟨⟨v, rfl, hv⟩, hb⟩
    rw [← hnb] at hv
    obtain ⟨o2, c3, rfl, _, _⟩ := own_sees hv
    rw [hnb] at hv ⊢
    exact ⟨⟨o2, c3, rfl, hv⟩, hb⟩))
  have HPI := Lib.hid (fun W (h : Below w.heap.size w W) => (show Calls Tryz.prog 14 #[.slice o n cap, .slice on q cn, .bool true] W fun e w' => (∃ o2 c3, e = .returned (.slice o2 na c3) ∧ SeesO w' o2 (xs.filter (inB ns))) ∧ Below W.heap.size W w' by
    have := rpick_any o on cap cn xs ns true W hx6 hn6 (hS.below h) (hT.below h)
    rw [hn, hq, pick_in, hna] at this
    refine this.mono ?_
    rintro e w' ⟨⟨v, rfl, hv⟩, hb⟩
    rw [← hna] at hv
    obtain ⟨o2, c3, rfl, hs, _⟩ := own_sees hv
    rw [hna]
    exact ⟨⟨o2, c3, rfl, hs⟩, hb⟩))
  have HPO := Lib.hid (fun W (h : Below w.heap.size w W) => (show Calls Tryz.prog 14 #[.slice o n cap, .slice on q cn, .bool false] W fun e w' => (∃ o2 c3, e = .returned (.slice o2 nb c3) ∧ SeesO w' o2 (xs.filter (outB ns))) ∧ Below W.heap.size W w' by
    have := rpick_any o on cap cn xs ns false W hx6 hn6 (hS.below h) (hT.below h)
    rw [hn, hq, pick_out, hnb] at this
    refine this.mono ?_
    rintro e w' ⟨⟨v, rfl, hv⟩, hb⟩
    rw [← hnb] at hv
    obtain ⟨o2, c3, rfl, hs, _⟩ := own_sees hv
    rw [hnb]
    exact ⟨⟨o2, c3, rfl, hs⟩, hb⟩))
  have HSA := Lib.hid (fun W (X : List Lab) (k : Nat) (hk : X.length = k) (hk2 : k ≤ 20) o1 c1 o2 c2 (h1 : SeesO W o1 X) (h2 : SeesO W o2 X) => (show Calls Tryz.prog 13 #[.slice o1 k c1, .slice o2 k c2] W fun e w' => e = .returned (.bool true) ∧ Below W.heap.size W w' by
    have := sameLabels_any o1 o2 c1 c2 X X W (by unfold maxLen; omega) (by unfold maxLen; omega) h1 h2
    rw [hk, sameL_refl] at this; exact this))
  have HGE := Lib.hid (fun (nm : ByteArray) W g c (h : LentL W g c xs) => (show Calls Tryz.prog 15 #[.slice (some ⟨g, 0, none⟩) n c, .string nm] W fun e w' => e = .returned (.string (getL nm xs)) ∧ Below W.heap.size W w' by
    have := get_any (some ⟨g, 0, none⟩) c xs nm W hmx h.sees (fun x hx => (hxb x hx).2)
    rw [hn] at this; exact this))
  have HRG := Lib.hid (fun (nm : ByteArray) W (h : Below w.heap.size w W) => (show Calls Tryz.prog 16 #[.slice o n cap, .string nm] W fun e w' => e = .returned (.string (getL nm xs)) ∧ W = w' by
    have := rget_any o cap xs nm W hmx (hS.below h)
    rw [hn] at this; exact this))
  have HC1 := Lib.hid (fun W (h : Below w.heap.size w W) => (show Calls Tryz.prog 17 #[.slice o n cap, .slice oo m co] W fun e w' => e = .returned (.int .i64 z) ∧ Below W.heap.size W w' by
    have := rcompare_any o oo cap co xs ys W hmx hmy (hS.below h) (hO.below h)
    rw [hn, hm, hz] at this; exact this))
  have HC2 := Lib.hid (fun W g c (hL : LentL W g c xs) (h : Below w.heap.size w W) => (show Calls Tryz.prog 18 #[.slice (some ⟨g, 0, none⟩) n c, .slice oo m co] W fun e w' => e = .returned (.int .i64 z) ∧ Below W.heap.size W w' by
    have := compare_any (some ⟨g, 0, none⟩) oo c co xs ys W hmx hmy hL.sees (hO.below h)
    rw [hn, hm, hz] at this; exact this))
  have HC3 := Lib.hid (fun W g c (hL : LentL W g c xs) (h : Below w.heap.size w W) => (show Calls Tryz.prog 18 #[.slice oo m co, .slice (some ⟨g, 0, none⟩) n c] W fun e w' => e = .returned (.int .i64 (-z)) ∧ Below W.heap.size W w' by
    have := compare_any oo (some ⟨g, 0, none⟩) co c ys xs W hmy hmx (hO.below h) hL.sees
    rw [hn, hm, cmpL_swap, hz] at this; exact this))
  have HS1 := Lib.hid (fun W g c (hL : LentL W g c xs) (h : Below w.heap.size w W) => (show Calls Tryz.prog 19 #[.slice (some ⟨g, 0, none⟩) n c, .slice oo m co] W fun e w' => e = .returned (.bool sm) ∧ Below W.heap.size W w' by
    have := same_any (some ⟨g, 0, none⟩) oo c co xs ys W hmx hmy hL.sees (hO.below h)
    rw [hn, hm, hsm] at this; exact this))
  have HS2 := Lib.hid (fun W (h : Below w.heap.size w W) => (show Calls Tryz.prog 13 #[.slice o n cap, .slice oo m co] W fun e w' => e = .returned (.bool sm) ∧ Below W.heap.size W w' by
    have := sameLabels_any o oo cap co xs ys W hmx hmy (hS.below h) (hO.below h)
    rw [hn, hm, hsm] at this; exact this))
  have HR1 := Lib.hid (fun W g c (hL : LentL W g c xs) => (show Calls Tryz.prog 20 #[.slice (some ⟨g, 0, none⟩) n c] W fun e w' => e = .returned (.bool rb) ∧ Below W.heap.size W w' by
    have := right_any (some ⟨g, 0, none⟩) c xs W hmx hL.sees
    rw [hn, hrb] at this; exact this))
  have HR2 := Lib.hid (fun W (h : Below w.heap.size w W) => (show Calls Tryz.prog 21 #[.slice o n cap] W fun e w' => e = .returned (.bool rb) ∧ Below W.heap.size W w' by
    have := rright_any o cap xs W hx6 (hS.below h) hxs
    rw [hn, hrb] at this; exact this))
  have HT1 := Lib.hid (fun W g c (hL : LentL W g c xs) => (show Calls Tryz.prog 22 #[.slice (some ⟨g, 0, none⟩) n c] W fun e w' => e = .returned (.string tx) ∧ Below W.heap.size W w' by
    have := text_any (some ⟨g, 0, none⟩) c xs W hx6 hL.sees hxs
    rw [hn, htx] at this; exact this))
  have HT2 := Lib.hid (fun W (h : Below w.heap.size w W) => (show Calls Tryz.prog 23 #[.slice o n cap] W fun e w' => e = .returned (.string tx) ∧ Below W.heap.size W w' by
    have := rtext_any o cap xs W hx6 (hS.below h) hxs
    rw [hn, htx] at this; exact this))
  have HY1 := Lib.hid (fun W g c (hL : LentL W g c xs) (h : Below w.heap.size w W) => (show Calls Tryz.prog 24 #[.slice (some ⟨g, 0, none⟩) n c, .slice o n cap] W fun e w' => e = .returned (.bool true) ∧ Below W.heap.size W w' by
    have := staysL_any g c o cap xs hx6 W hL (hS.below h)
    rw [hn] at this; exact this))
  have HY2 := Lib.hid (fun W g c (hL : Txt.Lent W g c ns) (h : Below w.heap.size w W) => (show Calls Tryz.prog 25 #[.slice (some ⟨g, 0, none⟩) q c, .slice on q cn] W fun e w' => e = .returned (.bool true) ∧ Below W.heap.size W w' by
    have := Txt.stays_any g c on cn ns hn6 W hL (hT.below h)
    rw [hq] at this; exact this))
  have HNT := Lib.hid hnt
  have HNA := Lib.hid hna
  have HNB := Lib.hid hnb
  have HQ := Lib.hid hq
  have HT0 := Lib.hid hT
  have i1 : (q : Int) ≤ 20 := by omega
  have i2 : n ≤ 20 := by omega
  have i3 : m ≤ 20 := by omega
  rw [hn, hm, hq]
  clear hS hO hN hT hcap hcapn hmx hmy hmn hl hl2 hn hm hq h20 hx20 hxs hy20 hn20 hx6 hn6 hxb hnt hna hnb hok hz hsm hrb htx
  go_enter Tryz.func3, Tryz.ntmps3
  go_wp2_with fail
  refine HL1.out.mono ?_
  rintro e w1 ⟨rfl, b1⟩
  have HB1 := Lib.hid b1
  clear b1
  go_wp2_with fail
  refine (HL2.out _ HB1.out).mono ?_
  rintro e w2 ⟨rfl, b2⟩
  have HB2 := Lib.hid (HB1.out.trans (b2.mono HB1.out.size))
  clear b2 HB1
  go_wp2_with fail
  refine (HAL.out _).mono ?_
  rintro e w3 ⟨rfl, b3⟩
  have HB3 := Lib.hid (HB2.out.trans (b3.mono HB2.out.size))
  clear b3 HB2
  go_wp2
  go_loop [7] (fun v7 => ∃ k : Nat, v7 = .int .i64 k ∧ k ≤ q) (fun v7 => q - (intOf v7).toNat)
  case atStart => exact ⟨0, rfl, Nat.zero_le _⟩
  case round =>
    obtain ⟨k, rfl, hk⟩ := hrel
    by_cases hkq : k < q
    · have j1 : (k : Int) < q := by omega
      obtain ⟨y, hy⟩ := Txt.get_at HQ.out hkq
      obtain ⟨b, off, rfl, d0⟩ := (HT0.out.below HB3.out).at hy
      clear hy
      by_cases h200 : 200 < y.size
      · have j2 : (200 : Int) < y.size := by omega
        go_wp2
        go_ret
        exact ⟨rfl, HB3.out⟩
      · have j2 : ¬ ((200 : Int) < y.size) := by omega
        go_wp2
        go_round
        case rel => exact ⟨k + 1, by go_num, by omega⟩
        case measure => simp [intOf]; omega
    · have j1 : (q : Int) ≤ k := by omega
      clear HL1 HL2 HAL
      go_wp2_with fail
      refine (HLL.out _ HB3.out).mono ?_
      rintro e w4 ⟨⟨g, c, rfl, hl⟩, b⟩
      have HB4 := Lib.hid (HB3.out.trans (b.mono HB3.out.size))
      have HG4 := Lib.hid hl
      clear b hl HB3
      go_wp2_with fail
      refine (HLT.out _ HB4.out).mono ?_
      rintro e w5 ⟨⟨g2, c2, rfl, hl⟩, b⟩
      have HB5 := Lib.hid (HB4.out.trans (b.mono HB4.out.size))
      have HG5 := Lib.hid (HG4.out.below b)
      have HH5 := Lib.hid hl
      clear b hl HB4 HG4
      go_wp2_with fail
      refine (HRT.out _ HB5.out).mono ?_
      rintro e WF ⟨⟨o2, c3, rfl, hs⟩, b⟩
      have HBF := Lib.hid (HB5.out.trans (b.mono HB5.out.size))
      have HGF := Lib.hid (HG5.out.below b)
      have HHF := Lib.hid (HH5.out.below b)
      have HRF := Lib.hid hs
      clear b hs HB5 HG5 HH5 HLL HLT HRT
      have HLo := Lib.hid (fun W (h : Below WF.heap.size WF W) => HBF.out.trans (h.mono HBF.out.size))
      have HTI := Lib.hid (fun W (h : Below WF.heap.size WF W) => HTI.out W g c (HGF.out.below h))
      have HON := Lib.hid (fun W (h : Below WF.heap.size WF W) => HON.out W g c g2 c2 (HGF.out.below h) (HHF.out.below h))
      have HWI := Lib.hid (fun W (h : Below WF.heap.size WF W) => HWI.out W g c g2 c2 (HGF.out.below h) (HHF.out.below h))
      have HPI := Lib.hid (fun W (h : Below WF.heap.size WF W) => HPI.out W (HLo.out W h))
      have HPO := Lib.hid (fun W (h : Below WF.heap.size WF W) => HPO.out W (HLo.out W h))
      have HGE := Lib.hid (fun nm W (h : Below WF.heap.size WF W) => HGE.out nm W g c (HGF.out.below h))
      have HRG := Lib.hid (fun nm W (h : Below WF.heap.size WF W) => HRG.out nm W (HLo.out W h))
      have HC1 := Lib.hid (fun W (h : Below WF.heap.size WF W) => HC1.out W (HLo.out W h))
      have HC2 := Lib.hid (fun W (h : Below WF.heap.size WF W) => HC2.out W g c (HGF.out.below h) (HLo.out W h))
      have HC3 := Lib.hid (fun W (h : Below WF.heap.size WF W) => HC3.out W g c (HGF.out.below h) (HLo.out W h))
      have HS1 := Lib.hid (fun W (h : Below WF.heap.size WF W) => HS1.out W g c (HGF.out.below h) (HLo.out W h))
      have HS2 := Lib.hid (fun W (h : Below WF.heap.size WF W) => HS2.out W (HLo.out W h))
      have HR1 := Lib.hid (fun W (h : Below WF.heap.size WF W) => HR1.out W g c (HGF.out.below h))
      have HR2 := Lib.hid (fun W (h : Below WF.heap.size WF W) => HR2.out W (HLo.out W h))
      have HT1 := Lib.hid (fun W (h : Below WF.heap.size WF W) => HT1.out W g c (HGF.out.below h))
      have HT2 := Lib.hid (fun W (h : Below WF.heap.size WF W) => HT2.out W (HLo.out W h))
      have HY1 := Lib.hid (fun W (h : Below WF.heap.size WF W) => HY1.out W g c (HGF.out.below h) (HLo.out W h))
      have HY2 := Lib.hid (fun W (h : Below WF.heap.size WF W) => HY2.out W g2 c2 (HHF.out.below h) (HLo.out W h))
      have HTN := Lib.hid (fun W (h : Below WF.heap.size WF W) => HT0.out.below (HLo.out W h))
      have HRE := Lib.hid (fun W (h : Below WF.heap.size WF W) => HRF.out.below h)
      clear HT0
      go_wp2
      go_loopw [13] (fun v13 wr => ∃ k : Nat, v13 = .int .i64 k ∧ k ≤ 2 ∧ Hid (Bk WF.heap.size wr (3 * k)) ∧ Hid (Below WF.heap.size WF wr)) (fun v13 _ => 2 - (intOf v13).toNat)
      case atStart => exact ⟨0, rfl, Nat.zero_le _, Lib.hid (bk_start WF), Lib.hid ((Below.refl _ _).alloc (Nat.le_refl _) _)⟩
      case round =>
        obtain ⟨p, rfl, hp, HK0, HB0⟩ := hrel
        by_cases hp2 : p < 2
        · have j3 : (p : Int) < 2 := by omega
          clear HGE HRG HC1 HC2 HC3 HS1 HS2 HR1 HR2 HT1 HT2 HY1 HY2 HTN
          obtain ⟨w0, rfl⟩ : ∃ w0 : World, w0 = wr := ⟨_, rfl⟩
          go_wp2_with fail
          refine (HTI.out _ HB0.out).mono ?_
          rintro e w1 ⟨⟨o3, c4, rfl, ht⟩, b1⟩
          have HB1 := Lib.hid (HB0.out.trans (b1.mono HB0.out.size))
          have HT1 := Lib.hid ht
          have HS1 := Lib.hid b1
          clear b1 ht
          go_wp2_with fail
          refine (HON.out _ HB1.out).mono ?_
          rintro e w2 ⟨⟨o4, c5, rfl, ha⟩, b2⟩
          have HB2 := Lib.hid (HB1.out.trans (b2.mono HB1.out.size))
          have HT2 := Lib.hid (own_grown HT1.out b2)
          have HA2 := Lib.hid ha
          have HS2 := Lib.hid (HS1.out.trans (b2.mono HS1.out.size))
          have HZ2 := Lib.hid b2.size
          clear b2 ha HB1
          go_wp2_with fail
          refine (HWI.out _ HB2.out).mono ?_
          rintro e w3 ⟨⟨o5, c6, rfl, hb⟩, b3⟩
          have HB3 := Lib.hid (HB2.out.trans (b3.mono HB2.out.size))
          have HT3 := Lib.hid (own_grown HT2.out b3)
          have HA3 := Lib.hid (own_grown HA2.out b3)
          have HC3 := Lib.hid hb
          have HS3 := Lib.hid (HS2.out.trans (b3.mono HS2.out.size))
          have HZ3 := Lib.hid b3.size
          clear b3 hb HB2
          have q1 := HS1.out.size
          have q2 := HZ2.out
          have q3 := HZ3.out
          have q0 := HB0.out.size
          have HK3 := Lib.hid (HK0.out.before (Nat.le_refl _) HS3.out)
          have HTb := Lib.hid (fun b e => (HT1.out.lt b e).2)
          have HAg := Lib.hid (fun b e => (HA2.out.lt b e).1)
          have HAb := Lib.hid (fun b e => (HA2.out.lt b e).2)
          have HCg := Lib.hid (fun b e => (HC3.out.lt b e).1)
          have HCb := Lib.hid (fun b e => (HC3.out.lt b e).2)
          go_wp2_with fail
          refine (book_keep HNT.out HK3.out (by omega) q0 HT3.out (by omega) (by omega) q1 HTb.out).mono ?_
          rintro e w4 ⟨rfl, hk4, b4, f4⟩
          have HB4 := Lib.hid (HB3.out.trans b4)
          have HK4 := Lib.hid hk4
          have q4 := b4.size
          have HT4 := Lib.hid (f4 _ _ _ (own_mono HT3.out q0))
          have HA4 := Lib.hid (f4 _ _ _ (own_mono HA3.out (by omega)))
          have HC4 := Lib.hid (f4 _ _ _ (own_mono HC3.out (by omega)))
          clear hk4 b4 f4 HK3
          go_wp2_with fail
          refine (book_keep HNA.out HK4.out (by omega) (by omega) (own_raise HA4.out HAg.out) (by omega) (by omega) q2 HAb.out).mono ?_
          rintro e w5 ⟨rfl, hk5, b5, f5⟩
          have HB5 := Lib.hid (HB4.out.trans b5)
          have HK5 := Lib.hid hk5
          have q5 := b5.size
          have HT5 := Lib.hid (f5 _ _ _ HT4.out)
          have HA5 := Lib.hid (f5 _ _ _ HA4.out)
          have HC5 := Lib.hid (f5 _ _ _ HC4.out)
          clear hk5 b5 f5 HK4
          go_wp2_with fail
          refine (book_keep HNB.out HK5.out (by omega) (by omega) (own_raise HC5.out HCg.out) (by omega) (by omega) q3 HCb.out).mono ?_
          rintro e w6 ⟨rfl, hk6, b6, f6⟩
          have HB6 := Lib.hid (HB5.out.trans b6)
          have q6 := b6.size
          have HX6 := Lib.hid (show St WF w6 (3 * p + 1 + 1 + 1) (.slice o3 nt c4) (.slice o4 na c5) (.slice o5 nb c6) nt na nb (tidyT xs) (xs.filter (inB ns)) (xs.filter (outB ns)) from ⟨hk6.to (by omega), f6 _ _ _ HT5.out, f6 _ _ _ HA5.out, f6 _ _ _ HC5.out⟩)
          clear hk6 b6 f6 HK5 HT1 HT2 HT3 HT4 HT5 HA2 HA3 HA4 HA5 HC3 HC4 HC5 HTb HAg HAb HCg HCb HS1 HS2 HS3 HZ2 HZ3 HB0 HB3 HB4 HB5 HK0 q0 q1 q2 q3 q4 q5 q6 HTI HON HWI
          cases ok
          all_goals
            unfold tidyE
            go_wp2_with fail
            refine (HSA.out w6 (tidyT xs) nt HNT.out hnt20 o3 c4 o2 c3 (sees_own HNT.out HX6.out.t) (HRE.out w6 HB6.out)).mono ?_
            rintro e w7 ⟨rfl, b⟩
            have HB7 := Lib.hid (HB6.out.trans (b.mono HB6.out.size))
            have HX7 := Lib.hid (HX6.out.below b)
            clear b
            go_wp2_with fail
            refine (HPI.out w7 HB7.out).mono ?_
            rintro e w8 ⟨⟨o6, c7, rfl, hs⟩, b⟩
            have HB8 := Lib.hid (HB7.out.trans (b.mono HB7.out.size))
            have HX8 := Lib.hid (HX7.out.below b)
            have HP8 := Lib.hid hs
            clear b hs
            go_wp2_with fail
            refine (HSA.out w8 (xs.filter (inB ns)) na HNA.out hna20 o4 c5 o6 c7 (sees_own HNA.out HX8.out.a) HP8.out).mono ?_
            rintro e w9 ⟨rfl, b⟩
            have HB9 := Lib.hid (HB8.out.trans (b.mono HB8.out.size))
            have HX9 := Lib.hid (HX8.out.below b)
            clear b
            go_wp2_with fail
            refine (HPO.out w9 HB9.out).mono ?_
            rintro e w10 ⟨⟨o7, c8, rfl, hs⟩, b⟩
            have HB10 := Lib.hid (HB9.out.trans (b.mono HB9.out.size))
            have HX10 := Lib.hid (HX9.out.below b)
            have HP10 := Lib.hid hs
            clear b hs
            go_wp2_with fail
            refine (HSA.out w10 (xs.filter (outB ns)) nb HNB.out hnb20 o5 c6 o7 c8 (sees_own HNB.out HX10.out.b) HP10.out).mono ?_
            rintro e w11 ⟨rfl, b⟩
            have HB11 := Lib.hid (HB10.out.trans (b.mono HB10.out.size))
            have HX11 := Lib.hid (HX10.out.below b)
            clear b
            have HK11 := Lib.hid (show Bk WF.heap.size w11 (3 * (p + 1)) from HX11.out.bk)
            clear HX6 HX7 HX8 HX9 HX10 HX11 HP8 HP10 HB6 HB7 HB8 HB9 HB10
            go_wp2
            go_roundw
            case rel => exact ⟨p + 1, by go_num, by omega, HK11, HB11⟩
            case measure => simp [intOf]; omega
        · obtain rfl : p = 2 := by omega
          have j3 : ¬ (((2 : Nat) : Int) < 2) := by omega
          clear HTI HON HWI HPI HPO HSA HRE HNT HNA HNB hnt20 hna20 hnb20
          go_wp2
          go_loopw [18] (fun v18 wr => ∃ j : Nat, v18 = .int .i64 j ∧ j ≤ q ∧ Hid (Bk WF.heap.size wr (3 * 2)) ∧ Hid (Below WF.heap.size WF wr)) (fun v18 _ => q - (intOf v18).toNat)
          case atStart => exact ⟨0, rfl, Nat.zero_le _, HK0, HB0⟩
          case round =>
            obtain ⟨j, rfl, hj, HK1, HB1⟩ := hrel
            by_cases hjq : j < q
            · have j4 : (j : Int) < q := by omega
              obtain ⟨y, hy⟩ := Txt.get_at HQ.out hjq
              obtain ⟨b, off, rfl, _⟩ := (HTN.out _ HB1.out).at hy
              have CX := Lib.hid (fun W (h : Below wr.heap.size wr W) => (show W.cell? ⟨b, off + j, none⟩ = some (.string y) by
                obtain ⟨b', off', e, hc⟩ := (HTN.out W (HB1.out.trans (h.mono HB1.out.size))).at hy
                cases e; exact hc))
              have HB1s := Lib.hid HB1.out.size
              have BD := Lib.hid (show Below wr.heap.size wr wr.drew from (Below.refl _ _).drew)
              have cX := CX.out wr.drew BD.out
              obtain ⟨G, hG⟩ : ∃ G, getL y xs = G := ⟨_, rfl⟩
              have HG1 := Lib.hid (fun W (h : Below wr.heap.size wr W) => HGE.out y W (HB1.out.trans (h.mono HB1.out.size)))
              have HG2 := Lib.hid (fun W (h : Below wr.heap.size wr W) => HRG.out y W (HB1.out.trans (h.mono HB1.out.size)))
              rw [hG] at HG1 HG2
              clear hG hy HC1 HC2 HC3 HS1 HS2 HR1 HR2 HT1 HT2 HY1 HY2
              go_wp2
              go_region_held3 (fun w' => w'.cell? ⟨b, off + j, none⟩ = some (.string y)) (first | exact cX | exact cQ) (first
                | (go_at_call 15
                   refine (HG1.out _ BD.out).mono ?_
                   rintro e wq ⟨rfl, bq⟩
                   have BQ := Lib.hid (BD.out.trans (bq.mono BD.out.size))
                   have cQ := CX.out wq BQ.out
                   clear bq)
                | (go_at_call 16
                   refine (HG2.out _ (by first | exact BQ.out | exact BD.out)).mono ?_
                   rintro e wp ⟨rfl, rfl⟩))
              all_goals
                have HB2 := Lib.hid (HB1.out.trans (BQ.out.mono HB1s.out))
                have HK2 := Lib.hid (HK1.out.below BQ.out)
                go_wp2
                go_roundw
                case rel => exact ⟨j + 1, by go_num, by omega, HK2, HB2⟩
                case measure => simp [intOf]; omega
            · have j4 : (q : Int) ≤ j := by omega
              have i5 : IntKind.i64.wrap (-z) = -z := by rw [IntKind.wrap_i64]; omega
              clear HGE HRG HTN HK0 HB0
              go_wp2_with fail
              refine (HC1.out _ HB1.out).mono ?_
              rintro e w2 ⟨rfl, b⟩
              have HB2 := Lib.hid (HB1.out.trans (b.mono HB1.out.size))
              have HK2 := Lib.hid (HK1.out.below b)
              clear b HB1 HK1
              go_wp2_with fail
              refine (HC2.out _ HB2.out).mono ?_
              rintro e w3 ⟨rfl, b⟩
              have HB3 := Lib.hid (HB2.out.trans (b.mono HB2.out.size))
              have HK3 := Lib.hid (HK2.out.below b)
              clear b HB2 HK2
              go_wp2_with fail
              refine (HC3.out _ HB3.out).mono ?_
              rintro e w4 ⟨rfl, b⟩
              have HB4 := Lib.hid (HB3.out.trans (b.mono HB3.out.size))
              have HK4 := Lib.hid (HK3.out.below b)
              clear b HB3 HK3
              go_wp2_with fail
              refine (HS1.out _ HB4.out).mono ?_
              rintro e w5 ⟨rfl, b⟩
              have HB5 := Lib.hid (HB4.out.trans (b.mono HB4.out.size))
              have HK5 := Lib.hid (HK4.out.below b)
              clear b HB4 HK4
              go_wp2_with fail
              refine (HS2.out _ HB5.out).mono ?_
              rintro e w6 ⟨rfl, b⟩
              have HB6 := Lib.hid (HB5.out.trans (b.mono HB5.out.size))
              have HK6 := Lib.hid (HK5.out.below b)
              clear b HB5 HK5
              go_wp2_with fail
              refine (HR1.out _ HB6.out).mono ?_
              rintro e w7 ⟨rfl, b⟩
              have HB7 := Lib.hid (HB6.out.trans (b.mono HB6.out.size))
              have HK7 := Lib.hid (HK6.out.below b)
              clear b HB6 HK6
              go_wp2_with fail
              refine (HR2.out _ HB7.out).mono ?_
              rintro e w8 ⟨rfl, b⟩
              have HB8 := Lib.hid (HB7.out.trans (b.mono HB7.out.size))
              have HK8 := Lib.hid (HK7.out.below b)
              clear b HB7 HK7
              go_wp2_with fail
              refine (HT1.out _ HB8.out).mono ?_
              rintro e w9 ⟨rfl, b⟩
              have HB9 := Lib.hid (HB8.out.trans (b.mono HB8.out.size))
              have HK9 := Lib.hid (HK8.out.below b)
              clear b HB8 HK8
              go_wp2_with fail
              refine (HT2.out _ HB9.out).mono ?_
              rintro e w10 ⟨rfl, b⟩
              have HB10 := Lib.hid (HB9.out.trans (b.mono HB9.out.size))
              have HK10 := Lib.hid (HK9.out.below b)
              clear b HB9 HK9
              go_wp2_with fail
              refine (HY1.out _ HB10.out).mono ?_
              rintro e w11 ⟨rfl, b⟩
              have HB11 := Lib.hid (HB10.out.trans (b.mono HB10.out.size))
              have HK11 := Lib.hid (HK10.out.below b)
              clear b HB10 HK10
              go_wp2_with fail
              refine (HY2.out _ HB11.out).mono ?_
              rintro e w12 ⟨rfl, b⟩
              have HB12 := Lib.hid (HB11.out.trans (b.mono HB11.out.size))
              have HK12 := Lib.hid (HK11.out.below b)
              clear b HB11 HK11
              go_wp2_with fail
              refine (book_apart HK12.out HB12.out (Nat.le_refl _)).mono ?_
              rintro e w13 ⟨rfl, b⟩
              have HB13 := Lib.hid (HBF.out.trans (b.mono HBF.out.size))
              clear b
              go_wp2
              go_ret
              exact ⟨by first | rfl | simp, HB13.out⟩
end Go.Proofs.YtiopnccmhocaaaaGreat
