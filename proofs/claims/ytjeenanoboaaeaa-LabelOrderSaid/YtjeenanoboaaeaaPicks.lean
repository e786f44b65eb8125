/- The walk of the statement on labels that are picked. -/
import Derived.Test.YtjeenanoboaaeaaLl
namespace Go.Proofs.Ytjeenanoboaaeaa
open Go.RowKit

theorem light_sizes {xs : List Lab} (h : lightB xs = true) : xs.length ≤ 20 ∧ ∀ x ∈ xs, x.1.size ≤ 200 ∧ x.2.size ≤ 200 := by
  unfold lightB at h
  rw [Bool.and_eq_true, decide_eq_true_eq] at h
  have hl : xs.length ≤ 20 := by omega
  refine ⟨hl, fun x hx => ?_⟩
  have h1 := h.1
  rw [List.take_of_length_le (by omega), List.all_eq_true] at h1
  have := h1 x hx
  simp [shortB] at this
  omega
theorem sameL_refl : ∀ xs : List Lab, sameL xs xs = true
  | [] => rfl
  | x :: xs => by simp [sameL, eqB, sameL_refl xs]
theorem small_sizes {xs : List Lab} (h : ∀ x ∈ xs, x.1.size ≤ 200 ∧ x.2.size ≤ 200) : ∀ x ∈ xs, x.1.size ≤ 281474976710656 ∧ x.2.size ≤ 281474976710656 := fun x hx => by have := h x hx; omega
theorem in_in (ns : List ByteArray) (xs : List Lab) : (xs.filter (inB ns)).filter (inB ns) = xs.filter (inB ns) := by rw [List.filter_filter]; congr 1; funext x; simp
theorem out_out (ns : List ByteArray) (xs : List Lab) : (xs.filter (outB ns)).filter (outB ns) = xs.filter (outB ns) := by rw [List.filter_filter]; congr 1; funext x; simp
theorem in_out (ns : List ByteArray) (xs : List Lab) : (xs.filter (outB ns)).filter (inB ns) = [] := by
  rw [List.filter_filter, List.filter_eq_nil_iff]; intro x _; simp [inB, outB]
theorem out_in (ns : List ByteArray) (xs : List Lab) : (xs.filter (inB ns)).filter (outB ns) = [] := by
  rw [List.filter_filter, List.filter_eq_nil_iff]; intro x _; simp [inB, outB]
theorem in_nil (xs : List Lab) : xs.filter (inB []) = [] := by
  rw [List.filter_eq_nil_iff]; intro x _; simp [inB, Lib.containsS, Lib.idxOfS, Lib.idxFromS]
theorem out_nil (xs : List Lab) : xs.filter (outB []) = xs := by
  rw [List.filter_eq_self]; intro x _; simp [outB, Lib.containsS, Lib.idxOfS, Lib.idxFromS]
theorem both_len (ns : List ByteArray) (xs : List Lab) : (xs.filter (inB ns)).length + (xs.filter (outB ns)).length = xs.length := by
  induction xs with
  | nil => rfl
  | cons x xs ih =>
    have e1 : outB ns x = !inB ns x := rfl
    rw [List.filter_cons, List.filter_cons, e1]
    cases inB ns x <;> simp <;> omega

/-- What every call of this law leaves as it was. -/
structure St (w0 W : World) (o on : Option Addr) (xs : List Lab) (ns : List ByteArray) : Prop where
  low : Below w0.heap.size w0 W
  l : SeesO W o xs
  n : SeesN W on ns
theorem St.below {w0 W W' : World} {o on : Option Addr} {xs : List Lab} {ns : List ByteArray} (h : St w0 W o on xs ns) (hb : Below W.heap.size W W') : St w0 W' o on xs ns :=
  ⟨h.low.trans (hb.mono h.low.size), h.l.below hb, h.n.below hb⟩

/-- Only, for one who goes on with what it leaves. -/
theorem only_sees (o' on : Option Addr) (c' cn ny m nr : Nat) (ys rs : List Lab) (ns : List ByteArray) (W : World) (h1 : ys.length = ny) (h2 : ns.length = m) (h3 : ys.filter (inB ns) = rs) (h4 : rs.length = nr) (h5 : ny ≤ 1000) (h6 : m ≤ 1000) (h7 : SeesO W o' ys) (h8 : SeesN W on ns) (h9 : ∀ x ∈ ys, x.1.size ≤ 200 ∧ x.2.size ≤ 200) :
    Calls Try.prog 13 #[.slice o' ny c', .slice on m cn] W fun e w' => (∃ oa ca, e = .returned (.slice oa nr ca) ∧ SeesO w' oa rs) ∧ Below W.heap.size W w' := by
  have h := only_any o' on c' cn ys ns W (by omega) (by unfold maxLen; omega) h7 h8 (small_sizes h9)
  rw [h1, h2, h3] at h
  refine h.mono ?_
  rintro e w' ⟨⟨v, rfl, ho⟩, hb⟩
  obtain ⟨oa, ca, rfl, hs, _⟩ := own_sees ho
  rw [h4]
  exact ⟨⟨oa, ca, rfl, hs⟩, hb⟩
theorem without_sees (o' on : Option Addr) (c' cn ny m nr : Nat) (ys rs : List Lab) (ns : List ByteArray) (W : World) (h1 : ys.length = ny) (h2 : ns.length = m) (h3 : ys.filter (outB ns) = rs) (h4 : rs.length = nr) (h5 : ny ≤ 1000) (h6 : m ≤ 1000) (h7 : SeesO W o' ys) (h8 : SeesN W on ns) (h9 : ∀ x ∈ ys, x.1.size ≤ 200 ∧ x.2.size ≤ 200) :
    Calls Try.prog 14 #[.slice o' ny c', .slice on m cn] W fun e w' => (∃ oa ca, e = .returned (.slice oa nr ca) ∧ SeesO w' oa rs) ∧ Below W.heap.size W w' := by
  have h := without_any o' on c' cn ys ns W (by omega) (by unfold maxLen; omega) h7 h8 (small_sizes h9)
  rw [h1, h2, h3] at h
  refine h.mono ?_
  rintro e w' ⟨⟨v, rfl, ho⟩, hb⟩
  obtain ⟨oa, ca, rfl, hs, _⟩ := own_sees ho
  rw [h4]
  exact ⟨⟨oa, ca, rfl, hs⟩, hb⟩
theorem same_sees (o1 o2 : Option Addr) (c1 c2 n : Nat) (xs : List Lab) (W : World) (h1 : xs.length = n) (h2 : n ≤ 1000) (h3 : SeesO W o1 xs) (h4 : SeesO W o2 xs) :
    Calls Try.prog 15 #[.slice o1 n c1, .slice o2 n c2] W fun e w' => e = .returned (.bool true) ∧ Below W.heap.size W w' := by
  have h := same_any o1 o2 c1 c2 xs xs W (by unfold maxLen; omega) (by unfold maxLen; omega) h3 h4
  rwa [h1, sameL_refl] at h

set_option maxHeartbeats 8000000 in
set_option maxRecDepth 100000 in
theorem picks_any (o on : Option Addr) (cap cn : Nat) (xs : List Lab) (ns : List ByteArray) (w : World) (hm : xs.length ≤ maxLen) (hmn : ns.length ≤ maxLen) (hS : SeesO w o xs) (hN : SeesN w on ns) :
    Calls Try.prog 5 #[.slice o xs.length cap, .slice on ns.length cn] w fun e w' => e = .returned (.bool true) ∧ Below w.heap.size w w' := by
  have HAL := Lib.hid (fun W => alive_any W)
  have HLI := Lib.hid (light_any o cap xs w hm hS)
  obtain ⟨n, hn⟩ : ∃ n, xs.length = n := ⟨_, rfl⟩
  obtain ⟨m, hm'⟩ : ∃ m, ns.length = m := ⟨_, rfl⟩
  have HN := Lib.hid hn
  have HM := Lib.hid hm'
  rw [hn] at HLI ⊢
  rw [hm'] at hmn ⊢
  clear hn hm' hm
  unfold maxLen at hmn
  cases hli : lightB xs with
  | false =>
    rw [hli] at HLI
    clear hli hS hN
    go_enter Try.func5, Try.ntmps5
    go_wp2_with fail
    refine HLI.out.mono ?_
    rintro e w1 ⟨rfl, b1⟩
    go_wp2_with fail
    refine (HAL.out _).mono ?_
    rintro e w2 ⟨rfl, b2⟩
    go_wp2
    go_ret
    exact ⟨rfl, b1.trans (b2.mono b1.size)⟩
  | true =>
    rw [hli] at HLI
    obtain ⟨hx20, hxs⟩ := light_sizes hli
    have HXS := Lib.hid hxs
    have hn20 : n ≤ 20 := by rw [← HN.out]; exact hx20
    have HS0 := Lib.hid (show St w w o on xs ns from ⟨Below.refl _ _, hS, hN⟩)
    clear hli hS hN hxs hx20
    by_cases h10 : 10 < m
    · have t1 : decide ((10 : Int) < m) = true := by simp; omega
      have i1 : (10 : Int) < m := by omega
      go_enter Try.func5, Try.ntmps5
      go_wp2_with fail
      refine HLI.out.mono ?_
      rintro e w1 ⟨rfl, b1⟩
      go_wp2_with fail
      refine (HAL.out _).mono ?_
      rintro e w2 ⟨rfl, b2⟩
      go_wp2
      go_ret
      exact ⟨rfl, b1.trans (b2.mono b1.size)⟩
    · have t1 : decide ((10 : Int) < m) = false := by simp; omega
      have i1 : (m : Int) ≤ 10 := by omega
      obtain ⟨A, hA⟩ : ∃ A, xs.filter (inB ns) = A := ⟨_, rfl⟩
      obtain ⟨B, hB⟩ : ∃ B, xs.filter (outB ns) = B := ⟨_, rfl⟩
      obtain ⟨na, hna⟩ : ∃ na, A.length = na := ⟨_, rfl⟩
      obtain ⟨nb, hnb⟩ : ∃ nb, B.length = nb := ⟨_, rfl⟩
      have hab : na + nb = n := by rw [← hna, ← hnb, ← hA, ← hB, both_len, HN.out]
      have HAA := Lib.hid (show A.filter (inB ns) = A ∧ A.filter (outB ns) = [] by rw [← hA]; exact ⟨in_in ns xs, out_in ns xs⟩)
      have HBB := Lib.hid (show B.filter (outB ns) = B ∧ B.filter (inB ns) = [] by rw [← hB]; exact ⟨out_out ns xs, in_out ns xs⟩)
      have HAS := Lib.hid (show ∀ x ∈ A, x.1.size ≤ 200 ∧ x.2.size ≤ 200 from fun x hx => HXS.out x (by rw [← hA] at hx; exact (List.mem_filter.1 hx).1))
      have HBS := Lib.hid (show ∀ x ∈ B, x.1.size ≤ 200 ∧ x.2.size ≤ 200 from fun x hx => HXS.out x (by rw [← hB] at hx; exact (List.mem_filter.1 hx).1))
      have HA := Lib.hid hA
      have HB := Lib.hid hB
      have HNA := Lib.hid hna
      have HNB := Lib.hid hnb
      have ba : na ≤ 20 := by omega
      have bb : nb ≤ 20 := by omega
      have HAB := Lib.hid hab
      clear hA hB hna hnb hab
      go_enter Try.func5, Try.ntmps5
      go_wp2_with fail
      refine HLI.out.mono ?_
      rintro e w1 ⟨rfl, b1⟩
      have HS1 := Lib.hid (HS0.out.below b1)
      clear b1
      go_wp2_with fail
      refine (HAL.out _).mono ?_
      rintro e w2 ⟨rfl, b2⟩
      have HS2 := Lib.hid (HS1.out.below b2)
      clear b2 HS1
      go_wp2_with fail
      refine (only_sees o on cap cn n m na xs A ns w2 HN.out HM.out HA.out HNA.out (by omega) (by omega) HS2.out.l HS2.out.n HXS.out).mono ?_
      rintro e w3 ⟨⟨oa, ca, rfl, hsa⟩, b3⟩
      have HS3 := Lib.hid (HS2.out.below b3)
      have HA3 := Lib.hid hsa
      clear b3 hsa HS2
      go_wp2_with fail
      refine (without_sees o on cap cn n m nb xs B ns w3 HN.out HM.out HB.out HNB.out (by omega) (by omega) HS3.out.l HS3.out.n HXS.out).mono ?_
      rintro e w4 ⟨⟨ob, cb, rfl, hsb⟩, b4⟩
      have HS4 := Lib.hid (HS3.out.below b4)
      have HA4 := Lib.hid (HA3.out.below b4)
      have HB4 := Lib.hid hsb
      clear b4 hsb HS3 HA3
      go_wp2_with fail
      refine (only_sees oa on ca cn na m na A A ns w4 HNA.out HM.out HAA.out.1 HNA.out (by omega) (by omega) HA4.out HS4.out.n HAS.out).mono ?_
      rintro e w5 ⟨⟨o5, c5, rfl, h5⟩, b5⟩
      have HS5 := Lib.hid (HS4.out.below b5)
      have HA5 := Lib.hid (HA4.out.below b5)
      have HB5 := Lib.hid (HB4.out.below b5)
      have H5 := Lib.hid h5
      clear b5 h5 HS4 HA4 HB4
      go_wp2_with fail
      refine (same_sees o5 oa c5 ca na A w5 HNA.out (by omega) H5.out HA5.out).mono ?_
      rintro e w6 ⟨rfl, b6⟩
      have HS6 := Lib.hid (HS5.out.below b6)
      have HA6 := Lib.hid (HA5.out.below b6)
      have HB6 := Lib.hid (HB5.out.below b6)
      clear b6 HS5 HA5 HB5 H5
      go_wp2_with fail
      refine (without_sees oa on ca cn na m 0 A [] ns w6 HNA.out HM.out HAA.out.2 rfl (by omega) (by omega) HA6.out HS6.out.n HAS.out).mono ?_
      rintro e w7 ⟨⟨o7, c7, rfl, _⟩, b7⟩
      have HS7 := Lib.hid (HS6.out.below b7)
      have HB7 := Lib.hid (HB6.out.below b7)
      clear b7 HS6 HA6 HB6
      go_wp2_with fail
      refine (without_sees ob on cb cn nb m nb B B ns w7 HNB.out HM.out HBB.out.1 HNB.out (by omega) (by omega) HB7.out HS7.out.n HBS.out).mono ?_
      rintro e w8 ⟨⟨o8, c8, rfl, h8⟩, b8⟩
      have HS8 := Lib.hid (HS7.out.below b8)
      have HB8 := Lib.hid (HB7.out.below b8)
      have H8 := Lib.hid h8
      clear b8 h8 HS7 HB7
      go_wp2_with fail
      refine (same_sees o8 ob c8 cb nb B w8 HNB.out (by omega) H8.out HB8.out).mono ?_
      rintro e w9 ⟨rfl, b9⟩
      have HS9 := Lib.hid (HS8.out.below b9)
      have HB9 := Lib.hid (HB8.out.below b9)
      clear b9 HS8 HB8 H8
      go_wp2_with fail
      refine (only_sees ob on cb cn nb m 0 B [] ns w9 HNB.out HM.out HBB.out.2 rfl (by omega) (by omega) HB9.out HS9.out.n HBS.out).mono ?_
      rintro e w10 ⟨⟨o10, c10, rfl, _⟩, b10⟩
      have HS10 := Lib.hid (HS9.out.below b10)
      clear b10 HS9 HB9
      have hw : IntKind.i64.wrap ((na : Int) + nb) = n := by have := HAB.out; rw [IntKind.wrap_i64]; omega
      have t5 : ((na : Int) + nb == (n : Int)) = true := by have := HAB.out; rw [beq_iff_eq]; omega
      go_wp2_with fail
      refine (only_sees o none cap 0 n 0 0 xs [] [] w10 HN.out rfl (in_nil xs) rfl (by omega) (by omega) HS10.out.l (.inl rfl) HXS.out).mono ?_
      rintro e w11 ⟨⟨o11, c11, rfl, _⟩, b11⟩
      have HS11 := Lib.hid (HS10.out.below b11)
      clear b11 HS10
      go_wp2_with fail
      refine (without_sees o none cap 0 n 0 n xs xs [] w11 HN.out rfl (out_nil xs) HN.out (by omega) (by omega) HS11.out.l (.inl rfl) HXS.out).mono ?_
      rintro e w12 ⟨⟨o12, c12, rfl, h12⟩, b12⟩
      have HS12 := Lib.hid (HS11.out.below b12)
      have H12 := Lib.hid h12
      clear b12 h12 HS11
      go_wp2_with fail
      refine (same_sees o12 o c12 cap n xs w12 HN.out (by omega) H12.out HS12.out.l).mono ?_
      rintro e w13 ⟨rfl, b13⟩
      have HS13 := Lib.hid (HS12.out.below b13)
      clear b13 HS12 H12
      go_wp2
      go_ret
      exact ⟨rfl, HS13.out.low⟩
end Go.Proofs.Ytjeenanoboaaeaa
