import Derived.Test.YtphkodkenkiecaaMg03
import Derived.WalkLawsBesides
import Derived.Test.YtphkodkenkiecaaMg06
import Derived.Laws.OwnMore
import Derived.Deep.DeepMust
import Derived.BigQuiet
import Derived.Deep.QuietTactic
section
/- Labels: brought into order, plain. -/


namespace Go.Proofs.Ytphkodkenkiecaa
open Go.RowKit Go.Lib Go.Sort

abbrev nm (x : Lab) : List UInt8 := x.1.data.toList
def leN (a b : Lab) : Bool := !decide (nm b < nm a)
def sortL (xs : List Lab) : List Lab := xs.mergeSort leN
def tidyB (xs : List Lab) : Bool := rightB (sortL xs)
theorem leN_trans (a b c : Lab) (h1 : leN a b = true) (h2 : leN b c = true) : leN a c = true := by
  simp only [leN, Bool.not_eq_true', decide_eq_false_iff_not] at *
  intro h
  by_cases e : nm c = nm b
  · rw [e] at h; exact h1 h
  · exact h1 (lt_trans' (lt_of_not h2 e) h)
theorem leN_total (a b : Lab) : (leN a b || leN b a) = true := by
  simp only [leN, Bool.or_eq_true, Bool.not_eq_true', decide_eq_false_iff_not]
  by_cases h : nm b < nm a
  · exact .inr (lt_asymm' h)
  · exact .inl h
theorem sortL_perm (xs : List Lab) : (sortL xs).Perm xs := List.mergeSort_perm _ _
theorem sortL_sorted (xs : List Lab) : (sortL xs).Pairwise (fun a b => leN a b = true) := List.pairwise_mergeSort leN_trans leN_total xs
theorem rises_some : ∀ (xs : List Lab) (n : ByteArray), risesB (some n) xs = true → (∀ x ∈ xs, n.data.toList < nm x) ∧ xs.Pairwise (fun a b => nm a < nm b) ∧ ∀ x ∈ xs, fitsB x.1 x.2 = true
  | [], n, _ => by simp
  | x :: xs, n, h => by
    simp only [risesB, Bool.and_eq_true, bytesLess_eq, decide_eq_true_eq, ByteArray.toList_eq] at h
    obtain ⟨⟨h1, h2⟩, h3⟩ := h
    obtain ⟨a1, a2, a3⟩ := rises_some xs x.1 h3
    refine ⟨?_, List.pairwise_cons.2 ⟨a1, a2⟩, ?_⟩
    · intro y hy
      rcases List.mem_cons.1 hy with rfl | hy
      · exact h2
      · exact lt_trans' h2 (a1 y hy)
    · intro y hy
      rcases List.mem_cons.1 hy with rfl | hy
      · exact h1
      · exact a3 y hy
theorem rises_none : ∀ (xs : List Lab), risesB none xs = true → xs.Pairwise (fun a b => nm a < nm b) ∧ ∀ x ∈ xs, fitsB x.1 x.2 = true
  | [], _ => by simp
  | x :: xs, h => by
    simp only [risesB, Bool.and_eq_true] at h
    obtain ⟨a1, a2, a3⟩ := rises_some xs x.1 h.2
    refine ⟨List.pairwise_cons.2 ⟨a1, a2⟩, ?_⟩
    intro y hy
    rcases List.mem_cons.1 hy with rfl | hy
    · exact h.1
    · exact a3 y hy
theorem rises_mk : ∀ (xs : List Lab) (n : Option ByteArray), (∀ m, n = some m → ∀ x ∈ xs, m.data.toList < nm x) → xs.Pairwise (fun a b => nm a < nm b) → (∀ x ∈ xs, fitsB x.1 x.2 = true) → risesB n xs = true
  | [], n, _, _, _ => by cases n <;> rfl
  | x :: xs, n, h1, h2, h3 => by
    have h2' := List.pairwise_cons.1 h2
    have ih := rises_mk xs (some x.1) (fun m e y hy => by cases e; exact h2'.1 y hy) h2'.2 (fun y hy => h3 y (List.mem_cons_of_mem _ hy))
    have hf := h3 x List.mem_cons_self
    cases n with
    | none => simp only [risesB, hf, ih, Bool.and_true]
    | some m =>
      have := h1 m rfl x List.mem_cons_self
      simp only [risesB, hf, ih, Bool.and_true, Bool.true_and, bytesLess_eq, decide_eq_true_eq, ByteArray.toList_eq]
      exact this
/-- Just the tidy lists are right. -/
theorem right_iff (xs : List Lab) : rightB xs = true ↔ xs.length ≤ 8 ∧ xs.Pairwise (fun a b => nm a < nm b) ∧ ∀ x ∈ xs, fitsB x.1 x.2 = true := by
  unfold rightB
  rw [Bool.and_eq_true, decide_eq_true_eq]
  exact ⟨fun ⟨h1, h2⟩ => ⟨h1, rises_none xs h2⟩, fun ⟨h1, h2, h3⟩ => ⟨h1, rises_mk xs none (fun m e => by cases e) h2 h3⟩⟩
theorem same_name {xs : List Lab} (h : xs.Pairwise (fun a b => nm a ≠ nm b)) : ∀ a ∈ xs, ∀ b ∈ xs, nm a = nm b → a = b := by
  induction xs with
  | nil => intro a ha; simp at ha
  | cons x xs ih =>
    obtain ⟨h1, h2⟩ := List.pairwise_cons.1 h
    intro a ha b hb e
    rcases List.mem_cons.1 ha with e1 | ha2 <;> rcases List.mem_cons.1 hb with e2 | hb2
    · rw [e1, e2]
    · exact absurd (by rw [← e1]; exact e) (h1 b hb2)
    · exact absurd (by rw [← e2]; exact e.symm) (h1 a ha2)
    · exact ih h2 a ha2 b hb2 e
/-- Lists in order, of the same labels, one of which is right, are the same. -/
theorem sorted_same {s t : List Lab} (hp : s.Perm t) (h1 : s.Pairwise (fun a b => leN a b = true)) (h2 : t.Pairwise (fun a b => leN a b = true)) (hr : rightB s = true) : s = t := by
  obtain ⟨_, hs, _⟩ := (right_iff s).1 hr
  have hd : s.Pairwise (fun a b => nm a ≠ nm b) := hs.imp fun {a b} h e => by rw [e] at h; exact lt_asymm' h h
  refine List.Perm.eq_of_pairwise (le := fun a b => leN a b = true) (fun a b ha hb hab hba => ?_) h1 h2 hp
  refine same_name hd a ha b (hp.mem_iff.2 hb) ?_
  simp only [leN, Bool.not_eq_true', decide_eq_false_iff_not] at hab hba
  exact Classical.byContradiction fun e => hba (lt_of_not hab (fun h => e h.symm))
theorem right_sorted {s : List Lab} (hr : rightB s = true) : s.Pairwise (fun a b => leN a b = true) :=
  ((right_iff s).1 hr).2.1.imp fun {a b} h => by simp only [leN, Bool.not_eq_true', decide_eq_false_iff_not]; exact lt_asymm' h
theorem sorted_right {s xs : List Lab} (hp : s.Perm xs) (h1 : s.Pairwise (fun a b => leN a b = true)) : (rightB s = true → s = sortL xs) ∧ rightB s = tidyB xs := by
  have hps : s.Perm (sortL xs) := hp.trans (sortL_perm xs).symm
  have e1 : rightB s = true → s = sortL xs := sorted_same hps h1 (sortL_sorted xs)
  refine ⟨e1, ?_⟩
  unfold tidyB
  cases hs : rightB s with
  | true => rw [← e1 hs, hs]
  | false =>
    cases ht : rightB (sortL xs) with
    | false => rfl
    | true => have := sorted_same hps.symm (sortL_sorted xs) h1 ht; rw [this, hs] at ht; cases ht
theorem tidy_len {xs : List Lab} (h : 8 < xs.length) : tidyB xs = false := by
  cases ht : tidyB xs with
  | false => rfl
  | true =>
    have h2 := ((right_iff _).1 ht).1
    have h3 := (sortL_perm xs).length_eq
    omega
end Go.Proofs.Ytphkodkenkiecaa
end

section
/- Walks: the document's own Get and Compare. -/



namespace Go.Proofs.Ytphkodkenkiecaa
open Go.RowKit Go.Lib

theorem cmpB_range (a b : List UInt8) : compareBytes a b = -1 ∨ compareBytes a b = 0 ∨ compareBytes a b = 1 := by
  induction a generalizing b with
  | nil => cases b <;> simp [compareBytes]
  | cons x xs ih =>
    cases b with
    | nil => simp [compareBytes]
    | cons y ys =>
      simp only [compareBytes]
      by_cases h1 : x < y
      · simp [h1]
      · by_cases h2 : y < x
        · simp [h1, h2]
        · simp only [h1, h2, if_false]; exact ih ys

set_option maxHeartbeats 1000000 in
set_option maxRecDepth 100000 in
theorem texts_any (a b : ByteArray) (w : World) : Calls Try.prog 23 #[.string a, .string b] w fun e w' => e = .returned (.int .i64 (compareBytes a.data.toList b.data.toList)) ∧ w = w' := by
  have hs := cmpB_spec a.data.toList b.data.toList
  have hr := cmpB_range a.data.toList b.data.toList
  by_cases h1 : a.data.toList < b.data.toList
  · have e : compareBytes a.data.toList b.data.toList = -1 := by have := hs.1.2 h1; omega
    have t1 : Op.bytesLess a.toList b.toList = true := by
      rw [bytesLess_eq, ByteArray.toList_eq, ByteArray.toList_eq]; exact decide_eq_true h1
    rw [e]
    clear hs hr h1 e
    go_enter Try.func23, Try.ntmps23
    go_wp2
    go_ret
    exact ⟨rfl, rfl⟩
  have t1 : Op.bytesLess a.toList b.toList = false := by
    rw [bytesLess_eq, ByteArray.toList_eq, ByteArray.toList_eq]; exact decide_eq_false h1
  by_cases h2 : b.data.toList < a.data.toList
  · have e : compareBytes a.data.toList b.data.toList = 1 := by have := hs.2.2.2 h2; omega
    have t2 : Op.bytesLess b.toList a.toList = true := by
      rw [bytesLess_eq, ByteArray.toList_eq, ByteArray.toList_eq]; exact decide_eq_true h2
    have t3 : (a.toList == b.toList) = false := by
      rw [ByteArray.toList_eq, ByteArray.toList_eq]
      refine beq_eq_false_iff_ne.2 fun hh => ?_
      rw [hh] at h2
      exact absurd h2 (List.lt_irrefl _)
    rw [e]
    clear hs hr h1 h2 e
    go_enter Try.func23, Try.ntmps23
    go_wp2
    go_ret
    exact ⟨rfl, rfl⟩
  · have t2 : Op.bytesLess b.toList a.toList = false := by
      rw [bytesLess_eq, ByteArray.toList_eq, ByteArray.toList_eq]; exact decide_eq_false h2
    have e : compareBytes a.data.toList b.data.toList = 0 := by
      rcases hr with h | h | h
      · exact absurd (hs.1.1 (by omega)) h1
      · exact h
      · exact absurd (hs.2.2.1 (by omega)) h2
    have t3 : (a.toList == b.toList) = true := by
      rw [ByteArray.toList_eq, ByteArray.toList_eq, hs.2.1.1 e]
      exact beq_self_eq_true _
    rw [e]
    clear hs hr h1 h2 e
    go_enter Try.func23, Try.ntmps23
    go_wp2
    go_ret
    exact ⟨rfl, rfl⟩

set_option maxHeartbeats 2000000 in
set_option maxRecDepth 100000 in
theorem rget_any (o : Option Addr) (cap : Nat) (xs : List Lab) (name : ByteArray) (w : World) (hm : xs.length ≤ maxLen) (hS : SeesO w o xs) :
    Calls Try.prog 9 #[.slice o xs.length cap, .string name] w fun e w' => e = .returned (.string (getL name xs)) ∧ w = w' := by
  obtain ⟨n, hn⟩ : ∃ n, xs.length = n := ⟨_, rfl⟩
  have HN := Lib.hid hn
  rw [hn] at hm ⊢
  clear hn
  unfold maxLen at hm
  have HSO := Lib.hid hS
  clear hS
  go_enter Try.func9, Try.ntmps9
  go_wp2
  go_loop [5] (fun v5 => ∃ k : Nat, v5 = .int .i64 k ∧ k ≤ n ∧ Hid (getL name (xs.drop k) = getL name xs)) (fun v5 => n - (RowKit.intOf v5).toNat)
  case atStart => exact ⟨0, rfl, Nat.zero_le _, rfl⟩
  case round =>
    obtain ⟨k, rfl, hk, H⟩ := hrel
    by_cases hkn : k < n
    · have j1 : (k : Int) < n := by omega
      obtain ⟨x, hx⟩ := get_lt HN.out hkn
      obtain ⟨b, off, rfl, hS⟩ := HSO.out.at hx
      have c0 := hS.at0 k x hx
      have c1 := hS.at1 k x hx
      have hdr := Lib.hid (drop_at hx)
      clear hS hx
      by_cases he : x.1.toList = name.toList
      · have H2 := Lib.hid (show x.2 = getL name xs by rw [← H.out, hdr.out, getL, if_pos he])
        have t1 : (x.1.toList == name.toList) = true := by rw [he]; exact beq_self_eq_true _
        go_wp2
        go_ret
        exact ⟨ret_s H2.out, rfl⟩
      · have H2 := Lib.hid (show getL name (xs.drop (k + 1)) = getL name xs by rw [← H.out, hdr.out, getL, if_neg he])
        have t1 : (x.1.toList == name.toList) = false := beq_eq_false_iff_ne.2 he
        go_wp2
        go_round
        case rel => exact ⟨k + 1, by go_num, by omega, H2⟩
        case measure => simp [RowKit.intOf]; omega
    · have j1 : (n : Int) ≤ k := by omega
      have H2 := Lib.hid (show (⟨#[]⟩ : ByteArray) = getL name xs by rw [← H.out, List.drop_eq_nil_of_le (by rw [HN.out]; omega), getL])
      go_wp2
      go_ret
      exact ⟨ret_s H2.out, rfl⟩

theorem cmp2_range (x y : Lab) : -1 ≤ cmp2 x y ∧ cmp2 x y ≤ 1 := by
  unfold cmp2 cmpN cmpV
  have h1 := cmpB_range x.1.data.toList y.1.data.toList
  have h2 := cmpB_range x.2.data.toList y.2.data.toList
  split <;> omega

set_option maxHeartbeats 4000000 in
set_option maxRecDepth 100000 in
theorem rcompare_any (o1 o2 : Option Addr) (c1 c2 : Nat) (xs ys : List Lab) (w : World) (hm : xs.length ≤ maxLen) (_hm2 : ys.length ≤ maxLen) (h1 : SeesO w o1 xs) (h2 : SeesO w o2 ys) :
    Calls Try.prog 11 #[.slice o1 xs.length c1, .slice o2 ys.length c2] w fun e w' => e = .returned (.int .i64 (cmpL xs ys)) ∧ Below w.heap.size w w' := by
  obtain ⟨n, hn⟩ : ∃ n, xs.length = n := ⟨_, rfl⟩
  obtain ⟨m, hm'⟩ : ∃ m, ys.length = m := ⟨_, rfl⟩
  have HN := Lib.hid hn
  have HM := Lib.hid hm'
  rw [hn] at hm ⊢
  rw [hm'] at _hm2 ⊢
  clear hn hm'
  unfold maxLen at hm _hm2
  have HS1 := Lib.hid h1
  have HS2 := Lib.hid h2
  clear h1 h2
  go_enter Try.func11, Try.ntmps11
  go_wp2
  go_loopw [5] (fun v5 wr => ∃ k : Nat, v5 = .int .i64 k ∧ k ≤ n ∧ k ≤ m ∧ Hid (Below w.heap.size w wr) ∧ Hid (cmpL (xs.drop k) (ys.drop k) = cmpL xs ys)) (fun v5 _ => n - (RowKit.intOf v5).toNat)
  case atStart => exact ⟨0, rfl, Nat.zero_le _, Nat.zero_le _, Lib.hid (Below.refl _ _), Lib.hid rfl⟩
  case round =>
    obtain ⟨k, rfl, hk, hk2, HB, H⟩ := hrel
    by_cases hkn : k < n
    · have j1 : (k : Int) < n := by omega
      by_cases hkm : k < m
      · have j2 : (k : Int) < m := by omega
        obtain ⟨x, hx⟩ := get_lt HN.out hkn
        obtain ⟨y, hy⟩ := get_lt HM.out hkm
        obtain ⟨b, off, rfl, hS⟩ := (HS1.out.below HB.out).at hx
        obtain ⟨b2, off2, rfl, hS2⟩ := (HS2.out.below HB.out).at hy
        have a0 := hS.at0 k x hx
        have a1 := hS.at1 k x hx
        have d0 := hS2.at0 k y hy
        have d1 := hS2.at1 k y hy
        have b1 := hS.low
        have b2' := hS2.low
        have HX := Lib.hid (drop_at hx)
        have HY := Lib.hid (drop_at hy)
        have HT1 := Lib.hid (fun W => (show Calls Try.prog 23 #[.string x.1, .string y.1] W fun e w' => e = .returned (.int .i64 (cmpN x y)) ∧ w' = W from (texts_any x.1 y.1 W).mono fun e w' h => ⟨h.1, h.2.symm⟩))
        have HT2 := Lib.hid (fun W => (show Calls Try.prog 23 #[.string x.2, .string y.2] W fun e w' => e = .returned (.int .i64 (cmpV x y)) ∧ w' = W from (texts_any x.2 y.2 W).mono fun e w' h => ⟨h.1, h.2.symm⟩))
        have hz : cmpL (xs.drop k) (ys.drop k) = if cmp2 x y = 0 then cmpL (xs.drop (k + 1)) (ys.drop (k + 1)) else cmp2 x y := by rw [HX.out, HY.out, cmpL]
        have HZ := Lib.hid (H.out.symm.trans hz)
        clear hS hS2 hx hy hz
        obtain ⟨c, hc⟩ : ∃ c, cmpN x y = c := ⟨_, rfl⟩
        obtain ⟨d, hd⟩ : ∃ d, cmpV x y = d := ⟨_, rfl⟩
        have HC2 := Lib.hid (show cmp2 x y = if c = 0 then d else c by unfold cmp2; rw [hc, hd])
        rw [hc] at HT1
        rw [hd] at HT2
        clear hc hd
        go_wp2_with fail
        go_quiet ((go_at_call 23; exact Calls.quiet_of_same (HT1.out _)))
        have HBq := Lib.hid (show Below w.heap.size w (wr.drewN nq) from HB.out.trans ⟨rfl, rfl, rfl, Nat.le_refl _, fun _ _ => rfl⟩)
        by_cases h0 : c = 0
        · have e2 : cmp2 x y = d := by rw [HC2.out, if_pos h0]
          have t1 : (c == 0) = true := by simpa using h0
          obtain ⟨wz, hwz⟩ : ∃ wz, wr.drewN nq = wz := ⟨_, rfl⟩
          have e1 : wz.cell? ⟨b, off + k * 2 + 1, none⟩ = some (.string x.2) := by rw [← hwz]; exact a1
          have f1 : wz.cell? ⟨b2, off2 + k * 2 + 1, none⟩ = some (.string y.2) := by rw [← hwz]; exact d1
          rw [hwz] at HBq ⊢
          have HE2 := Lib.hid e2
          clear hwz h0 e2
          go_wp2_with fail
          go_quiet ((go_at_call 23; exact Calls.quiet_of_same (HT2.out _)))
          have HBz := Lib.hid (show Below w.heap.size w (wz.drewN nq) from HBq.out.trans ⟨rfl, rfl, rfl, Nat.le_refl _, fun _ _ => rfl⟩)
          by_cases h00 : d = 0
          · have t2 : (d != 0) = false := by simp [h00]
            have H2 := Lib.hid (show cmpL (xs.drop (k + 1)) (ys.drop (k + 1)) = cmpL xs ys by rw [HZ.out, if_pos (HE2.out.trans h00)])
            clear h00
            go_wp2
            go_roundw
            case rel => exact ⟨k + 1, by go_num, by omega, by omega, HBz, H2⟩
            case measure => simp [RowKit.intOf]; omega
          · have t2 : (d != 0) = true := by rw [bne_iff_ne]; exact h00
            have H2 := Lib.hid (show d = cmpL xs ys by rw [HZ.out, if_neg (by rw [HE2.out]; exact h00), HE2.out])
            clear h00
            go_wp2
            go_ret
            exact ⟨ret_int H2.out, HBz.out⟩
        · have t1 : (c == 0) = false := by simpa using h0
          have t2 : (c != 0) = true := by rw [bne_iff_ne]; exact h0
          have H2 := Lib.hid (show c = cmpL xs ys by
            have e2 : cmp2 x y = c := by rw [HC2.out, if_neg h0]
            rw [HZ.out, if_neg (by rw [e2]; exact h0), e2])
          clear h0
          go_wp2
          go_ret
          exact ⟨ret_int H2.out, HBq.out⟩
      · have j2 : (m : Int) ≤ k := by omega
        obtain rfl : m = k := by omega
        obtain ⟨x, hx⟩ := get_lt HN.out hkn
        have H2 := Lib.hid (show (1 : Int) = cmpL xs ys by
          have e1 : ys.drop m = [] := List.drop_eq_nil_of_le (by rw [HM.out]; omega)
          rw [← H.out, drop_at hx, e1, cmpL])
        clear hx
        go_wp2
        go_ret
        exact ⟨ret_int H2.out, HB.out⟩
    · obtain rfl : n = k := by omega
      by_cases hnm : n < m
      · have j2 : (n : Int) < m := by omega
        have H2 := Lib.hid (show (-1 : Int) = cmpL xs ys by
          rw [← H.out, List.drop_eq_nil_of_le (by rw [HN.out]; omega)]
          obtain ⟨y, hy⟩ := get_lt HM.out hnm
          rw [drop_at hy, cmpL])
        go_wp2
        go_ret
        exact ⟨ret_int H2.out, HB.out⟩
      · obtain rfl : m = n := by omega
        have H2 := Lib.hid (show (0 : Int) = cmpL xs ys by
          rw [← H.out, List.drop_eq_nil_of_le (by rw [HN.out]; omega), List.drop_eq_nil_of_le (by rw [HM.out]; omega), cmpL])
        go_wp2
        go_ret
        exact ⟨ret_int H2.out, HB.out⟩
end Go.Proofs.Ytphkodkenkiecaa
end

section
/- Walks: the document's own Spell, Kind and Name. -/






namespace Go.Proofs.Ytphkodkenkiecaa
open Go.RowKit

/-- A slice that the call owns, opened: its value and where its cells lie. -/
theorem own_open {B e n : Nat} {v : Value} {xs : List Value} {w : World} (h : w.ownsRow B e 1 v n xs) : (v = .slice none 0 0 ∧ n = 0 ∧ xs = []) ∨ ∃ g cap, v = .slice (some ⟨g, 0, none⟩) n cap ∧ B ≤ g ∧ g < w.heap.size ∧ n ≤ cap ∧ cap ≤ maxLen ∧ ∀ j u, xs[j]? = some u → w.cell? ⟨g, j, none⟩ = some u := by
  have hl := h.1
  rcases h.2 with ⟨rfl, h0⟩ | ⟨g, cap, cur, rfl, hg, hh, hn, hcap, hsz, htake⟩
  · subst h0
    exact .inl ⟨rfl, rfl, List.eq_nil_of_length_eq_zero (by simpa using hl)⟩
  · refine .inr ⟨g, cap, rfl, hg, (Array.getElem?_eq_some_iff.1 hh).1, hn, hcap, fun j u hu => ?_⟩
    have hj : j < xs.length := (List.getElem?_eq_some_iff.1 hu).1
    rw [h.cellAt j (by omega), hu]

set_option maxHeartbeats 2000000 in
set_option maxRecDepth 100000 in
theorem rspell_any (s : ByteArray) (w : World) (hs : s.size ≤ 1099511627776) :
    Calls Try.prog 30 #[.string s] w fun e w' => Spelt (w.heap.size + 1) (spell s.data.toList) e w' ∧ Below w.heap.size w w' := by
  obtain ⟨i0, hi, hz0, hz1, hz2⟩ := info_parts tryd_info21
  go_enter Try.func30, Try.ntmps30
  go_wp2
  go_loopw [3] (fun v wr => ∃ (pos : Nat) (xs : List Int), wr.heap[w.heap.size]? = some (.stringIter s pos) ∧ wr.ownsRow (w.heap.size + 1) 21 1 v xs.length (xs.map (Value.int .i32)) ∧ Below w.heap.size w wr ∧ Hid (xs ++ spell (s.data.toList.drop pos) = spell s.data.toList) ∧ xs.length ≤ pos ∧ pos ≤ s.size) (fun _ wr => s.size - wr.iterPos w.heap.size)
  case atStart => exact ⟨0, [], World.iter_heap w s 0, World.ownsRow_nil _ _ _ _, (Below.refl _ _).alloc (Nat.le_refl _) _, (by show _ = _; simp), by simp, Nat.zero_le _⟩
  case round =>
    obtain ⟨pos, xs, hit, hown, hbw, H, hk, hps⟩ := hrel
    have hpos0 := iterPos_of hit
    by_cases hp : pos < s.size
    · have hnx : ∀ ty, (Instr.next (.pointer (some ⟨w.heap.size, 0, none⟩)) true ty).run Try.prog wr = _ := fun ty => Lib.run_next_any_at wr w.heap.size s pos ty hit hp
      have hwd := width1 s pos
      have hwl := width_le hp
      have hit2 := Lib.iterAt_heap wr w.heap.size s pos (pos + (Utf8.decode s pos).2) hit
      have hbw2 := Lib.below_iterAt hbw (k := w.heap.size) (Nat.le_refl _) s (pos + (Utf8.decode s pos).2)
      have hown2 := ownsRow_iterAt hown (k := w.heap.size) (by omega) s (pos + (Utf8.decode s pos).2)
      have H2 : Hid ((xs ++ [((Utf8.decode s pos).1 : Int)]) ++ spell (s.data.toList.drop (pos + (Utf8.decode s pos).2)) = spell s.data.toList) := by
        show _ = _
        rw [← H.out, spell_at hp]; simp
      obtain ⟨W1, hW1⟩ : ∃ W1, W1 = wr.iterAt w.heap.size s (pos + (Utf8.decode s pos).2) := ⟨_, rfl⟩
      rw [← hW1] at hnx hit2 hbw2 hown2
      have hBlt : w.heap.size < W1.heap.size := (Array.getElem?_eq_some_iff.1 hit2).1
      clear hW1 hit hown hbw H
      go_wp2_with (at_builtin; go_must (refine wpList_append_own _ rfl _ _ 70 rfl (w.heap.size + 1) 21 i0 (.int .i32 0) 1 4 Try.underlying70 hi hz0 hz1 hz2 rfl (by decide) _ _ _ rfl (hown2.alloc _) ⟨W1.heap.size, 0, none⟩ 1 1 [.int .i32 ((Utf8.decode s pos).1 : Int)] rfl rfl (cell_1 _ _ _) (one_i32 _) (by unfold maxLen; omega) (by omega) (by simp; omega) ?_); intro v' w3 hown' hgrow3 hnil3)
      have hit3 : w3.heap[w.heap.size]? = some (.stringIter s (pos + (Utf8.decode s pos).2)) := by
        rw [hgrow3.block w.heap.size (by simp; omega) (fun h => by have := (hown2.lt _ h.symm).1; omega), Below.heap_alloc _ _ _ hBlt]; exact hit2
      have hbw3 : Below w.heap.size w w3 := Below.grown (hbw2.alloc (by omega) _) hgrow3 (by simp; omega) (fun j hj => by have := (hown2.lt _ hj).1; omega)
      have ho3 : w3.ownsRow (w.heap.size + 1) 21 1 v' (xs ++ [((Utf8.decode s pos).1 : Int)]).length ((xs ++ [((Utf8.decode s pos).1 : Int)]).map (Value.int .i32)) := by
        rw [List.length_append, List.map_append]; exact hown'
      clear hown' hgrow3 hnil3
      go_roundw
      case rel => exact ⟨pos + (Utf8.decode s pos).2, xs ++ [((Utf8.decode s pos).1 : Int)], hit3, ho3, hbw3, H2, by rw [List.length_append]; simp; omega, hwl⟩
      case measure => rw [iterPos_of hit3, hpos0]; omega
    · have hnx : ∀ ty, (Instr.next (.pointer (some ⟨w.heap.size, 0, none⟩)) true ty).run Try.prog wr = _ := fun ty => Lib.run_next_end_at wr w.heap.size s pos ty hit hp
      have H2 : Hid (xs = spell s.data.toList) := by
        show _ = _
        rw [← H.out, spell_end hp]; simp
      clear H
      go_wp2
      go_ret
      refine ⟨?_, hbw⟩
      rw [← H2.out]
      exact ⟨_, rfl, hown⟩

set_option maxHeartbeats 4000000 in
set_option maxRecDepth 100000 in
theorem rkind_any (r : Int) (w : World) : Calls Try.prog 46 #[.int .i32 r] w fun e w' => e = .returned (.int .i64 (kindZ r)) ∧ w = w' := by
  go_enter Try.func46, Try.ntmps46
  go_wp2
  all_goals (go_ret; refine ⟨ret_int ?_, rfl⟩; first | rfl | skip)
  all_goals ((try simp only [beq_iff_eq, beq_eq_false_iff_ne] at *); unfold kindZ; repeat' split)
  all_goals omega

theorem nameGo_long : ∀ (xs : List Int) (n : Nat), n ≤ 30 → 30 < n + xs.length → nameGo n xs = false
  | [], n, h, h2 => by simp at h2; omega
  | x :: xs, n, h, h2 => by
    unfold nameGo
    split
    · rfl
    · next hn =>
      have : n ≠ 30 := fun e => hn (.inl e)
      exact nameGo_long xs (n + 1) (by omega) (by simp at h2; omega)
theorem kindZ_range (r : Int) : 0 ≤ kindZ r ∧ kindZ r ≤ 4 := by unfold kindZ; repeat' split <;> omega

set_option maxHeartbeats 4000000 in
set_option maxRecDepth 100000 in
theorem rname_any (s : ByteArray) (w : World) (hs : s.size ≤ 1099511627776) : Calls Try.prog 29 #[.string s] w fun e w' => e = .returned (.bool (nameB s.data.toList)) ∧ Below w.heap.size w w' := by
  have CK := Lib.hid (fun r W => rkind_any r W)
  go_enter Try.func29, Try.ntmps29
  go_wp2_with fail
  refine (rspell_any s _ hs).mono ?_
  rintro e w1 ⟨⟨v, rfl, hown⟩, hb1⟩
  obtain ⟨xs, hxs⟩ : ∃ xs, xs = spell s.data.toList := ⟨_, rfl⟩
  have HX := Lib.hid (show nameGo 0 xs = nameB s.data.toList by rw [hxs]; rfl)
  rw [← hxs] at hown
  clear hxs
  have HB := Lib.hid hb1
  obtain ⟨n, hn⟩ : ∃ n, xs.length = n := ⟨_, rfl⟩
  have HN := Lib.hid hn
  rw [hn] at hown
  clear hn hb1
  rcases own_open hown with ⟨rfl, h0, _⟩ | ⟨g, cap, rfl, _, _, hcap, hmax, hcell⟩
  · subst h0
    have h0 : xs = [] := List.eq_nil_of_length_eq_zero HN.out
    have HR := Lib.hid (show false = nameB s.data.toList by rw [← HX.out, h0]; rfl)
    clear h0 hown
    go_wp2
    go_ret
    exact ⟨ret_bool HR.out, HB.out⟩
  · unfold maxLen at hmax
    by_cases hlo : n < 1
    · have h0 : xs = [] := List.eq_nil_of_length_eq_zero (by rw [HN.out]; omega)
      have HR := Lib.hid (show false = nameB s.data.toList by rw [← HX.out, h0]; rfl)
      have i1 : (n : Int) < 1 := by omega
      have t1 : decide ((n : Int) < 1) = true := by simpa using i1
      clear h0 hown hcell
      go_wp2
      go_ret
      exact ⟨ret_bool HR.out, HB.out⟩
    · have i1 : (1 : Int) ≤ n := by omega
      have t1 : decide ((n : Int) < 1) = false := by simp; omega
      by_cases hhi : 30 < n
      · have HR := Lib.hid (show false = nameB s.data.toList by rw [← HX.out, nameGo_long xs 0 (by omega) (by rw [HN.out]; omega)])
        have i2 : (30 : Int) < n := by omega
        have t2 : decide ((30 : Int) < n) = true := by simpa using i2
        clear hown hcell
        go_wp2
        go_ret
        exact ⟨ret_bool HR.out, HB.out⟩
      · have i2 : (n : Int) ≤ 30 := by omega
        have t2 : decide ((30 : Int) < n) = false := by simp; omega
        have hx0 : ∀ k, k < n → xs[k]? = some (xs.getD k 0) := fun k hk => by have := HN.out; simp [List.getD, show k < xs.length by omega]
        have hcx : ∀ k, k < n → w1.cell? ⟨g, k, none⟩ = some (.int .i32 (xs.getD k 0)) := fun k hk => hcell k _ (by rw [List.getElem?_map, hx0 k hk]; rfl)
        have HCX := Lib.hid hcx
        have HX0 := Lib.hid hx0
        have c0 := hcx 0 (by omega)
        have hdrop : ∀ k, k < n → xs.drop k = xs.getD k 0 :: xs.drop (k + 1) := fun k hk => by
          have := HN.out
          rw [List.drop_eq_getElem_cons (by omega)]; simp [List.getD, show k < xs.length by omega]
        have HD := Lib.hid hdrop
        clear hown hcell hx0 hcx hdrop
        by_cases hk1 : kindZ (xs.getD 0 0) = 1
        · have HK1 := Lib.hid hk1
          have t3 : (kindZ (xs.getD 0 0) != 1) = false := by rw [hk1]; rfl
          obtain ⟨x0, hx0⟩ : ∃ x0, x0 = xs.getD 0 0 := ⟨_, rfl⟩
          rw [← hx0] at c0 t3
          clear hk1 hx0
          go_wp2_with fail
          refine (CK.out _ _).mono ?_
          rintro e w2 ⟨rfl, rfl⟩
          go_wp2
          go_loopw [4] (fun vi wr => ∃ k : Nat, vi = .int .i64 k ∧ wr = w1 ∧ k ≤ n ∧ Hid (nameGo k (xs.drop k) = nameB s.data.toList)) (fun vi _ => n - (Go.RowKit.intOf vi).toNat)
          case atStart => exact ⟨0, rfl, rfl, Nat.zero_le _, by show _ = _; rw [List.drop_zero]; exact HX.out⟩
          case round =>
            obtain ⟨k, rfl, rfl, hk, H⟩ := hrel
            by_cases hkn : k < n
            · have j1 : (k : Int) < n := by omega
              have ck := HCX.out k hkn
              have hd := HD.out k hkn
              have h0 := H.out
              rw [hd] at h0
              have hz0 : k = 0 → kindZ (xs.getD k 0) = 1 := fun e => by rw [e]; exact HK1.out
              generalize xs.getD k 0 = x at ck h0 hz0
              by_cases hx1 : kindZ x = 1
              · have H2 : Hid (nameGo (k + 1) (xs.drop (k + 1)) = nameB s.data.toList) := by
                  show _ = _
                  rw [← h0, name_good _ _ _ (by omega)]
                have t4 : (kindZ x != 1) = false := by rw [hx1]; rfl
                clear hx1 h0 hz0 hd
                go_wp2_with fail
                refine (CK.out _ _).mono ?_
                rintro e w2 ⟨rfl, rfl⟩
                go_wp2
                go_roundw
                case rel => exact ⟨k + 1, by go_num, (by first | trivial | rfl), by omega, H2⟩
                case measure => simp [Go.RowKit.intOf]; omega
              · have t4 : (kindZ x != 1) = true := by rw [bne_iff_ne]; exact hx1
                by_cases hx2 : kindZ x = 2
                · have H2 : Hid (nameGo (k + 1) (xs.drop (k + 1)) = nameB s.data.toList) := by
                    show _ = _
                    rw [← h0, name_good _ _ _ (by omega)]
                  have t5 : (kindZ x != 2) = false := by rw [hx2]; rfl
                  clear hx1 hx2 h0 hz0 hd
                  go_wp2_with fail
                  refine (CK.out _ _).mono ?_
                  rintro e w2 ⟨rfl, rfl⟩
                  go_wp2_with fail
                  refine (CK.out _ _).mono ?_
                  rintro e w2 ⟨rfl, rfl⟩
                  go_wp2
                  go_roundw
                  case rel => exact ⟨k + 1, by go_num, (by first | trivial | rfl), by omega, H2⟩
                  case measure => simp [Go.RowKit.intOf]; omega
                · have HR := Lib.hid (show false = nameB s.data.toList by rw [← h0, name_bad _ _ _ (by omega)])
                  have t5 : (kindZ x != 2) = true := by rw [bne_iff_ne]; exact hx2
                  clear hx1 hx2 h0 hz0 hd
                  go_wp2_with fail
                  refine (CK.out _ _).mono ?_
                  rintro e w2 ⟨rfl, rfl⟩
                  go_wp2_with fail
                  refine (CK.out _ _).mono ?_
                  rintro e w2 ⟨rfl, rfl⟩
                  go_wp2
                  go_ret
                  exact ⟨ret_bool HR.out, HB.out⟩
            · have j1 : (n : Int) ≤ k := by omega
              have HR := Lib.hid (show true = nameB s.data.toList by
                rw [← H.out, List.drop_eq_nil_of_le (by rw [HN.out]; omega)]
                unfold nameGo; simp; omega)
              go_wp2
              go_ret
              exact ⟨ret_bool HR.out, HB.out⟩
        · have HR := Lib.hid (show false = nameB s.data.toList by
            have hd := HD.out 0 (by omega)
            rw [List.drop_zero] at hd
            rw [← HX.out, hd, name_bad _ _ _ (by omega)])
          have t3 : (kindZ (xs.getD 0 0) != 1) = true := by rw [bne_iff_ne]; exact hk1
          obtain ⟨x0, hx0⟩ : ∃ x0, x0 = xs.getD 0 0 := ⟨_, rfl⟩
          rw [← hx0] at c0 t3
          clear hk1 hx0
          go_wp2_with fail
          refine (CK.out _ _).mono ?_
          rintro e w2 ⟨rfl, rfl⟩
          go_wp2
          go_ret
          exact ⟨ret_bool HR.out, HB.out⟩
end Go.Proofs.Ytphkodkenkiecaa
end
