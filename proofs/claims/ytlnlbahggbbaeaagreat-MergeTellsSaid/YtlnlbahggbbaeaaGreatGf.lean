import Derived.Test.YtlnlbahggbbaeaaGreatGa
import Derived.Laws.OwnMore
import Derived.Deep.DeepMust
import Derived.Test.YtlnlbahggbbaeaaGreatGe
import Derived.BigQuiet
import Derived.Deep.QuietTactic
import Derived.WalkLawsBesides
import Derived.Deep.RegionLaw
import Derived.Deep.AppendLies
section
/- A walk: a text's runes as a list. -/

namespace Go.Proofs.YtlnlbahggbbaeaaGreat
open Go.RowKit

theorem cell_1 (w : World) (v : Value) (t : TypeId) : ∀ j u, [v][j]? = some u → (w.alloc (.cells #[v] t)).cell? ((⟨w.heap.size, 0, none⟩ : Addr).add j) = some u := by
  intro j u hj
  match j, hj with
  | 0, hj => simp at hj; subst hj; simp [Addr.add]
  | j + 1, hj => simp at hj
/-- What Spell leaves: a slice of the call's own that holds the runes. -/
def Spelt (B : Nat) (xs : List Int) (e : Ending) (w' : World) : Prop := ∃ v, e = .returned v ∧ w'.ownsRow B 21 1 v xs.length (xs.map (Value.int .i32))

end Go.Proofs.YtlnlbahggbbaeaaGreat
end

section
/- Walks: the document's own Spell, Kind and Name. -/

namespace Go.Proofs.YtlnlbahggbbaeaaGreat
open Go.RowKit

/-- A slice that the call owns, opened: its value and where its cells lie. -/
theorem own_open {B e n : Nat} {v : Value} {xs : List Value} {w : World} (h : w.ownsRow B e 1 v n xs) : (v = .slice none 0 0 ∧ n = 0 ∧ xs = []) ∨ ∃ g cap, v = .slice (some ⟨g, 0, none⟩) n cap ∧ B ≤ g ∧ g < w.heap.size ∧ n ≤ cap ∧ cap ≤ maxLen ∧ ∀ j u, xs[j]? = some u → w.cell? ⟨g, j, none⟩ = some u := by
  have hl := h.1
  rcases h.2 with ⟨rfl, h0⟩ | ⟨g, cap, cur, rfl, hg, hh, hn, hcap, hsz, htake⟩
  · subst h0
    exact .inl ⟨rfl, rfl, List.eq_nil_of_length_eq_zero (by simpa using hl)⟩
  · refine .inr ⟨g, cap, rfl, hg, (Array.getElem?_eq_some_iff.1 hh).1, hn, hcap, fun j u hu => ?_⟩
    have hj : j < xs.length := (List.getElem?_eq_some_iff.1 hu).1
    rw [h.cellAt j (by omega), hu]

end Go.Proofs.YtlnlbahggbbaeaaGreat
end

section
/- Walks: the document's own Get and Compare. -/

namespace Go.Proofs.YtlnlbahggbbaeaaGreat
open Go.RowKit Go.Lib

theorem cmpB_range (a b : List UInt8) : compareBytes a b = -1 ∨ compareBytes a b = 0 ∨ compareBytes a b = 1 := by
  induction a generalizing b with
  | nil => cases b <;> simp [compareBytes]
  | cons x xs ih =>
    cases b with
    | nil => simp [compareBytes]
    | cons y ys =>
      simp only [compareBytes]
      by_cases h1 : x < y
      · simp [h1]
      · by_cases h2 : y < x
        · simp [h1, h2]
        · simp only [h1, h2, if_false]; exact ih ys

set_option maxHeartbeats 1000000 in
set_option maxRecDepth 100000 in
theorem texts_any (a b : ByteArray) (w : World) : Calls Tryz.prog 77 #[.string a, .string b] w fun e w' => e = .returned (.int .i64 (compareBytes a.data.toList b.data.toList)) ∧ w = w' := by
  have hs := cmpB_spec a.data.toList b.data.toList
  have hr := cmpB_range a.data.toList b.data.toList
  by_cases h1 : a.data.toList < b.data.toList
  · have e : compareBytes a.data.toList b.data.toList = -1 := by have := hs.1.2 h1; omega
    have t1 : Op.bytesLess a.toList b.toList = true := by
      rw [bytesLess_eq, ByteArray.toList_eq, ByteArray.toList_eq]; exact decide_eq_true h1
    rw [e]
    clear hs hr h1 e
    go_enter Tryz.func77, Tryz.ntmps77
    go_wp2
    go_ret
    exact ⟨rfl, rfl⟩
  have t1 : Op.bytesLess a.toList b.toList = false := by
    rw [bytesLess_eq, ByteArray.toList_eq, ByteArray.toList_eq]; exact decide_eq_false h1
  by_cases h2 : b.data.toList < a.data.toList
  · have e : compareBytes a.data.toList b.data.toList = 1 := by have := hs.2.2.2 h2; omega
    have t2 : Op.bytesLess b.toList a.toList = true := by
      rw [bytesLess_eq, ByteArray.toList_eq, ByteArray.toList_eq]; exact decide_eq_true h2
    have t3 : (a.toList == b.toList) = false := by
      rw [ByteArray.toList_eq, ByteArray.toList_eq]
      refine beq_eq_false_iff_ne.2 fun hh => ?_
      rw [hh] at h2
      exact absurd h2 (List.lt_irrefl _)
    rw [e]
    clear hs hr h1 h2 e
    go_enter Tryz.func77, Tryz.ntmps77
    go_wp2
    go_ret
    exact ⟨rfl, rfl⟩
  · have t2 : Op.bytesLess b.toList a.toList = false := by
      rw [bytesLess_eq, ByteArray.toList_eq, ByteArray.toList_eq]; exact decide_eq_false h2
    have e : compareBytes a.data.toList b.data.toList = 0 := by
      rcases hr with h | h | h
      · exact absurd (hs.1.1 (by omega)) h1
      · exact h
      · exact absurd (hs.2.2.1 (by omega)) h2
    have t3 : (a.toList == b.toList) = true := by
      rw [ByteArray.toList_eq, ByteArray.toList_eq, hs.2.1.1 e]
      exact beq_self_eq_true _
    rw [e]
    clear hs hr h1 h2 e
    go_enter Tryz.func77, Tryz.ntmps77
    go_wp2
    go_ret
    exact ⟨rfl, rfl⟩

set_option maxHeartbeats 4000000 in
set_option maxRecDepth 100000 in
theorem rcompare_any (o1 o2 : Option Addr) (c1 c2 : Nat) (xs ys : List Lab) (w : World) (hm : xs.length ≤ maxLen) (_hm2 : ys.length ≤ maxLen) (h1 : SeesO w o1 xs) (h2 : SeesO w o2 ys) :
    Calls Tryz.prog 26 #[.slice o1 xs.length c1, .slice o2 ys.length c2] w fun e w' => e = .returned (.int .i64 (cmpL xs ys)) ∧ Below w.heap.size w w' := by
  obtain ⟨n, hn⟩ : ∃ n, xs.length = n := ⟨_, rfl⟩
  obtain ⟨m, hm'⟩ : ∃ m, ys.length = m := ⟨_, rfl⟩
  have HN := Lib.hid hn
  have HM := Lib.hid hm'
  rw [hn] at hm ⊢
  rw [hm'] at _hm2 ⊢
  clear hn hm'
  unfold maxLen at hm _hm2
  have HS1 := Lib.hid h1
  have HS2 := Lib.hid h2
  clear h1 h2
  go_enter Tryz.func26, Tryz.ntmps26
  go_wp2
  go_loopw [5] (fun v5 wr => ∃ k : Nat, v5 = .int .i64 k ∧ k ≤ n ∧ k ≤ m ∧ Hid (Below w.heap.size w wr) ∧ Hid (cmpL (xs.drop k) (ys.drop k) = cmpL xs ys)) (fun v5 _ => n - (RowKit.intOf v5).toNat)
  case atStart => exact ⟨0, rfl, Nat.zero_le _, Nat.zero_le _, Lib.hid (Below.refl _ _), Lib.hid rfl⟩
  case round =>
    obtain ⟨k, rfl, hk, hk2, HB, H⟩ := hrel
    by_cases hkn : k < n
    · have j1 : (k : Int) < n := by omega
      by_cases hkm : k < m
      · have j2 : (k : Int) < m := by omega
        obtain ⟨x, hx⟩ := get_lt HN.out hkn
        obtain ⟨y, hy⟩ := get_lt HM.out hkm
        obtain ⟨b, off, rfl, hS⟩ := (HS1.out.below HB.out).at hx
        obtain ⟨b2, off2, rfl, hS2⟩ := (HS2.out.below HB.out).at hy
        have a0 := hS.at0 k x hx
        have a1 := hS.at1 k x hx
        have d0 := hS2.at0 k y hy
        have d1 := hS2.at1 k y hy
        have b1 := hS.low
        have b2' := hS2.low
        have HX := Lib.hid (drop_at hx)
        have HY := Lib.hid (drop_at hy)
        have HT1 := Lib.hid (fun W => (show Calls Tryz.prog 77 #[.string x.1, .string y.1] W fun e w' => e = .returned (.int .i64 (cmpN x y)) ∧ w' = W from (texts_any x.1 y.1 W).mono fun e w' h => ⟨h.1, h.2.symm⟩))
        have HT2 := Lib.hid (fun W => (show Calls Tryz.prog 77 #[.string x.2, .string y.2] W fun e w' => e = .returned (.int .i64 (cmpV x y)) ∧ w' = W from (texts_any x.2 y.2 W).mono fun e w' h => ⟨h.1, h.2.symm⟩))
        have hz : cmpL (xs.drop k) (ys.drop k) = if cmp2 x y = 0 then cmpL (xs.drop (k + 1)) (ys.drop (k + 1)) else cmp2 x y := by rw [HX.out, HY.out, cmpL]
        have HZ := Lib.hid (H.out.symm.trans hz)
        clear hS hS2 hx hy hz
        obtain ⟨c, hc⟩ : ∃ c, cmpN x y = c := ⟨_, rfl⟩
        obtain ⟨d, hd⟩ : ∃ d, cmpV x y = d := ⟨_, rfl⟩
        have HC2 := Lib.hid (show cmp2 x y = if c = 0 then d else c by unfold cmp2; rw [hc, hd])
        rw [hc] at HT1
        rw [hd] at HT2
        clear hc hd
        go_wp2_with fail
        go_quiet ((go_at_call 77; exact Calls.quiet_of_same (HT1.out _)))
        have HBq := Lib.hid (show Below w.heap.size w (wr.drewN nq) from HB.out.trans ⟨rfl, rfl, rfl, Nat.le_refl _, fun _ _ => rfl⟩)
        by_cases h0 : c = 0
        · have e2 : cmp2 x y = d := by rw [HC2.out, if_pos h0]
          have t1 : (c == 0) = true := by simpa using h0
          obtain ⟨wz, hwz⟩ : ∃ wz, wr.drewN nq = wz := ⟨_, rfl⟩
          have e1 : wz.cell? ⟨b, off + k * 2 + 1, none⟩ = some (.string x.2) := by rw [← hwz]; exact a1
          have f1 : wz.cell? ⟨b2, off2 + k * 2 + 1, none⟩ = some (.string y.2) := by rw [← hwz]; exact d1
          rw [hwz] at HBq ⊢
          have HE2 := Lib.hid e2
          clear hwz h0 e2
          go_wp2_with fail
          go_quiet ((go_at_call 77; exact Calls.quiet_of_same (HT2.out _)))
          have HBz := Lib.hid (show Below w.heap.size w (wz.drewN nq) from HBq.out.trans ⟨rfl, rfl, rfl, Nat.le_refl _, fun _ _ => rfl⟩)
          by_cases h00 : d = 0
          · have t2 : (d != 0) = false := by simp [h00]
            have H2 := Lib.hid (show cmpL (xs.drop (k + 1)) (ys.drop (k + 1)) = cmpL xs ys by rw [HZ.out, if_pos (HE2.out.trans h00)])
            clear h00
            go_wp2
            go_roundw
            case rel => exact ⟨k + 1, by go_num, by omega, by omega, HBz, H2⟩
            case measure => simp [RowKit.intOf]; omega
          · have t2 : (d != 0) = true := by rw [bne_iff_ne]; exact h00
            have H2 := Lib.hid (show d = cmpL xs ys by rw [HZ.out, if_neg (by rw [HE2.out]; exact h00), HE2.out])
            clear h00
            go_wp2
            go_ret
            exact ⟨ret_int H2.out, HBz.out⟩
        · have t1 : (c == 0) = false := by simpa using h0
          have t2 : (c != 0) = true := by rw [bne_iff_ne]; exact h0
          have H2 := Lib.hid (show c = cmpL xs ys by
            have e2 : cmp2 x y = c := by rw [HC2.out, if_neg h0]
            rw [HZ.out, if_neg (by rw [e2]; exact h0), e2])
          clear h0
          go_wp2
          go_ret
          exact ⟨ret_int H2.out, HBq.out⟩
      · have j2 : (m : Int) ≤ k := by omega
        obtain rfl : m = k := by omega
        obtain ⟨x, hx⟩ := get_lt HN.out hkn
        have H2 := Lib.hid (show (1 : Int) = cmpL xs ys by
          have e1 : ys.drop m = [] := List.drop_eq_nil_of_le (by rw [HM.out]; omega)
          rw [← H.out, drop_at hx, e1, cmpL])
        clear hx
        go_wp2
        go_ret
        exact ⟨ret_int H2.out, HB.out⟩
    · obtain rfl : n = k := by omega
      by_cases hnm : n < m
      · have j2 : (n : Int) < m := by omega
        have H2 := Lib.hid (show (-1 : Int) = cmpL xs ys by
          rw [← H.out, List.drop_eq_nil_of_le (by rw [HN.out]; omega)]
          obtain ⟨y, hy⟩ := get_lt HM.out hnm
          rw [drop_at hy, cmpL])
        go_wp2
        go_ret
        exact ⟨ret_int H2.out, HB.out⟩
      · obtain rfl : m = n := by omega
        have H2 := Lib.hid (show (0 : Int) = cmpL xs ys by
          rw [← H.out, List.drop_eq_nil_of_le (by rw [HN.out]; omega), List.drop_eq_nil_of_le (by rw [HM.out]; omega), cmpL])
        go_wp2
        go_ret
        exact ⟨ret_int H2.out, HB.out⟩
end Go.Proofs.YtlnlbahggbbaeaaGreat
end

section
/- The document's own Tidy: plain, and what its regions lean on. -/

namespace Go.Proofs.YtlnlbahggbbaeaaGreat
open Go.RowKit Go.Lib

/-- A label put where it belongs. -/
def insL (S : List Lab) (x : Lab) (k : Nat) : List Lab := S.take k ++ x :: S.drop k
theorem insL_perm (S : List Lab) (x : Lab) (k : Nat) : (insL S x k).Perm (S ++ [x]) := by
  unfold insL
  have h1 : (S.take k ++ x :: S.drop k).Perm (x :: (S.take k ++ S.drop k)) := List.perm_middle
  rw [List.take_append_drop] at h1
  exact h1.trans (List.perm_append_comm (l₁ := [x]) (l₂ := S))
theorem insL_len (S : List Lab) (x : Lab) (k : Nat) : (insL S x k).length = S.length + 1 := by
  have := (insL_perm S x k).length_eq; simpa using this
/-- The first labels, in order, all fit. -/
def Laid (S zs : List Lab) (i : Nat) : Prop := S.length = i ∧ S.Pairwise (fun a b => nm a < nm b) ∧ S.Perm (zs.take i) ∧ ∀ x ∈ S, fitsB x.1 x.2 = true
theorem Laid.nil (zs : List Lab) : Laid [] zs 0 := ⟨rfl, List.Pairwise.nil, List.Perm.refl _, fun x hx => by simp at hx⟩
theorem Laid.step {S zs : List Lab} {x : Lab} {i : Nat} (h : Laid S zs i) (k : Nat) (h1 : ∀ y ∈ S.take k, nm y < nm x) (h2 : ∀ y, S[k]? = some y → nm x < nm y) (hf : fitsB x.1 x.2 = true) (ht : zs.take (i + 1) = zs.take i ++ [x]) : Laid (insL S x k) zs (i + 1) := by
  obtain ⟨a, b, c, d⟩ := h
  refine ⟨by rw [insL_len, a], ?_, by rw [ht]; exact (insL_perm S x k).trans (c.append_right [x]), fun y hy => ?_⟩
  · unfold insL
    have hdrop : ∀ y ∈ S.drop k, nm x < nm y := by
      have hp : (S.drop k).Pairwise (fun a b => nm a < nm b) := b.sublist (List.drop_sublist _ _)
      cases hd : S.drop k with
      | nil => intro y hy; simp at hy
      | cons z r =>
        have hz : S[k]? = some z := by
          have : (S.drop k)[0]? = some z := by rw [hd]; rfl
          rw [List.getElem?_drop] at this; exact this
        have h3 := h2 z hz
        rw [hd] at hp
        intro y hy
        rcases List.mem_cons.1 hy with rfl | hy
        · exact h3
        · exact lt_trans' h3 ((List.pairwise_cons.1 hp).1 y hy)
    rw [List.pairwise_append]
    refine ⟨b.sublist (List.take_sublist _ _), List.pairwise_cons.2 ⟨hdrop, b.sublist (List.drop_sublist _ _)⟩, fun u hu v hv => ?_⟩
    rcases List.mem_cons.1 hv with rfl | hv
    · exact h1 u hu
    · exact lt_trans' (h1 u hu) (hdrop v hv)
  · rcases List.mem_append.1 ((insL_perm S x k).mem_iff.1 hy) with hy | hy
    · exact d y hy
    · rw [List.mem_singleton.1 hy]; exact hf
theorem Laid.done {S zs : List Lab} {n : Nat} (h : Laid S zs n) (hn : zs.length = n) (h8 : n ≤ 8) : tidyB zs = true ∧ S = sortL zs := by
  obtain ⟨a, b, c, d⟩ := h
  have hr : rightB S = true := (right_iff S).2 ⟨by omega, b, d⟩
  rw [List.take_of_length_le (by omega)] at c
  obtain ⟨e1, e2⟩ := sorted_right c (right_sorted hr)
  exact ⟨by rw [← e2]; exact hr, e1 hr⟩
theorem Sees.take {w : World} {b off : Nat} {xs : List Lab} (h : Sees w b off xs) (k : Nat) : Sees w b off (xs.take k) := by
  have e : ∀ (j : Nat) (x : Lab), (xs.take k)[j]? = some x → xs[j]? = some x := fun j x hx => by
    rw [List.getElem?_take] at hx; split at hx
    · exact hx
    · simp at hx
  exact ⟨h.low, fun j x hx => h.at0 j x (e j x hx), fun j x hx => h.at1 j x (e j x hx)⟩
theorem Sees.drop {w : World} {b off : Nat} {xs : List Lab} (h : Sees w b off xs) (k : Nat) : Sees w b (off + k * 2) (xs.drop k) := by
  refine ⟨h.low, fun j x hx => ?_, fun j x hx => ?_⟩
  · rw [List.getElem?_drop] at hx
    have := h.at0 _ _ hx
    rw [show off + k * 2 + j * 2 = off + (k + j) * 2 by omega]; exact this
  · rw [List.getElem?_drop] at hx
    have := h.at1 _ _ hx
    rw [show off + k * 2 + j * 2 = off + (k + j) * 2 by omega]; exact this
end Go.Proofs.YtlnlbahggbbaeaaGreat
end

section
/- Walks: the document's own Tidy. -/

namespace Go.Proofs.YtlnlbahggbbaeaaGreat
open Go.RowKit Go.Lib

end Go.Proofs.YtlnlbahggbbaeaaGreat
end

section
/- Walks: the document's own Right; both Tidys in one form. -/

namespace Go.Proofs.YtlnlbahggbbaeaaGreat
open Go.RowKit Go.Lib

end Go.Proofs.YtlnlbahggbbaeaaGreat
end
