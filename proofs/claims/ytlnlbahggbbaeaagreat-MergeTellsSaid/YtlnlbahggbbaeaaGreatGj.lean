import Derived.Test.YtlnlbahggbbaeaaGreatGh
import Derived.Test.YtlnlbahggbbaeaaGreatGf
section
/- The document's order of labels, without a change; rows laid into a list, plain. -/

namespace Go.Proofs.YtlnlbahggbbaeaaGreat.Vec
open Go.RowKit Go.Lib

set_option maxHeartbeats 4000000 in
set_option maxRecDepth 100000 in
theorem rcompare_quiet (o1 o2 : Option Addr) (c1 c2 : Nat) (xs ys : List Lab) (w : World) (hm : xs.length ≤ maxLen) (_hm2 : ys.length ≤ maxLen) (h1 : Go.Proofs.YtlnlbahggbbaeaaGreat.SeesO w o1 xs) (h2 : Go.Proofs.YtlnlbahggbbaeaaGreat.SeesO w o2 ys) :
    Calls Tryz.prog 26 #[.slice o1 xs.length c1, .slice o2 ys.length c2] w fun e w' => e = .returned (.int .i64 (cmpL xs ys)) ∧ ∃ q, w' = w.drewN q := by
  obtain ⟨n, hn⟩ : ∃ n, xs.length = n := ⟨_, rfl⟩
  obtain ⟨m, hm'⟩ : ∃ m, ys.length = m := ⟨_, rfl⟩
  have HN := Lib.hid hn
  have HM := Lib.hid hm'
  rw [hn] at hm ⊢
  rw [hm'] at _hm2 ⊢
  clear hn hm'
  unfold maxLen at hm _hm2
  have HS1 := Lib.hid h1
  have HS2 := Lib.hid h2
  clear h1 h2
  go_enter Tryz.func26, Tryz.ntmps26
  go_wp2
  go_loopw [5] (fun v5 wr => ∃ k : Nat, v5 = .int .i64 k ∧ k ≤ n ∧ k ≤ m ∧ Hid (∃ q, wr = w.drewN q) ∧ Hid (cmpL (xs.drop k) (ys.drop k) = cmpL xs ys)) (fun v5 _ => n - (RowKit.intOf v5).toNat)
  case atStart => exact ⟨0, rfl, Nat.zero_le _, Nat.zero_le _, Lib.hid ⟨0, rfl⟩, Lib.hid rfl⟩
  case round =>
    obtain ⟨k, rfl, hk, hk2, HB, H⟩ := hrel
    by_cases hkn : k < n
    · have j1 : (k : Int) < n := by omega
      by_cases hkm : k < m
      · have j2 : (k : Int) < m := by omega
        obtain ⟨x, hx⟩ := get_lt HN.out hkn
        obtain ⟨y, hy⟩ := get_lt HM.out hkm
        obtain ⟨b, off, rfl, hS⟩ := (HS1.out.below (quietB HB.out)).at hx
        obtain ⟨b2, off2, rfl, hS2⟩ := (HS2.out.below (quietB HB.out)).at hy
        have a0 := hS.at0 k x hx
        have a1 := hS.at1 k x hx
        have d0 := hS2.at0 k y hy
        have d1 := hS2.at1 k y hy
        have b1 := hS.low
        have b2' := hS2.low
        have HX := Lib.hid (drop_at hx)
        have HY := Lib.hid (drop_at hy)
        have HT1 := Lib.hid (fun W => (show Calls Tryz.prog 77 #[.string x.1, .string y.1] W fun e w' => e = .returned (.int .i64 (cmpN x y)) ∧ w' = W from (texts_any x.1 y.1 W).mono fun e w' h => ⟨h.1, h.2.symm⟩))
        have HT2 := Lib.hid (fun W => (show Calls Tryz.prog 77 #[.string x.2, .string y.2] W fun e w' => e = .returned (.int .i64 (cmpV x y)) ∧ w' = W from (texts_any x.2 y.2 W).mono fun e w' h => ⟨h.1, h.2.symm⟩))
        have hz : cmpL (xs.drop k) (ys.drop k) = if cmp2 x y = 0 then cmpL (xs.drop (k + 1)) (ys.drop (k + 1)) else cmp2 x y := by rw [HX.out, HY.out, cmpL]
        have HZ := Lib.hid (H.out.symm.trans hz)
        clear hS hS2 hx hy hz
        obtain ⟨c, hc⟩ : ∃ c, cmpN x y = c := ⟨_, rfl⟩
        obtain ⟨d, hd⟩ : ∃ d, cmpV x y = d := ⟨_, rfl⟩
        have HC2 := Lib.hid (show cmp2 x y = if c = 0 then d else c by unfold cmp2; rw [hc, hd])
        rw [hc] at HT1
        rw [hd] at HT2
        clear hc hd
        go_wp2_with fail
        go_quiet ((go_at_call 77; exact Calls.quiet_of_same (HT1.out _)))
        have HBq := Lib.hid (quietQ HB.out nq)
        by_cases h0 : c = 0
        · have e2 : cmp2 x y = d := by rw [HC2.out, if_pos h0]
          have t1 : (c == 0) = true := by simpa using h0
          obtain ⟨wz, hwz⟩ : ∃ wz, wr.drewN nq = wz := ⟨_, rfl⟩
          have e1 : wz.cell? ⟨b, off + k * 2 + 1, none⟩ = some (.string x.2) := by rw [← hwz]; exact a1
          have f1 : wz.cell? ⟨b2, off2 + k * 2 + 1, none⟩ = some (.string y.2) := by rw [← hwz]; exact d1
          rw [hwz] at HBq ⊢
          have HE2 := Lib.hid e2
          clear hwz h0 e2
          go_wp2_with fail
          go_quiet ((go_at_call 77; exact Calls.quiet_of_same (HT2.out _)))
          have HBz := Lib.hid (quietQ HBq.out nq)
          by_cases h00 : d = 0
          · have t2 : (d != 0) = false := by simp [h00]
            have H2 := Lib.hid (show cmpL (xs.drop (k + 1)) (ys.drop (k + 1)) = cmpL xs ys by rw [HZ.out, if_pos (HE2.out.trans h00)])
            clear h00
            go_wp2
            go_roundw
            case rel => exact ⟨k + 1, by go_num, by omega, by omega, HBz, H2⟩
            case measure => simp [RowKit.intOf]; omega
          · have t2 : (d != 0) = true := by rw [bne_iff_ne]; exact h00
            have H2 := Lib.hid (show d = cmpL xs ys by rw [HZ.out, if_neg (by rw [HE2.out]; exact h00), HE2.out])
            clear h00
            go_wp2
            go_ret
            exact ⟨ret_int H2.out, HBz.out⟩
        · have t1 : (c == 0) = false := by simpa using h0
          have t2 : (c != 0) = true := by rw [bne_iff_ne]; exact h0
          have H2 := Lib.hid (show c = cmpL xs ys by
            have e2 : cmp2 x y = c := by rw [HC2.out, if_neg h0]
            rw [HZ.out, if_neg (by rw [e2]; exact h0), e2])
          clear h0
          go_wp2
          go_ret
          exact ⟨ret_int H2.out, HBq.out⟩
      · have j2 : (m : Int) ≤ k := by omega
        obtain rfl : m = k := by omega
        obtain ⟨x, hx⟩ := get_lt HN.out hkn
        have H2 := Lib.hid (show (1 : Int) = cmpL xs ys by
          have e1 : ys.drop m = [] := List.drop_eq_nil_of_le (by rw [HM.out]; omega)
          rw [← H.out, drop_at hx, e1, cmpL])
        clear hx
        go_wp2
        go_ret
        exact ⟨ret_int H2.out, HB.out⟩
    · obtain rfl : n = k := by omega
      by_cases hnm : n < m
      · have j2 : (n : Int) < m := by omega
        have H2 := Lib.hid (show (-1 : Int) = cmpL xs ys by
          rw [← H.out, List.drop_eq_nil_of_le (by rw [HN.out]; omega)]
          obtain ⟨y, hy⟩ := get_lt HM.out hnm
          rw [drop_at hy, cmpL])
        go_wp2
        go_ret
        exact ⟨ret_int H2.out, HB.out⟩
      · obtain rfl : m = n := by omega
        have H2 := Lib.hid (show (0 : Int) = cmpL xs ys by
          rw [← H.out, List.drop_eq_nil_of_le (by rw [HN.out]; omega), List.drop_eq_nil_of_le (by rw [HM.out]; omega), cmpL])
        go_wp2
        go_ret
        exact ⟨ret_int H2.out, HB.out⟩

def insR {α : Type} (S : List α) (x : α) (k : Nat) : List α := S.take k ++ x :: S.drop k
theorem insR_len {α : Type} (S : List α) (x : α) (k : Nat) : (insR S x k).length = S.length + 1 := by
  unfold insR
  rw [List.length_append, List.length_cons, ← Nat.add_assoc, ← List.length_append, List.take_append_drop]
theorem insR_perm {α : Type} (S : List α) (x : α) (k : Nat) : (insR S x k).Perm (S ++ [x]) := by
  unfold insR
  have h1 : (S.take k ++ x :: S.drop k).Perm (x :: (S.take k ++ S.drop k)) := List.perm_middle
  rw [List.take_append_drop] at h1
  exact h1.trans (List.perm_append_comm (l₁ := [x]) (l₂ := S))
structure LaidR (S xs : List Rw) (i : Nat) : Prop where
  len : S.length = i
  rises : risesR S = true
  perm : S.Perm (xs.take i)
theorem LaidR.nil (xs : List Rw) : LaidR [] xs 0 := ⟨rfl, rfl, List.Perm.refl _⟩
theorem LaidR.step {S xs : List Rw} {x : Rw} {i : Nat} (h : LaidR S xs i) (k : Nat) (hk : k ≤ i) (h1 : ∀ y ∈ S.drop k, cmpL x.1 y.1 < 0) (h2 : ∀ m y, k = m + 1 → S[m]? = some y → cmpL y.1 x.1 < 0) (hx : xs[i]? = some x) : LaidR (insR S x k) xs (i + 1) := by
  refine ⟨by rw [insR_len, h.len], ?_, ?_⟩
  · have hp := (rises_iff S).1 h.rises
    have hlow : ∀ y ∈ S.take k, cmpL y.1 x.1 < 0 := by
      intro y hy
      obtain ⟨j, hj, rfl⟩ := List.getElem_of_mem hy
      rw [List.length_take] at hj
      rw [List.getElem_take]
      cases k with
      | zero => omega
      | succ m =>
        have hm : m < S.length := by have := h.len; omega
        have hl := h2 m S[m] rfl (List.getElem?_eq_getElem hm)
        by_cases e : j = m
        · subst e; exact hl
        · exact cmpL_lt_trans ((List.pairwise_iff_getElem.1 hp) j m (by omega) hm (by omega)) hl
    unfold insR
    rw [rises_iff, List.pairwise_append]
    refine ⟨hp.take, List.pairwise_cons.2 ⟨h1, hp.drop⟩, fun a ha b hb => ?_⟩
    rcases List.mem_cons.1 hb with rfl | hb
    · exact hlow a ha
    · exact cmpL_lt_trans (hlow a ha) (h1 b hb)
  · rw [List.take_add_one, hx]
    exact (insR_perm S x k).trans (h.perm.append_right _)
theorem LaidR.done {S xs : List Rw} {n : Nat} (h : LaidR S xs n) (hn : xs.length = n) : orderR xs = (S, 0) := by
  have hp := h.perm
  rw [List.take_of_length_le (by omega)] at hp
  rw [order_any hp (rises_sorted h.rises), if_pos h.rises]
end Go.Proofs.YtlnlbahggbbaeaaGreat.Vec
end

section
/- The document's order of rows: the walk. -/

namespace Go.Proofs.YtlnlbahggbbaeaaGreat.Vec
open Go.RowKit

theorem OwnG.at_take {α : Type} {E : Elem α} {k : Nat} {t : TypeId} {BE : Nat} {w : World} {B g n c : Nat} {us : List (List Value)} {xs : List α} (_F : Firm E k t BE) (h : OwnG E k t w B (.slice (some ⟨g, 0, none⟩) n c) us xs) (m : Nat) {W : World} (hb : Below w.heap.size w W) : ∀ j u, (us.take m).flatten[j]? = some u → W.cell? ((⟨g, 0, none⟩ : Addr).add j) = some u := by
  intro j u hj
  have hl := (List.getElem?_eq_some_iff.1 hj).1
  have h1 : us.flatten[j]? = some u := by
    have e : us.flatten = (us.take m).flatten ++ (us.drop m).flatten := by rw [← List.flatten_append, List.take_append_drop]
    rw [e, List.getElem?_append_left hl]; exact hj
  have h2 := h.own.cells (g := g) rfl j u h1
  have hg := (h.own.lt g rfl).2
  rw [← h2]
  unfold Addr.add
  split
  · exact hb.cell (p := ⟨g, 0, none⟩) hg
  · exact hb.cell (p := ⟨g, _, none⟩) hg
theorem OwnG.at_drop {α : Type} {E : Elem α} {k : Nat} {t : TypeId} {BE : Nat} {w : World} {B g n c : Nat} {us : List (List Value)} {xs : List α} (F : Firm E k t BE) (h : OwnG E k t w B (.slice (some ⟨g, 0, none⟩) n c) us xs) (m : Nat) {W : World} (hb : Below w.heap.size w W) : ∀ j u, (us.drop m).flatten[j]? = some u → W.cell? ((⟨g, m * k, none⟩ : Addr).add j) = some u := by
  intro j u hj
  by_cases hm : m ≤ us.length
  · have hw : ∀ v ∈ us.take m, v.length = k := fun v hv => h.wide F v (List.mem_of_mem_take hv)
    have hlen : (us.take m).flatten.length = m * k := by
      have key : ∀ l : List (List Value), (∀ v ∈ l, v.length = k) → l.flatten.length = l.length * k := by
        intro l hl
        induction l with
        | nil => simp
        | cons a l ih => rw [List.flatten_cons, List.length_append, ih (fun v hv => hl v (List.mem_cons_of_mem _ hv)), hl a List.mem_cons_self, List.length_cons, Nat.add_mul]; omega
      rw [key _ hw, List.length_take, Nat.min_eq_left hm]
    have h1 : us.flatten[m * k + j]? = some u := by
      have e : us.flatten = (us.take m).flatten ++ (us.drop m).flatten := by rw [← List.flatten_append, List.take_append_drop]
      rw [e, List.getElem?_append_right (by omega), hlen, Nat.add_sub_cancel_left]; exact hj
    have h2 := h.own.cells (g := g) rfl (m * k + j) u h1
    have hg := (h.own.lt g rfl).2
    have e2 : ((⟨g, m * k, none⟩ : Addr).add j) = (⟨g, 0, none⟩ : Addr).add (m * k + j) := by
      unfold Addr.add
      by_cases hj0 : j = 0
      · subst hj0
        by_cases hm0 : m * k = 0
        · simp [hm0]
        · simp [hm0]
      · simp [hj0]
    rw [e2, ← h2]
    unfold Addr.add
    split
    · exact hb.cell (p := ⟨g, 0, none⟩) hg
    · exact hb.cell (p := ⟨g, _, none⟩) hg
  · rw [List.drop_eq_nil_of_le (by omega)] at hj; simp at hj
/-- Rows of the call's own, and an error; their labels as far as those that were read. -/
def OutB (BE B : Nat) (r : List Rw × Int) (e : Ending) (w' : World) : Prop := ∃ v, e = .returned (.tuple #[v, .int .i64 r.2]) ∧ ∃ us, OwnG (ERow BE) 2 51 w' B v us r.1

end Go.Proofs.YtlnlbahggbbaeaaGreat.Vec
end
