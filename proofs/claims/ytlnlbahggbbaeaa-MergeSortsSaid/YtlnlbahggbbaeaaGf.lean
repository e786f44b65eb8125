import Derived.Test.YtlnlbahggbbaeaaGa
import Derived.Laws.OwnMore
import Derived.Deep.DeepMust
import Derived.Test.YtlnlbahggbbaeaaGe
import Derived.BigQuiet
import Derived.Deep.QuietTactic
import Derived.WalkLawsBesides
import Derived.Deep.RegionLaw
import Derived.Deep.AppendLies
section
/- A walk: a text's runes as a list. -/

namespace Go.Proofs.Ytlnlbahggbbaeaa
open Go.RowKit

end Go.Proofs.Ytlnlbahggbbaeaa
end

section
/- Walks: the document's own Spell, Kind and Name. -/

namespace Go.Proofs.Ytlnlbahggbbaeaa
open Go.RowKit

end Go.Proofs.Ytlnlbahggbbaeaa
end

section
/- Walks: the document's own Get and Compare. -/

namespace Go.Proofs.Ytlnlbahggbbaeaa
open Go.RowKit Go.Lib

theorem cmpB_range (a b : List UInt8) : compareBytes a b = -1 ∨ compareBytes a b = 0 ∨ compareBytes a b = 1 := by
  induction a generalizing b with
  | nil => cases b <;> simp [compareBytes]
  | cons x xs ih =>
    cases b with
    | nil => simp [compareBytes]
    | cons y ys =>
      simp only [compareBytes]
      by_cases h1 : x < y
      · simp [h1]
      · by_cases h2 : y < x
        · simp [h1, h2]
        · simp only [h1, h2, if_false]; exact ih ys

set_option maxHeartbeats 1000000 in
set_option maxRecDepth 100000 in
theorem texts_any (a b : ByteArray) (w : World) : Calls Try.prog 29 #[.string a, .string b] w fun e w' => e = .returned (.int .i64 (compareBytes a.data.toList b.data.toList)) ∧ w = w' := by
  have hs := cmpB_spec a.data.toList b.data.toList
  have hr := cmpB_range a.data.toList b.data.toList
  by_cases h1 : a.data.toList < b.data.toList
  · have e : compareBytes a.data.toList b.data.toList = -1 := by have := hs.1.2 h1; omega
    have t1 : Op.bytesLess a.toList b.toList = true := by
      rw [bytesLess_eq, ByteArray.toList_eq, ByteArray.toList_eq]; exact decide_eq_true h1
    rw [e]
    clear hs hr h1 e
    go_enter Try.func29, Try.ntmps29
    go_wp2
    go_ret
    exact ⟨rfl, rfl⟩
  have t1 : Op.bytesLess a.toList b.toList = false := by
    rw [bytesLess_eq, ByteArray.toList_eq, ByteArray.toList_eq]; exact decide_eq_false h1
  by_cases h2 : b.data.toList < a.data.toList
  · have e : compareBytes a.data.toList b.data.toList = 1 := by have := hs.2.2.2 h2; omega
    have t2 : Op.bytesLess b.toList a.toList = true := by
      rw [bytesLess_eq, ByteArray.toList_eq, ByteArray.toList_eq]; exact decide_eq_true h2
    have t3 : (a.toList == b.toList) = false := by
      rw [ByteArray.toList_eq, ByteArray.toList_eq]
      refine beq_eq_false_iff_ne.2 fun hh => ?_
      rw [hh] at h2
      exact absurd h2 (List.lt_irrefl _)
    rw [e]
    clear hs hr h1 h2 e
    go_enter Try.func29, Try.ntmps29
    go_wp2
    go_ret
    exact ⟨rfl, rfl⟩
  · have t2 : Op.bytesLess b.toList a.toList = false := by
      rw [bytesLess_eq, ByteArray.toList_eq, ByteArray.toList_eq]; exact decide_eq_false h2
    have e : compareBytes a.data.toList b.data.toList = 0 := by
      rcases hr with h | h | h
      · exact absurd (hs.1.1 (by omega)) h1
      · exact h
      · exact absurd (hs.2.2.1 (by omega)) h2
    have t3 : (a.toList == b.toList) = true := by
      rw [ByteArray.toList_eq, ByteArray.toList_eq, hs.2.1.1 e]
      exact beq_self_eq_true _
    rw [e]
    clear hs hr h1 h2 e
    go_enter Try.func29, Try.ntmps29
    go_wp2
    go_ret
    exact ⟨rfl, rfl⟩

set_option maxHeartbeats 4000000 in
set_option maxRecDepth 100000 in
theorem rcompare_any (o1 o2 : Option Addr) (c1 c2 : Nat) (xs ys : List Lab) (w : World) (hm : xs.length ≤ maxLen) (_hm2 : ys.length ≤ maxLen) (h1 : SeesO w o1 xs) (h2 : SeesO w o2 ys) :
    Calls Try.prog 20 #[.slice o1 xs.length c1, .slice o2 ys.length c2] w fun e w' => e = .returned (.int .i64 (cmpL xs ys)) ∧ Below w.heap.size w w' := by
  obtain ⟨n, hn⟩ : ∃ n, xs.length = n := ⟨_, rfl⟩
  obtain ⟨m, hm'⟩ : ∃ m, ys.length = m := ⟨_, rfl⟩
  have HN := Lib.hid hn
  have HM := Lib.hid hm'
  rw [hn] at hm ⊢
  rw [hm'] at _hm2 ⊢
  clear hn hm'
  unfold maxLen at hm _hm2
  have HS1 := Lib.hid h1
  have HS2 := Lib.hid h2
  clear h1 h2
  go_enter Try.func20, Try.ntmps20
  go_wp2
  go_loopw [5] (fun v5 wr => ∃ k : Nat, v5 = .int .i64 k ∧ k ≤ n ∧ k ≤ m ∧ Hid (Below w.heap.size w wr) ∧ Hid (cmpL (xs.drop k) (ys.drop k) = cmpL xs ys)) (fun v5 _ => n - (RowKit.intOf v5).toNat)
  case atStart => exact ⟨0, rfl, Nat.zero_le _, Nat.zero_le _, Lib.hid (Below.refl _ _), Lib.hid rfl⟩
  case round =>
    obtain ⟨k, rfl, hk, hk2, HB, H⟩ := hrel
    by_cases hkn : k < n
    · have j1 : (k : Int) < n := by omega
      by_cases hkm : k < m
      · have j2 : (k : Int) < m := by omega
        obtain ⟨x, hx⟩ := get_lt HN.out hkn
        obtain ⟨y, hy⟩ := get_lt HM.out hkm
        obtain ⟨b, off, rfl, hS⟩ := (HS1.out.below HB.out).at hx
        obtain ⟨b2, off2, rfl, hS2⟩ := (HS2.out.below HB.out).at hy
        have a0 := hS.at0 k x hx
        have a1 := hS.at1 k x hx
        have d0 := hS2.at0 k y hy
        have d1 := hS2.at1 k y hy
        have b1 := hS.low
        have b2' := hS2.low
        have HX := Lib.hid (drop_at hx)
        have HY := Lib.hid (drop_at hy)
        have HT1 := Lib.hid (fun W => (show Calls Try.prog 29 #[.string x.1, .string y.1] W fun e w' => e = .returned (.int .i64 (cmpN x y)) ∧ w' = W from (texts_any x.1 y.1 W).mono fun e w' h => ⟨h.1, h.2.symm⟩))
        have HT2 := Lib.hid (fun W => (show Calls Try.prog 29 #[.string x.2, .string y.2] W fun e w' => e = .returned (.int .i64 (cmpV x y)) ∧ w' = W from (texts_any x.2 y.2 W).mono fun e w' h => ⟨h.1, h.2.symm⟩))
        have hz : cmpL (xs.drop k) (ys.drop k) = if cmp2 x y = 0 then cmpL (xs.drop (k + 1)) (ys.drop (k + 1)) else cmp2 x y := by rw [HX.out, HY.out, cmpL]
        have HZ := Lib.hid (H.out.symm.trans hz)
        clear hS hS2 hx hy hz
        obtain ⟨c, hc⟩ : ∃ c, cmpN x y = c := ⟨_, rfl⟩
        obtain ⟨d, hd⟩ : ∃ d, cmpV x y = d := ⟨_, rfl⟩
        have HC2 := Lib.hid (show cmp2 x y = if c = 0 then d else c by unfold cmp2; rw [hc, hd])
        rw [hc] at HT1
        rw [hd] at HT2
        clear hc hd
        go_wp2_with fail
        go_quiet ((go_at_call 29; exact Calls.quiet_of_same (HT1.out _)))
        have HBq := Lib.hid (show Below w.heap.size w (wr.drewN nq) from HB.out.trans ⟨rfl, rfl, rfl, Nat.le_refl _, fun _ _ => rfl⟩)
        by_cases h0 : c = 0
        · have e2 : cmp2 x y = d := by rw [HC2.out, if_pos h0]
          have t1 : (c == 0) = true := by simpa using h0
          obtain ⟨wz, hwz⟩ : ∃ wz, wr.drewN nq = wz := ⟨_, rfl⟩
          have e1 : wz.cell? ⟨b, off + k * 2 + 1, none⟩ = some (.string x.2) := by rw [← hwz]; exact a1
          have f1 : wz.cell? ⟨b2, off2 + k * 2 + 1, none⟩ = some (.string y.2) := by rw [← hwz]; exact d1
          rw [hwz] at HBq ⊢
          have HE2 := Lib.hid e2
          clear hwz h0 e2
          go_wp2_with fail
          go_quiet ((go_at_call 29; exact Calls.quiet_of_same (HT2.out _)))
          have HBz := Lib.hid (show Below w.heap.size w (wz.drewN nq) from HBq.out.trans ⟨rfl, rfl, rfl, Nat.le_refl _, fun _ _ => rfl⟩)
          by_cases h00 : d = 0
          · have t2 : (d != 0) = false := by simp [h00]
            have H2 := Lib.hid (show cmpL (xs.drop (k + 1)) (ys.drop (k + 1)) = cmpL xs ys by rw [HZ.out, if_pos (HE2.out.trans h00)])
            clear h00
            go_wp2
            go_roundw
            case rel => exact ⟨k + 1, by go_num, by omega, by omega, HBz, H2⟩
            case measure => simp [RowKit.intOf]; omega
          · have t2 : (d != 0) = true := by rw [bne_iff_ne]; exact h00
            have H2 := Lib.hid (show d = cmpL xs ys by rw [HZ.out, if_neg (by rw [HE2.out]; exact h00), HE2.out])
            clear h00
            go_wp2
            go_ret
            exact ⟨ret_int H2.out, HBz.out⟩
        · have t1 : (c == 0) = false := by simpa using h0
          have t2 : (c != 0) = true := by rw [bne_iff_ne]; exact h0
          have H2 := Lib.hid (show c = cmpL xs ys by
            have e2 : cmp2 x y = c := by rw [HC2.out, if_neg h0]
            rw [HZ.out, if_neg (by rw [e2]; exact h0), e2])
          clear h0
          go_wp2
          go_ret
          exact ⟨ret_int H2.out, HBq.out⟩
      · have j2 : (m : Int) ≤ k := by omega
        obtain rfl : m = k := by omega
        obtain ⟨x, hx⟩ := get_lt HN.out hkn
        have H2 := Lib.hid (show (1 : Int) = cmpL xs ys by
          have e1 : ys.drop m = [] := List.drop_eq_nil_of_le (by rw [HM.out]; omega)
          rw [← H.out, drop_at hx, e1, cmpL])
        clear hx
        go_wp2
        go_ret
        exact ⟨ret_int H2.out, HB.out⟩
    · obtain rfl : n = k := by omega
      by_cases hnm : n < m
      · have j2 : (n : Int) < m := by omega
        have H2 := Lib.hid (show (-1 : Int) = cmpL xs ys by
          rw [← H.out, List.drop_eq_nil_of_le (by rw [HN.out]; omega)]
          obtain ⟨y, hy⟩ := get_lt HM.out hnm
          rw [drop_at hy, cmpL])
        go_wp2
        go_ret
        exact ⟨ret_int H2.out, HB.out⟩
      · obtain rfl : m = n := by omega
        have H2 := Lib.hid (show (0 : Int) = cmpL xs ys by
          rw [← H.out, List.drop_eq_nil_of_le (by rw [HN.out]; omega), List.drop_eq_nil_of_le (by rw [HM.out]; omega), cmpL])
        go_wp2
        go_ret
        exact ⟨ret_int H2.out, HB.out⟩
end Go.Proofs.Ytlnlbahggbbaeaa
end

section
/- The document's own Tidy: plain, and what its regions lean on. -/

namespace Go.Proofs.Ytlnlbahggbbaeaa
open Go.RowKit Go.Lib

theorem drewN_two (w : World) (a b : Nat) : (w.drewN a).drewN b = w.drewN (a + b) := by simp [World.drewN, Nat.add_assoc]

/-- The first labels, in order, all fit. -/
def Laid (S zs : List Lab) (i : Nat) : Prop := S.length = i ∧ S.Pairwise (fun a b => nm a < nm b) ∧ S.Perm (zs.take i) ∧ ∀ x ∈ S, fitsB x.1 x.2 = true
theorem Laid.nil (zs : List Lab) : Laid [] zs 0 := ⟨rfl, List.Pairwise.nil, List.Perm.refl _, fun x hx => by simp at hx⟩
theorem Sees.take {w : World} {b off : Nat} {xs : List Lab} (h : Sees w b off xs) (k : Nat) : Sees w b off (xs.take k) := by
  have e : ∀ (j : Nat) (x : Lab), (xs.take k)[j]? = some x → xs[j]? = some x := fun j x hx => by
    rw [List.getElem?_take] at hx; split at hx
    · exact hx
    · simp at hx
  exact ⟨h.low, fun j x hx => h.at0 j x (e j x hx), fun j x hx => h.at1 j x (e j x hx)⟩
theorem Sees.drop {w : World} {b off : Nat} {xs : List Lab} (h : Sees w b off xs) (k : Nat) : Sees w b (off + k * 2) (xs.drop k) := by
  refine ⟨h.low, fun j x hx => ?_, fun j x hx => ?_⟩
  · rw [List.getElem?_drop] at hx
    have := h.at0 _ _ hx
    rw [show off + k * 2 + j * 2 = off + (k + j) * 2 by omega]; exact this
  · rw [List.getElem?_drop] at hx
    have := h.at1 _ _ hx
    rw [show off + k * 2 + j * 2 = off + (k + j) * 2 by omega]; exact this
/-- An append onto a row of the call's own, in a region that draws its order. -/
theorem own_stepL {P : Program} {ops : Array Oper} {o : Oper} {a : Act} {w : World} {K : Act → World → Prop} {Q : Exit → Act → World → Prop} {E : Prop} (hg : o.guard = none) (s x : Operand) (t : TypeId)
    (ho : o.op = .call { callee := .builtin .append, args := #[s, x], argTypes := #[t, t] })
    (base : Nat) (e : TypeId) (i : TypeInfo) (z : Value) (size bytes : Nat) (ht : P.underlying t = some (.slice e)) (hi : P.info? e = some i) (hz : i.zero = some z)
    (hsize : i.size = size) (hby : i.bytes = bytes) (hzs : z.cells.size = size) (hsz : 0 < size)
    (v : Value) (n : Nat) (xs : List Value) (hs : a.eval s = v) (hown : w.ownsRow base e size v n xs)
    (ad : Addr) (m c : Nat) (news : List Value) (hx : a.eval x = .slice (some ad) m c) (hl : news.length = m * size) (hnews : ∀ j u, news[j]? = some u → w.cell? (ad.add j) = some u) (h1 : ∀ u ∈ news, u.oneCell' = true)
    (h63 : n + m ≤ maxLen) (hbytes : (n + m) * bytes ≤ 140737488355328) (hbase : base ≤ w.heap.size)
    (h : ∀ v' w', w'.ownsRow base e size v' (n + m) (xs ++ news) → w.grownBy w' v.ownBlock → K (a.put o.dst v') w') :
    if Region.wanted o (yielded ops a.tmps) = true then Oper.wp P o a w K Q else E := by
  rw [if_pos (by simp [Region.wanted, hg])]
  exact wp_append_own w s x t ho base e i z size bytes ht hi hz hsize hby hzs hsz v n xs hs hown ad m c news hx hl hnews h1 h63 hbytes hbase fun v' w' h2 h3 _ => h v' w' h2 h3
theorem below_ownL {w w' : World} (h : w.grownBy w' (Value.slice none 0 0).ownBlock) : Below w.heap.size w w' := ⟨h.os, h.tape, h.output, h.size, fun j hj => h.block j hj (by simp [Value.ownBlock])⟩
end Go.Proofs.Ytlnlbahggbbaeaa
end

section
/- Walks: the document's own Tidy. -/

namespace Go.Proofs.Ytlnlbahggbbaeaa
open Go.RowKit Go.Lib

end Go.Proofs.Ytlnlbahggbbaeaa
end

section
/- Walks: the document's own Right; both Tidys in one form. -/

namespace Go.Proofs.Ytlnlbahggbbaeaa
open Go.RowKit Go.Lib

end Go.Proofs.Ytlnlbahggbbaeaa
end
