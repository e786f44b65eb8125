import Derived.Test.YtldlfmeppcdbbaaGh
import Derived.Test.YtldlfmeppcdbbaaGf
section
/- The document's order of labels, without a change; rows laid into a list, plain. -/

namespace Go.Proofs.Ytldlfmeppcdbbaa.Vec
open Go.RowKit Go.Lib

set_option maxHeartbeats 4000000 in
set_option maxRecDepth 100000 in
theorem rcompare_quiet (o1 o2 : Option Addr) (c1 c2 : Nat) (xs ys : List Lab) (w : World) (hm : xs.length ≤ maxLen) (_hm2 : ys.length ≤ maxLen) (h1 : Go.Proofs.Ytldlfmeppcdbbaa.SeesO w o1 xs) (h2 : Go.Proofs.Ytldlfmeppcdbbaa.SeesO w o2 ys) :
    Calls Try.prog 61 #[.slice o1 xs.length c1, .slice o2 ys.length c2] w fun e w' => e = .returned (.int .i64 (cmpL xs ys)) ∧ ∃ q, w' = w.drewN q := by
  obtain ⟨n, hn⟩ : ∃ n, xs.length = n := ⟨_, rfl⟩
  obtain ⟨m, hm'⟩ : ∃ m, ys.length = m := ⟨_, rfl⟩
  have HN := Lib.hid hn
  have HM := Lib.hid hm'
  rw [hn] at hm ⊢
  rw [hm'] at _hm2 ⊢
  clear hn hm'
  unfold maxLen at hm _hm2
  have HS1 := Lib.hid h1
  have HS2 := Lib.hid h2
  clear h1 h2
  go_enter Try.func61, Try.ntmps61
  go_wp2
  go_loopw [5] (fun v5 wr => ∃ k : Nat, v5 = .int .i64 k ∧ k ≤ n ∧ k ≤ m ∧ Hid (∃ q, wr = w.drewN q) ∧ Hid (cmpL (xs.drop k) (ys.drop k) = cmpL xs ys)) (fun v5 _ => n - (RowKit.intOf v5).toNat)
  case atStart => exact ⟨0, rfl, Nat.zero_le _, Nat.zero_le _, Lib.hid ⟨0, rfl⟩, Lib.hid rfl⟩
  case round =>
    obtain ⟨k, rfl, hk, hk2, HB, H⟩ := hrel
    by_cases hkn : k < n
    · have j1 : (k : Int) < n := by omega
      by_cases hkm : k < m
      · have j2 : (k : Int) < m := by omega
        obtain ⟨x, hx⟩ := get_lt HN.out hkn
        obtain ⟨y, hy⟩ := get_lt HM.out hkm
        obtain ⟨b, off, rfl, hS⟩ := (HS1.out.below (quietB HB.out)).at hx
        obtain ⟨b2, off2, rfl, hS2⟩ := (HS2.out.below (quietB HB.out)).at hy
        have a0 := hS.at0 k x hx
        have a1 := hS.at1 k x hx
        have d0 := hS2.at0 k y hy
        have d1 := hS2.at1 k y hy
        have b1 := hS.low
        have b2' := hS2.low
        have HX := Lib.hid (drop_at hx)
        have HY := Lib.hid (drop_at hy)
        have HT1 := Lib.hid (fun W => (show Calls Try.prog 69 #[.string x.1, .string y.1] W fun e w' => e = .returned (.int .i64 (cmpN x y)) ∧ w' = W from (texts_any x.1 y.1 W).mono fun e w' h => ⟨h.1, h.2.symm⟩))
        have HT2 := Lib.hid (fun W => (show Calls Try.prog 69 #[.string x.2, .string y.2] W fun e w' => e = .returned (.int .i64 (cmpV x y)) ∧ w' = W from (texts_any x.2 y.2 W).mono fun e w' h => ⟨h.1, h.2.symm⟩))
        have hz : cmpL (xs.drop k) (ys.drop k) = if cmp2 x y = 0 then cmpL (xs.drop (k + 1)) (ys.drop (k + 1)) else cmp2 x y := by rw [HX.out, HY.out, cmpL]
        have HZ := Lib.hid (H.out.symm.trans hz)
        clear hS hS2 hx hy hz
        obtain ⟨c, hc⟩ : ∃ c, cmpN x y = c := ⟨_, rfl⟩
        obtain ⟨d, hd⟩ : ∃ d, cmpV x y = d := ⟨_, rfl⟩
        have HC2 := Lib.hid (show cmp2 x y = if c = 0 then d else c by unfold cmp2; rw [hc, hd])
        rw [hc] at HT1
        rw [hd] at HT2
        clear hc hd
        go_wp2_with fail
        go_quiet ((go_at_call 69; exact Calls.quiet_of_same (HT1.out _)))
        have HBq := Lib.hid (quietQ HB.out nq)
        by_cases h0 : c = 0
        · have e2 : cmp2 x y = d := by rw [HC2.out, if_pos h0]
          have t1 : (c == 0) = true := by simpa using h0
          obtain ⟨wz, hwz⟩ : ∃ wz, wr.drewN nq = wz := ⟨_, rfl⟩
          have e1 : wz.cell? ⟨b, off + k * 2 + 1, none⟩ = some (.string x.2) := by rw [← hwz]; exact a1
          have f1 : wz.cell? ⟨b2, off2 + k * 2 + 1, none⟩ = some (.string y.2) := by rw [← hwz]; exact d1
          rw [hwz] at HBq ⊢
          have HE2 := Lib.hid e2
          clear hwz h0 e2
          go_wp2_with fail
          go_quiet ((go_at_call 69; exact Calls.quiet_of_same (HT2.out _)))
          have HBz := Lib.hid (quietQ HBq.out nq)
          by_cases h00 : d = 0
          · have t2 : (d != 0) = false := by simp [h00]
            have H2 := Lib.hid (show cmpL (xs.drop (k + 1)) (ys.drop (k + 1)) = cmpL xs ys by rw [HZ.out, if_pos (HE2.out.trans h00)])
            clear h00
            go_wp2
            go_roundw
            case rel => exact ⟨k + 1, by go_num, by omega, by omega, HBz, H2⟩
            case measure => simp [RowKit.intOf]; omega
          · have t2 : (d != 0) = true := by rw [bne_iff_ne]; exact h00
            have H2 := Lib.hid (show d = cmpL xs ys by rw [HZ.out, if_neg (by rw [HE2.out]; exact h00), HE2.out])
            clear h00
            go_wp2
            go_ret
            exact ⟨ret_int H2.out, HBz.out⟩
        · have t1 : (c == 0) = false := by simpa using h0
          have t2 : (c != 0) = true := by rw [bne_iff_ne]; exact h0
          have H2 := Lib.hid (show c = cmpL xs ys by
            have e2 : cmp2 x y = c := by rw [HC2.out, if_neg h0]
            rw [HZ.out, if_neg (by rw [e2]; exact h0), e2])
          clear h0
          go_wp2
          go_ret
          exact ⟨ret_int H2.out, HBq.out⟩
      · have j2 : (m : Int) ≤ k := by omega
        obtain rfl : m = k := by omega
        obtain ⟨x, hx⟩ := get_lt HN.out hkn
        have H2 := Lib.hid (show (1 : Int) = cmpL xs ys by
          have e1 : ys.drop m = [] := List.drop_eq_nil_of_le (by rw [HM.out]; omega)
          rw [← H.out, drop_at hx, e1, cmpL])
        clear hx
        go_wp2
        go_ret
        exact ⟨ret_int H2.out, HB.out⟩
    · obtain rfl : n = k := by omega
      by_cases hnm : n < m
      · have j2 : (n : Int) < m := by omega
        have H2 := Lib.hid (show (-1 : Int) = cmpL xs ys by
          rw [← H.out, List.drop_eq_nil_of_le (by rw [HN.out]; omega)]
          obtain ⟨y, hy⟩ := get_lt HM.out hnm
          rw [drop_at hy, cmpL])
        go_wp2
        go_ret
        exact ⟨ret_int H2.out, HB.out⟩
      · obtain rfl : m = n := by omega
        have H2 := Lib.hid (show (0 : Int) = cmpL xs ys by
          rw [← H.out, List.drop_eq_nil_of_le (by rw [HN.out]; omega), List.drop_eq_nil_of_le (by rw [HM.out]; omega), cmpL])
        go_wp2
        go_ret
        exact ⟨ret_int H2.out, HB.out⟩

def insR {α : Type} (S : List α) (x : α) (k : Nat) : List α := S.take k ++ x :: S.drop k
theorem insR_len {α : Type} (S : List α) (x : α) (k : Nat) : (insR S x k).length = S.length + 1 := by
  unfold insR
  rw [List.length_append, List.length_cons, ← Nat.add_assoc, ← List.length_append, List.take_append_drop]
theorem insR_perm {α : Type} (S : List α) (x : α) (k : Nat) : (insR S x k).Perm (S ++ [x]) := by
  unfold insR
  have h1 : (S.take k ++ x :: S.drop k).Perm (x :: (S.take k ++ S.drop k)) := List.perm_middle
  rw [List.take_append_drop] at h1
  exact h1.trans (List.perm_append_comm (l₁ := [x]) (l₂ := S))
structure LaidR (S xs : List Rw) (i : Nat) : Prop where
  len : S.length = i
  rises : risesR S = true
  perm : S.Perm (xs.take i)
theorem LaidR.nil (xs : List Rw) : LaidR [] xs 0 := ⟨rfl, rfl, List.Perm.refl _⟩
theorem LaidR.step {S xs : List Rw} {x : Rw} {i : Nat} (h : LaidR S xs i) (k : Nat) (hk : k ≤ i) (h1 : ∀ y ∈ S.drop k, cmpL x.1 y.1 < 0) (h2 : ∀ m y, k = m + 1 → S[m]? = some y → cmpL y.1 x.1 < 0) (hx : xs[i]? = some x) : LaidR (insR S x k) xs (i + 1) := by
  refine ⟨by rw [insR_len, h.len], ?_, ?_⟩
  · have hp := (rises_iff S).1 h.rises
    have hlow : ∀ y ∈ S.take k, cmpL y.1 x.1 < 0 := by
      intro y hy
      obtain ⟨j, hj, rfl⟩ := List.getElem_of_mem hy
      rw [List.length_take] at hj
      rw [List.getElem_take]
      cases k with
      | zero => omega
      | succ m =>
        have hm : m < S.length := by have := h.len; omega
        have hl := h2 m S[m] rfl (List.getElem?_eq_getElem hm)
        by_cases e : j = m
        · subst e; exact hl
        · exact cmpL_lt_trans ((List.pairwise_iff_getElem.1 hp) j m (by omega) hm (by omega)) hl
    unfold insR
    rw [rises_iff, List.pairwise_append]
    refine ⟨hp.take, List.pairwise_cons.2 ⟨h1, hp.drop⟩, fun a ha b hb => ?_⟩
    rcases List.mem_cons.1 hb with rfl | hb
    · exact hlow a ha
    · exact cmpL_lt_trans (hlow a ha) (h1 b hb)
  · rw [List.take_add_one, hx]
    exact (insR_perm S x k).trans (h.perm.append_right _)
theorem LaidR.done {S xs : List Rw} {n : Nat} (h : LaidR S xs n) (hn : xs.length = n) : orderR xs = (S, 0) := by
  have hp := h.perm
  rw [List.take_of_length_le (by omega)] at hp
  rw [order_any hp (rises_sorted h.rises), if_pos h.rises]
theorem twiceR {S xs : List Rw} {x y : Rw} {i j : Nat} (h : LaidR S xs i) (hx : xs[i]? = some x) (hy : S[j]? = some y) (he : cmpL y.1 x.1 = 0) : orderR xs = ([], 6) := by
  have he2 := (cmpL_zero _ _).1 he
  have hm := h.perm.mem_iff.1 (List.mem_of_getElem? hy)
  obtain ⟨k, hk, rfl⟩ := List.getElem_of_mem hm
  rw [List.length_take] at hk
  rw [List.getElem_take] at he2
  obtain ⟨hi, rfl⟩ := List.getElem?_eq_some_iff.1 hx
  unfold orderR
  rw [if_neg]
  intro hr
  have h1 : ((sortR xs).map (·.1)).Nodup := by
    rw [List.nodup_iff_pairwise_ne, List.pairwise_map]
    exact ((rises_iff _).1 hr).imp fun {a b} hab e => by
      rw [e, cmpL_self] at hab; omega
  have h2 : (xs.map (·.1)).Nodup := ((sortR_perm xs).map _).nodup_iff.1 h1
  rw [List.nodup_iff_pairwise_ne, List.pairwise_map, List.pairwise_iff_getElem] at h2
  exact h2 k i (by omega) hi (by omega) he2
end Go.Proofs.Ytldlfmeppcdbbaa.Vec
end

section
/- The document's order of rows: the walk. -/

namespace Go.Proofs.Ytldlfmeppcdbbaa.Vec
open Go.RowKit

theorem flat_len {us : List (List Value)} (h : ∀ u ∈ us, u.length = 2) : us.flatten.length = us.length * 2 := by
  induction us with
  | nil => rfl
  | cons u us ih =>
    rw [List.flatten_cons, List.length_append, ih (fun v hv => h v (List.mem_cons_of_mem _ hv)), h u List.mem_cons_self, List.length_cons]; omega
theorem own_posG {B i : Nat} {v : Value} {L : List Value} {w : World} {t : TypeId} (h : w.ownsRow B t 2 v i L) (h1 : 1 ≤ i) : ∃ g cap, v = .slice (some ⟨g, 0, none⟩) i cap ∧ (i : Int) ≤ cap ∧ g < w.heap.size ∧ i ≤ cap ∧ cap ≤ maxLen := by
  rcases h.2 with ⟨rfl, h0⟩ | ⟨g, cap, cur, rfl, hg, hh, hn, hcap, hsz, htake⟩
  · omega
  · exact ⟨g, cap, rfl, by omega, (Array.getElem?_eq_some_iff.1 hh).1, hn, hcap⟩
theorem cell_keptR {wq wA : World} {o : Option Addr} {n c : Nat} {v : Int} (h : (wq.drew.alloc (.cells #[.slice o n c, .int .i64 v] 40)).grownBy wA (Value.slice none 0 0).ownBlock) : ∀ j u, [Value.slice o n c, .int .i64 v][j]? = some u → wA.cell? ((⟨wq.heap.size, 0, none⟩ : Addr).add j) = some u := fun j u hj => by
  have h1 := cells_k wq.drew [Value.slice o n c, .int .i64 v] 40 j u hj
  have hb := below_ownL h
  have h2 : wq.heap.size < (wq.drew.alloc (.cells #[.slice o n c, .int .i64 v] 40)).heap.size := by simp
  have h3 := hb.block _ h2
  rw [← h1]
  unfold Addr.add
  split
  · exact cell_same h3
  · exact cell_same h3
theorem OwnG.at_take {α : Type} {E : Elem α} {k : Nat} {t : TypeId} {BE : Nat} {w : World} {B g n c : Nat} {us : List (List Value)} {xs : List α} (_F : Firm E k t BE) (h : OwnG E k t w B (.slice (some ⟨g, 0, none⟩) n c) us xs) (m : Nat) {W : World} (hb : Below w.heap.size w W) : ∀ j u, (us.take m).flatten[j]? = some u → W.cell? ((⟨g, 0, none⟩ : Addr).add j) = some u := by
  intro j u hj
  have hl := (List.getElem?_eq_some_iff.1 hj).1
  have h1 : us.flatten[j]? = some u := by
    have e : us.flatten = (us.take m).flatten ++ (us.drop m).flatten := by rw [← List.flatten_append, List.take_append_drop]
    rw [e, List.getElem?_append_left hl]; exact hj
  have h2 := h.own.cells (g := g) rfl j u h1
  have hg := (h.own.lt g rfl).2
  rw [← h2]
  unfold Addr.add
  split
  · exact hb.cell (p := ⟨g, 0, none⟩) hg
  · exact hb.cell (p := ⟨g, _, none⟩) hg
theorem OwnG.at_drop {α : Type} {E : Elem α} {k : Nat} {t : TypeId} {BE : Nat} {w : World} {B g n c : Nat} {us : List (List Value)} {xs : List α} (F : Firm E k t BE) (h : OwnG E k t w B (.slice (some ⟨g, 0, none⟩) n c) us xs) (m : Nat) {W : World} (hb : Below w.heap.size w W) : ∀ j u, (us.drop m).flatten[j]? = some u → W.cell? ((⟨g, m * k, none⟩ : Addr).add j) = some u := by
  intro j u hj
  by_cases hm : m ≤ us.length
  · have hw : ∀ v ∈ us.take m, v.length = k := fun v hv => h.wide F v (List.mem_of_mem_take hv)
    have hlen : (us.take m).flatten.length = m * k := by
      have key : ∀ l : List (List Value), (∀ v ∈ l, v.length = k) → l.flatten.length = l.length * k := by
        intro l hl
        induction l with
        | nil => simp
        | cons a l ih => rw [List.flatten_cons, List.length_append, ih (fun v hv => hl v (List.mem_cons_of_mem _ hv)), hl a List.mem_cons_self, List.length_cons, Nat.add_mul]; omega
      rw [key _ hw, List.length_take, Nat.min_eq_left hm]
    have h1 : us.flatten[m * k + j]? = some u := by
      have e : us.flatten = (us.take m).flatten ++ (us.drop m).flatten := by rw [← List.flatten_append, List.take_append_drop]
      rw [e, List.getElem?_append_right (by omega), hlen, Nat.add_sub_cancel_left]; exact hj
    have h2 := h.own.cells (g := g) rfl (m * k + j) u h1
    have hg := (h.own.lt g rfl).2
    have e2 : ((⟨g, m * k, none⟩ : Addr).add j) = (⟨g, 0, none⟩ : Addr).add (m * k + j) := by
      unfold Addr.add
      by_cases hj0 : j = 0
      · subst hj0
        by_cases hm0 : m * k = 0
        · simp [hm0]
        · simp [hm0]
      · simp [hj0]
    rw [e2, ← h2]
    unfold Addr.add
    split
    · exact hb.cell (p := ⟨g, 0, none⟩) hg
    · exact hb.cell (p := ⟨g, _, none⟩) hg
  · rw [List.drop_eq_nil_of_le (by omega)] at hj; simp at hj
theorem OwnG.ins {α : Type} {E : Elem α} {t : TypeId} {BE : Nat} {wq wD : World} {B w0 : Nat} {v v3 : Value} {us : List (List Value)} {S : List α} {k i : Nat} {u : List Value} {x : α} (F : Firm E k t BE) (_hB : BE ≤ w0) (m : Nat) (h : OwnG E k t wq B v us S) (hx : E wq u x) (hb : Below wq.heap.size wq wD) (hw : w0 ≤ wq.heap.size) (hm : m ≤ S.length) (hown : wD.ownsRow wq.heap.size t k v3 i ([] ++ (us.take m).flatten ++ u ++ (us.drop m).flatten)) (hi : i = S.length + 1) : OwnG E k t wD w0 v3 (insR us u m) (insR S x m) := by
  have hl := h.len
  refine ⟨by rw [insR_len, insR_len, hl], ?_, fun j y hy => ?_⟩
  · have e : (insR us u m).flatten = [] ++ (us.take m).flatten ++ u ++ (us.drop m).flatten := by unfold insR; simp
    rw [e, insR_len, hl, ← hi]
    exact own_mono hown hw
  · unfold insR at hy ⊢
    have hE : ∀ (j : Nat) (y : α), S[j]? = some y → ∃ u, us[j]? = some u ∧ E wD u y := fun j y hy => by
      obtain ⟨u, h1, h2⟩ := h.one j y hy
      exact ⟨u, h1, F.below _ _ _ _ h2 hb⟩
    have l1 : (S.take m).length = m := by rw [List.length_take]; omega
    have l2 : (us.take m).length = m := by rw [List.length_take]; omega
    by_cases hj : j < m
    · rw [List.getElem?_append_left (by omega), List.getElem?_take_of_lt hj] at hy
      rw [List.getElem?_append_left (by omega), List.getElem?_take_of_lt hj]
      exact hE j y hy
    · rw [List.getElem?_append_right (by omega), l1] at hy
      rw [List.getElem?_append_right (by omega), l2]
      cases hjm : j - m with
      | zero =>
        rw [hjm] at hy
        simp at hy; subst hy
        exact ⟨u, rfl, F.below _ _ _ _ hx hb⟩
      | succ q =>
        rw [hjm] at hy
        rw [List.getElem?_cons_succ, List.getElem?_drop] at hy ⊢
        exact hE _ y hy
/-- Rows of the call's own, and an error; their labels as far as those that were read. -/
def OutB (BE B : Nat) (r : List Rw × Int) (e : Ending) (w' : World) : Prop := ∃ v, e = .returned (.tuple #[v, .int .i64 r.2]) ∧ ∃ us, OwnG (ERow BE) 2 40 w' B v us r.1

set_option maxHeartbeats 16000000 in
set_option maxRecDepth 100000 in
theorem rorder_any (o : Option Addr) (n c : Nat) (xs : List Rw) (w : World) (B : Nat) (hBw : B ≤ w.heap.size) (hn : xs.length = n) (hm : n ≤ 100000) (hS : RowsS w B o xs) :
    Calls Try.prog 50 #[.slice o n c] w fun e w' => OutB B w.heap.size (orderR xs) e w' ∧ Below w.heap.size w w' := by
  obtain ⟨i0, hi, hz0, hz1, hz2⟩ := info_parts infoRow
  have HN := Lib.hid hn
  have HS := Lib.hid hS
  clear hn hS
  go_enter Try.func50, Try.ntmps50
  go_wp2
  go_loopw [4, 5, 6] (fun v4 v5 v6 wr => ∃ (i : Nat) (us : List (List Value)) (S : List Rw), v5 = .int .i64 i ∧ i ≤ n ∧ Hid (LaidR S xs i) ∧ (i = 0 → v4 = .slice none 0 0) ∧ Hid (OwnG (ERow B) 2 40 wr w.heap.size v4 us S) ∧ Hid (Below w.heap.size w wr)) (fun _ v5 _ _ => n - (Go.RowKit.intOf v5).toNat)
  case atStart => exact ⟨0, [], [], rfl, Nat.zero_le _, Lib.hid (LaidR.nil _), fun _ => rfl, Lib.hid (OwnG.nil _ _), Below.refl _ _⟩
  case round =>
    obtain ⟨i, us, S, rfl, hin0, HSS, hnil, HO, HBN⟩ := hrel
    by_cases hin : i < n
    · have j1 : (i : Int) < n := by omega
      obtain ⟨x, hx⟩ := get_ltG HN.out hin
      obtain ⟨b, off, rfl, hR⟩ := (HS.out.below frow HBN.out).at hx
      obtain ⟨oL, cL, c0, c1, hL, lL⟩ := row_at hR hx
      obtain ⟨nL, hnL⟩ : ∃ nL, x.1.length = nL := ⟨_, rfl⟩
      rw [hnL] at c0
      have hlow := hR.low
      have HX := Lib.hid hx
      have HnL := Lib.hid hnL
      have HlL := Lib.hid lL
      have HUL := Lib.hid (show us.length = i from HO.out.len.trans HSS.out.len)
      have HWI := Lib.hid (HO.out.wide frow)
      have HCE := Lib.hid (HO.out.cellsE frow)
      obtain ⟨wo, hwo⟩ : ∃ wo : World, wr = wo := ⟨_, rfl⟩
      subst wr
      have HC := Lib.hid (fun W (h : Below wo.heap.size wo W) => (show W.cell? ⟨b, off + i * 2, none⟩ = some (.slice oL nL cL) ∧ W.cell? ⟨b, off + i * 2 + 1, none⟩ = some (.int .i64 x.2) from
        ⟨(h.cell (p := ⟨b, _, none⟩) hlow).trans c0, (h.cell (p := ⟨b, _, none⟩) hlow).trans c1⟩))
      have HL := Lib.hid hL
      clear hR hx hnL lL hlow c0 c1 hL
      by_cases hi0 : i = 0
      · obtain rfl := hnil hi0
        subst hi0
        obtain rfl : S = [] := List.eq_nil_of_length_eq_zero HSS.out.len
        obtain rfl : us = [] := List.eq_nil_of_length_eq_zero HUL.out
        clear hnil
        go_wp2_with fail
        go_loopw [6] (fun v6 wr => v6 = .int .i64 0 ∧ wr = wo) (fun _ _ => 0)
        case atStart => exact ⟨rfl, rfl⟩
        case round =>
          obtain ⟨rfl, rfl⟩ := hrel
          have HWB := Lib.hid (Below.refl wr.heap.size wr)
          go_wp2_with fail
          go_quiet (fail)
          go_wp2_with fail
          go_quiet (fail)
          go_wp2
          have HSE := Lib.hid (HSS.out.step 0 (Nat.le_refl _) (fun y hy => by simp at hy) (fun m y hm _ => by omega) HX.out)

          rename_i nq1
          obtain ⟨wq, hwq⟩ : ∃ wq, (wr.drewN nq1).drewN nq = wq := ⟨_, rfl⟩
          have HQ := Lib.hid (show Below wr.heap.size wr wq by rw [← hwq, drewN_two]; exact HWB.out.trans ((Txt.drewN_below wr _).mono HWB.out.size))
          have HB1 := Lib.hid (HBN.out.trans (HQ.out.mono HBN.out.size))
          have HB0 := Lib.hid HB1.out.size
          have CX := Lib.hid (fun W (h : Below wq.heap.size wq W) => HC.out W (HQ.out.trans (h.mono HQ.out.size)))
          have B0 := Lib.hid (show Below wq.heap.size wq wq.drew from (Below.refl _ _).drew)
          have B1 := Lib.hid (show Below wq.heap.size wq (wq.drew.alloc (.cells #[.slice oL nL cL, .int .i64 x.2] 40)) from B0.out.alloc (Nat.le_refl _) _)
          have cX := CX.out wq.drew B0.out
          have cX1 := CX.out (wq.drew.alloc (.cells #[.slice oL nL cL, .int .i64 x.2] 40)) B1.out
          have HOQ := Lib.hid (HO.out.below frow HQ.out)
          have HLQ := Lib.hid (HL.out.below HQ.out)
          rw [hwq]
          clear hwq
          rw [show off + 0 * 2 = off by omega] at cX cX1 CX
          go_region_held3 (fun w' => w'.cell? ⟨b, off, none⟩ = some (.slice oL nL cL) ∧ w'.cell? ⟨b, off + 1, none⟩ = some (.int .i64 x.2)) (first | exact cX | exact cX1 | exact cA | exact cA1 | exact cC | exact cD) (first
            | (refine own_stepL rfl (.tmp 54) (.tmp 59) 23 rfl wq.heap.size 40 i0 (.agg #[.slice none 0 0, .int .i64 0]) 2 32 Try.underlying23 hi hz0 hz1 hz2 rfl (by decide) (.slice none 0 0) 0 [] rfl (World.ownsRow_nil _ _ _ _) ⟨wq.heap.size, 0, none⟩ 1 1 [.slice oL nL cL, .int .i64 x.2] rfl rfl (cells_k _ _ _) (by intro v hv; simp at hv; rcases hv with rfl | rfl <;> rfl) (by unfold maxLen; omega) (by omega) B1.out.size ?_
               intro v2 wC hoC hgC
               obtain ⟨g2, c2, rfl, q1, q2, q3, q4⟩ := own_posG (i := 1) hoC (by omega)
               have HOC := Lib.hid hoC
               have BC := Lib.hid (B1.out.trans ((below_ownL hgC).mono B1.out.size))
               have cC := CX.out wC BC.out
               clear hoC hgC))
          all_goals
            have HOE := Lib.hid (HOQ.out.ins frow hBw 0 (u := [.slice oL nL cL, .int .i64 x.2]) (x := x) ⟨oL, cL, by rw [HnL.out], HLQ.out, HlL.out⟩ BC.out HB0.out (Nat.zero_le _) (i := 0 + 1) HOC.out rfl)
            have HBE := Lib.hid (HB1.out.trans (BC.out.mono HB1.out.size))
            go_wp2
            go_roundw
            case rel => exact ⟨1, _, insR [] x 0, by go_num, by omega, HSE, fun h => by omega, HOE, HBE⟩
            case measure => simp [Go.RowKit.intOf]; omega
      · obtain ⟨g, sc, rfl, q1, q2, q3, q4⟩ := own_posG HO.out.own (by rw [HUL.out]; omega)
        rw [HUL.out] at HO q1 q3 ⊢
        have hne : i ≠ 0 := hi0
        clear hnil q2
        go_wp2_with fail
        go_loopw [6] (fun v6 wr => ∃ k : Nat, v6 = .int .i64 k ∧ k ≤ i ∧ Hid (∀ y ∈ S.drop k, cmpL x.1 y.1 < 0) ∧ Hid (∃ q, wr = wo.drewN q)) (fun v6 _ => (Go.RowKit.intOf v6).toNat)
        case atStart => exact ⟨i, rfl, Nat.le_refl _, Lib.hid (fun y hy => by rw [List.drop_eq_nil_of_le (by rw [HSS.out.len]; omega)] at hy; simp at hy), Lib.hid ⟨0, rfl⟩⟩
        case round =>
          obtain ⟨k, rfl, hk, HGT, HW⟩ := hrel
          have HWB := Lib.hid (show Below wo.heap.size wo wr from quietB HW.out)
          have HBW := Lib.hid (HBN.out.trans (HWB.out.mono HBN.out.size))
          obtain ⟨d0, d1⟩ := HC.out _ HWB.out
          cases k with
          | zero =>
            have HSE := Lib.hid (HSS.out.step 0 (Nat.zero_le _) HGT.out (fun m y hm _ => by omega) HX.out)
            go_wp2_with fail
            go_quiet (fail)
            go_wp2_with fail
            go_quiet (fail)
            go_wp2
            rename_i nq1
            obtain ⟨wq, hwq⟩ : ∃ wq, (wr.drewN nq1).drewN nq = wq := ⟨_, rfl⟩
            have HQ := Lib.hid (show Below wo.heap.size wo wq by rw [← hwq, drewN_two]; exact HWB.out.trans ((Txt.drewN_below wr _).mono HWB.out.size))
            have HB1 := Lib.hid (HBN.out.trans (HQ.out.mono HBN.out.size))
            have HB0 := Lib.hid HB1.out.size
            have CX := Lib.hid (fun W (h : Below wq.heap.size wq W) => HC.out W (HQ.out.trans (h.mono HQ.out.size)))
            have B0 := Lib.hid (show Below wq.heap.size wq wq.drew from (Below.refl _ _).drew)
            have B1 := Lib.hid (show Below wq.heap.size wq (wq.drew.alloc (.cells #[.slice oL nL cL, .int .i64 x.2] 40)) from B0.out.alloc (Nat.le_refl _) _)
            have cX := CX.out wq.drew B0.out
            have cX1 := CX.out (wq.drew.alloc (.cells #[.slice oL nL cL, .int .i64 x.2] 40)) B1.out
            have HOQ := Lib.hid (HO.out.below frow HQ.out)
            have HLQ := Lib.hid (HL.out.below HQ.out)
            rw [hwq]
            clear hwq
            have L1 := Lib.hid (show (us.take 0).flatten.length = 0 * 2 by rw [flat_len (fun u hu => HWI.out u (List.mem_of_mem_take hu)), List.length_take, HUL.out]; omega)
            have L3 := Lib.hid (show (us.drop 0).flatten.length = (i - 0) * 2 by rw [flat_len (fun u hu => HWI.out u (List.mem_of_mem_drop hu)), List.length_drop, HUL.out])
            have OC1 := Lib.hid (show ∀ v ∈ (us.take 0).flatten, v.oneCell' = true from fun v hv => by obtain ⟨u, hu, hv⟩ := List.mem_flatten.1 hv; exact HCE.out u (List.mem_of_mem_take hu) v hv)
            have OC3 := Lib.hid (show ∀ v ∈ (us.drop 0).flatten, v.oneCell' = true from fun v hv => by obtain ⟨u, hu, hv⟩ := List.mem_flatten.1 hv; exact HCE.out u (List.mem_of_mem_drop hu) v hv)
            have SRC1 := Lib.hid (fun W (h : Below wq.heap.size wq W) => HOQ.out.at_take frow 0 h)
            have SRC3 := Lib.hid (fun W (h : Below wq.heap.size wq W) => HOQ.out.at_drop frow 0 h)
            have k1 : ((0 : Nat) : Int) ≤ sc := by omega
            have k2 : ((0 : Nat) : Int) ≤ i := by omega
            have hcap : ¬ sc = 0 := by omega
            go_region_held3 (fun w' => w'.cell? ⟨b, off + i * 2, none⟩ = some (.slice oL nL cL) ∧ w'.cell? ⟨b, off + i * 2 + 1, none⟩ = some (.int .i64 x.2)) (first | exact cX | exact cX1 | exact cA | exact cA1 | exact cC | exact cD) (first
              | (refine own_stepL rfl (.const (.slice none 0 0)) (.tmp 53) 23 rfl wq.heap.size 40 i0 (.agg #[.slice none 0 0, .int .i64 0]) 2 32 Try.underlying23 hi hz0 hz1 hz2 rfl (by decide) (.slice none 0 0) 0 [] rfl (World.ownsRow_nil _ _ _ _) ⟨g, 0, none⟩ 0 sc (us.take 0).flatten rfl L1.out (fun j u hj => SRC1.out wq.drew B0.out j u hj) OC1.out (by unfold maxLen; omega) (by omega) (Nat.le_refl _) ?_
                 intro v1 wA hoA hgA
                 have HOA := Lib.hid hoA
                 have BA := Lib.hid (B0.out.trans ((below_ownL hgA).mono (Nat.le_refl _)))
                 have cA := CX.out wA BA.out
                 have cA1 := CX.out (wA.alloc (.cells #[.slice oL nL cL, .int .i64 x.2] 40)) (BA.out.alloc BA.out.size _)
                 clear hoA hgA)
              | (refine own_stepL rfl (.tmp 54) (.tmp 59) 23 rfl wq.heap.size 40 i0 (.agg #[.slice none 0 0, .int .i64 0]) 2 32 Try.underlying23 hi hz0 hz1 hz2 rfl (by decide) v1 _ _ rfl (HOA.out.alloc _) ⟨wA.heap.size, 0, none⟩ 1 1 [.slice oL nL cL, .int .i64 x.2] rfl rfl (cells_k _ _ _) (by intro v hv; simp at hv; rcases hv with rfl | rfl <;> rfl) (by unfold maxLen; omega) (by omega) (Nat.le_trans BA.out.size (by simp)) ?_
                 intro v2 wC hoC hgC
                 have HOC := Lib.hid hoC
                 have BC := Lib.hid (Below.grown (BA.out.alloc BA.out.size _) hgC (Nat.le_trans BA.out.size (by simp)) (fun j hj => (HOA.out.lt j hj).1) : Below wq.heap.size wq wC)
                 have cC := CX.out wC BC.out
                 clear hoC hgC)
              | (refine own_stepL rfl (.const (.slice none 0 0)) (.tmp 53) 23 rfl wq.heap.size 40 i0 (.agg #[.slice none 0 0, .int .i64 0]) 2 32 Try.underlying23 hi hz0 hz1 hz2 rfl (by decide) (.slice none 0 0) 0 [] rfl (World.ownsRow_nil _ _ _ _) ⟨g, 0, none⟩ 0 sc (us.take 0).flatten rfl L1.out (fun j u hj => SRC1.out (wq.drew.alloc (.cells #[.slice oL nL cL, .int .i64 x.2] 40)) B1.out j u hj) OC1.out (by unfold maxLen; omega) (by omega) B1.out.size ?_
                 intro v1 wA hoA hgA
                 have HOA := Lib.hid hoA
                 have BA := Lib.hid (B1.out.trans ((below_ownL hgA).mono B1.out.size))
                 have HX2 := Lib.hid (cell_keptR hgA)
                 have cA := CX.out wA BA.out
                 clear hoA hgA)
              | (refine own_stepL rfl (.tmp 54) (.tmp 59) 23 rfl wq.heap.size 40 i0 (.agg #[.slice none 0 0, .int .i64 0]) 2 32 Try.underlying23 hi hz0 hz1 hz2 rfl (by decide) v1 _ _ rfl HOA.out ⟨wq.heap.size, 0, none⟩ 1 1 [.slice oL nL cL, .int .i64 x.2] rfl rfl HX2.out (by intro v hv; simp at hv; rcases hv with rfl | rfl <;> rfl) (by unfold maxLen; omega) (by omega) BA.out.size ?_
                 intro v2 wC hoC hgC
                 have HOC := Lib.hid hoC
                 have BC := Lib.hid (Below.grown BA.out hgC BA.out.size (fun j hj => (HOA.out.lt j hj).1) : Below wq.heap.size wq wC)
                 have cC := CX.out wC BC.out
                 clear hoC hgC)
              | (refine own_stepL rfl (.tmp 60) (.tmp 63) 23 rfl wq.heap.size 40 i0 (.agg #[.slice none 0 0, .int .i64 0]) 2 32 Try.underlying23 hi hz0 hz1 hz2 rfl (by decide) v2 _ _ rfl HOC.out ⟨g, 0, none⟩ (i - 0) (sc - 0) (us.drop 0).flatten rfl L3.out (fun j u hj => SRC3.out wC BC.out j u hj) OC3.out (by unfold maxLen; omega) (by omega) BC.out.size ?_
                 intro v3 wD hoD hgD
                 have HOD := Lib.hid hoD
                 have BD := Lib.hid (Below.grown BC.out hgD BC.out.size (fun j hj => (HOC.out.lt j hj).1) : Below wq.heap.size wq wD)
                 have cD := CX.out wD BD.out
                 clear hoD hgD))
            all_goals
              have HOE := Lib.hid (HOQ.out.ins frow hBw 0 (u := [.slice oL nL cL, .int .i64 x.2]) (x := x) ⟨oL, cL, by rw [HnL.out], HLQ.out, HlL.out⟩ BD.out HB0.out (by rw [HSS.out.len]; omega) HOD.out (by rw [HSS.out.len]; omega))
              have HBE := Lib.hid (HB1.out.trans (BD.out.mono HB1.out.size))
              go_wp2
              go_roundw
              case rel => exact ⟨i + 1, _, insR S x 0, by go_num, by omega, HSE, fun h => by omega, HOE, HBE⟩
              case measure => simp [Go.RowKit.intOf]; omega
          | succ m =>
            have j2 : (m : Int) < i := by omega
            have j3 : (0 : Int) < (m : Int) + 1 := by omega
            have j5 : (0 : Int) ≤ (m : Int) := by omega
            have wm : IntKind.i64.wrap (m : Int) = m := by rw [IntKind.wrap_i64]; omega
            obtain ⟨y, hy⟩ := get_ltG HSS.out.len (show m < i by omega)
            obtain ⟨oM, cM, e0, hM, lM⟩ := HO.out.lab_at frow hy
            obtain ⟨nM, hnM⟩ : ∃ nM, y.1.length = nM := ⟨_, rfl⟩
            rw [hnM] at e0
            have c2 : wr.cell? ⟨g, m * 2, none⟩ = some (.slice oM nM cM) := (HWB.out.cell (p := ⟨g, _, none⟩) (by have := (HO.out.own.lt g rfl).2; exact this)).trans e0
            obtain ⟨cc, hcc⟩ : ∃ cc, cmpL y.1 x.1 = cc := ⟨_, rfl⟩
            have HQC := Lib.hid (fun q => (show Calls Try.prog 61 #[.slice oM nM cM, .slice oL nL cL] (wr.drewN q) fun e w' => e = .returned (.int .i64 cc) ∧ ∃ p, w' = (wr.drewN q).drewN p from by
              have := rcompare_quiet oM oL cM cL y.1 x.1 (wr.drewN q) lM HlL.out (hM.sees.below (HWB.out.trans ((Txt.drewN_below wr q).mono HWB.out.size))) (HL.out.sees.below (HWB.out.trans ((Txt.drewN_below wr q).mono HWB.out.size)))
              rw [hnM, HnL.out, hcc] at this
              exact this))
            have HQ2 := Lib.hid (fun p q => (show Calls Try.prog 61 #[.slice oM nM cM, .slice oL nL cL] ((wr.drewN p).drewN q) fun e w' => e = .returned (.int .i64 cc) ∧ ∃ r, w' = ((wr.drewN p).drewN q).drewN r from by
              rw [drewN_two]; exact HQC.out (p + q)))
            have HCC := Lib.hid hcc
            have HY := Lib.hid hy
            clear hy e0 hM lM hnM hcc
            rcases Int.lt_trichotomy cc 0 with h0 | h0 | h0
            · have t1 : ¬ (0 : Int) < cc := by omega
              have t2 : (cc == 0) = false := by rw [beq_eq_false_iff_ne]; omega
              have HSE := Lib.hid (HSS.out.step (m + 1) hk HGT.out (fun q z hq hz => by
                obtain rfl : m = q := by omega
                rw [HY.out] at hz; cases hz; rw [HCC.out]; exact h0) HX.out)
              clear h0
              go_wp2_with fail
              go_quiet (first | (go_at_call 61; exact Calls.quiet_of (HQC.out _)))
              obtain ⟨wv, hwv⟩ : ∃ wv, wr.drewN nq = wv := ⟨_, rfl⟩
              have cv : wv.cell? ⟨g, m * 2, none⟩ = some (.slice oM nM cM) := by rw [← hwv]; exact c2
              have HWV := Lib.hid (show Below wo.heap.size wo wv by rw [← hwv]; exact HWB.out.trans ((Txt.drewN_below wr _).mono HWB.out.size))
              obtain ⟨dv0, dv1⟩ := HC.out wv HWV.out
              have HQV := Lib.hid (fun q => (show Calls Try.prog 61 #[.slice oM nM cM, .slice oL nL cL] (wv.drewN q) fun e w' => e = .returned (.int .i64 cc) ∧ ∃ r, w' = (wv.drewN q).drewN r from by
                rw [← hwv]; exact HQ2.out nq q))
              rw [hwv]
              clear hwv c2 d0 d1 HQC HQ2
              go_wp2_with fail
              go_quiet (first | (go_at_call 61; exact Calls.quiet_of (HQV.out _)))
              go_wp2
              obtain ⟨k, hkm⟩ : ∃ k, m + 1 = k := ⟨_, rfl⟩
              have ek : (m : Int) + 1 = (k : Int) := by omega
              rw [hkm] at HSE hk
              rw [ek]
              clear cv t1 t2 HQV dv0 dv1 ek wm j2 j3 j5 HY HCC HGT HW HWB HBW hkm
              have k0 : (0 : Int) ≤ (k : Int) := by omega
              by_cases hki : k < i
              · obtain ⟨wq, hwq⟩ : ∃ wq, wv.drewN nq = wq := ⟨_, rfl⟩
                have HQ := Lib.hid (show Below wo.heap.size wo wq by rw [← hwq]; exact HWV.out.trans ((Txt.drewN_below wv _).mono HWV.out.size))
                have HB1 := Lib.hid (HBN.out.trans (HQ.out.mono HBN.out.size))
                have HB0 := Lib.hid HB1.out.size
                have CX := Lib.hid (fun W (h : Below wq.heap.size wq W) => HC.out W (HQ.out.trans (h.mono HQ.out.size)))
                have B0 := Lib.hid (show Below wq.heap.size wq wq.drew from (Below.refl _ _).drew)
                have B1 := Lib.hid (show Below wq.heap.size wq (wq.drew.alloc (.cells #[.slice oL nL cL, .int .i64 x.2] 40)) from B0.out.alloc (Nat.le_refl _) _)
                have cX := CX.out wq.drew B0.out
                have cX1 := CX.out (wq.drew.alloc (.cells #[.slice oL nL cL, .int .i64 x.2] 40)) B1.out
                have HOQ := Lib.hid (HO.out.below frow HQ.out)
                have HLQ := Lib.hid (HL.out.below HQ.out)
                rw [hwq]
                clear hwq
                have L1 := Lib.hid (show (us.take k).flatten.length = k * 2 by rw [flat_len (fun u hu => HWI.out u (List.mem_of_mem_take hu)), List.length_take, HUL.out]; omega)
                have L3 := Lib.hid (show (us.drop k).flatten.length = (i - k) * 2 by rw [flat_len (fun u hu => HWI.out u (List.mem_of_mem_drop hu)), List.length_drop, HUL.out])
                have OC1 := Lib.hid (show ∀ v ∈ (us.take k).flatten, v.oneCell' = true from fun v hv => by obtain ⟨u, hu, hv⟩ := List.mem_flatten.1 hv; exact HCE.out u (List.mem_of_mem_take hu) v hv)
                have OC3 := Lib.hid (show ∀ v ∈ (us.drop k).flatten, v.oneCell' = true from fun v hv => by obtain ⟨u, hu, hv⟩ := List.mem_flatten.1 hv; exact HCE.out u (List.mem_of_mem_drop hu) v hv)
                have SRC1 := Lib.hid (fun W (h : Below wq.heap.size wq W) => HOQ.out.at_take frow k h)
                have SRC3 := Lib.hid (fun W (h : Below wq.heap.size wq W) => HOQ.out.at_drop frow k h)
                have k1 : ((k : Nat) : Int) ≤ sc := by omega
                have k2 : ((k : Nat) : Int) ≤ i := by omega
                have hcap : ¬ sc = k := by omega
                go_region_held3 (fun w' => w'.cell? ⟨b, off + i * 2, none⟩ = some (.slice oL nL cL) ∧ w'.cell? ⟨b, off + i * 2 + 1, none⟩ = some (.int .i64 x.2)) (first | exact cX | exact cX1 | exact cA | exact cA1 | exact cC | exact cD) (first
                  | (refine own_stepL rfl (.const (.slice none 0 0)) (.tmp 53) 23 rfl wq.heap.size 40 i0 (.agg #[.slice none 0 0, .int .i64 0]) 2 32 Try.underlying23 hi hz0 hz1 hz2 rfl (by decide) (.slice none 0 0) 0 [] rfl (World.ownsRow_nil _ _ _ _) ⟨g, 0, none⟩ k sc (us.take k).flatten rfl L1.out (fun j u hj => SRC1.out wq.drew B0.out j u hj) OC1.out (by unfold maxLen; omega) (by omega) (Nat.le_refl _) ?_
                     intro v1 wA hoA hgA
                     have HOA := Lib.hid hoA
                     have BA := Lib.hid (B0.out.trans ((below_ownL hgA).mono (Nat.le_refl _)))
                     have cA := CX.out wA BA.out
                     have cA1 := CX.out (wA.alloc (.cells #[.slice oL nL cL, .int .i64 x.2] 40)) (BA.out.alloc BA.out.size _)
                     clear hoA hgA)
                  | (refine own_stepL rfl (.tmp 54) (.tmp 59) 23 rfl wq.heap.size 40 i0 (.agg #[.slice none 0 0, .int .i64 0]) 2 32 Try.underlying23 hi hz0 hz1 hz2 rfl (by decide) v1 _ _ rfl (HOA.out.alloc _) ⟨wA.heap.size, 0, none⟩ 1 1 [.slice oL nL cL, .int .i64 x.2] rfl rfl (cells_k _ _ _) (by intro v hv; simp at hv; rcases hv with rfl | rfl <;> rfl) (by unfold maxLen; omega) (by omega) (Nat.le_trans BA.out.size (by simp)) ?_
                     intro v2 wC hoC hgC
                     have HOC := Lib.hid hoC
                     have BC := Lib.hid (Below.grown (BA.out.alloc BA.out.size _) hgC (Nat.le_trans BA.out.size (by simp)) (fun j hj => (HOA.out.lt j hj).1) : Below wq.heap.size wq wC)
                     have cC := CX.out wC BC.out
                     clear hoC hgC)
                  | (refine own_stepL rfl (.const (.slice none 0 0)) (.tmp 53) 23 rfl wq.heap.size 40 i0 (.agg #[.slice none 0 0, .int .i64 0]) 2 32 Try.underlying23 hi hz0 hz1 hz2 rfl (by decide) (.slice none 0 0) 0 [] rfl (World.ownsRow_nil _ _ _ _) ⟨g, 0, none⟩ k sc (us.take k).flatten rfl L1.out (fun j u hj => SRC1.out (wq.drew.alloc (.cells #[.slice oL nL cL, .int .i64 x.2] 40)) B1.out j u hj) OC1.out (by unfold maxLen; omega) (by omega) B1.out.size ?_
                     intro v1 wA hoA hgA
                     have HOA := Lib.hid hoA
                     have BA := Lib.hid (B1.out.trans ((below_ownL hgA).mono B1.out.size))
                     have HX2 := Lib.hid (cell_keptR hgA)
                     have cA := CX.out wA BA.out
                     clear hoA hgA)
                  | (refine own_stepL rfl (.tmp 54) (.tmp 59) 23 rfl wq.heap.size 40 i0 (.agg #[.slice none 0 0, .int .i64 0]) 2 32 Try.underlying23 hi hz0 hz1 hz2 rfl (by decide) v1 _ _ rfl HOA.out ⟨wq.heap.size, 0, none⟩ 1 1 [.slice oL nL cL, .int .i64 x.2] rfl rfl HX2.out (by intro v hv; simp at hv; rcases hv with rfl | rfl <;> rfl) (by unfold maxLen; omega) (by omega) BA.out.size ?_
                     intro v2 wC hoC hgC
                     have HOC := Lib.hid hoC
                     have BC := Lib.hid (Below.grown BA.out hgC BA.out.size (fun j hj => (HOA.out.lt j hj).1) : Below wq.heap.size wq wC)
                     have cC := CX.out wC BC.out
                     clear hoC hgC)
                  | (refine own_stepL rfl (.tmp 60) (.tmp 63) 23 rfl wq.heap.size 40 i0 (.agg #[.slice none 0 0, .int .i64 0]) 2 32 Try.underlying23 hi hz0 hz1 hz2 rfl (by decide) v2 _ _ rfl HOC.out ⟨g, k * 2, none⟩ (i - k) (sc - k) (us.drop k).flatten rfl L3.out (fun j u hj => SRC3.out wC BC.out j u hj) OC3.out (by unfold maxLen; omega) (by omega) BC.out.size ?_
                     intro v3 wD hoD hgD
                     have HOD := Lib.hid hoD
                     have BD := Lib.hid (Below.grown BC.out hgD BC.out.size (fun j hj => (HOC.out.lt j hj).1) : Below wq.heap.size wq wD)
                     have cD := CX.out wD BD.out
                     clear hoD hgD))
                all_goals
                  have HOE := Lib.hid (HOQ.out.ins frow hBw k (u := [.slice oL nL cL, .int .i64 x.2]) (x := x) ⟨oL, cL, by rw [HnL.out], HLQ.out, HlL.out⟩ BD.out HB0.out (by rw [HSS.out.len]; omega) HOD.out (by rw [HSS.out.len]; omega))
                  have HBE := Lib.hid (HB1.out.trans (BD.out.mono HB1.out.size))
                  go_wp2
                  go_roundw
                  case rel => exact ⟨i + 1, _, insR S x k, by go_num, by omega, HSE, fun h => by omega, HOE, HBE⟩
                  case measure => simp [Go.RowKit.intOf]; omega
              · obtain rfl : k = i := by omega
                obtain ⟨wq, hwq⟩ : ∃ wq, wv.drewN nq = wq := ⟨_, rfl⟩
                have HQ := Lib.hid (show Below wo.heap.size wo wq by rw [← hwq]; exact HWV.out.trans ((Txt.drewN_below wv _).mono HWV.out.size))
                have HB1 := Lib.hid (HBN.out.trans (HQ.out.mono HBN.out.size))
                have HB0 := Lib.hid HB1.out.size
                have CX := Lib.hid (fun W (h : Below wq.heap.size wq W) => HC.out W (HQ.out.trans (h.mono HQ.out.size)))
                have B0 := Lib.hid (show Below wq.heap.size wq wq.drew from (Below.refl _ _).drew)
                have B1 := Lib.hid (show Below wq.heap.size wq (wq.drew.alloc (.cells #[.slice oL nL cL, .int .i64 x.2] 40)) from B0.out.alloc (Nat.le_refl _) _)
                have cX := CX.out wq.drew B0.out
                have cX1 := CX.out (wq.drew.alloc (.cells #[.slice oL nL cL, .int .i64 x.2] 40)) B1.out
                have HOQ := Lib.hid (HO.out.below frow HQ.out)
                have HLQ := Lib.hid (HL.out.below HQ.out)
                rw [hwq]
                clear hwq
                have L1 := Lib.hid (show (us.take k).flatten.length = k * 2 by rw [flat_len (fun u hu => HWI.out u (List.mem_of_mem_take hu)), List.length_take, HUL.out]; omega)
                have L3 := Lib.hid (show (us.drop k).flatten.length = (0) * 2 by rw [flat_len (fun u hu => HWI.out u (List.mem_of_mem_drop hu)), List.length_drop, HUL.out]; omega)
                have OC1 := Lib.hid (show ∀ v ∈ (us.take k).flatten, v.oneCell' = true from fun v hv => by obtain ⟨u, hu, hv⟩ := List.mem_flatten.1 hv; exact HCE.out u (List.mem_of_mem_take hu) v hv)
                have OC3 := Lib.hid (show ∀ v ∈ (us.drop k).flatten, v.oneCell' = true from fun v hv => by obtain ⟨u, hu, hv⟩ := List.mem_flatten.1 hv; exact HCE.out u (List.mem_of_mem_drop hu) v hv)
                have SRC1 := Lib.hid (fun W (h : Below wq.heap.size wq W) => HOQ.out.at_take frow k h)
                have k1 : (k : Int) ≤ sc := by omega
                have k2 : (k : Int) ≤ k := by omega
                by_cases hcap : sc = k
                · have SRC3 := Lib.hid (fun W (_ : Below wq.heap.size wq W) => (show ∀ j u, (us.drop k).flatten[j]? = some u → W.cell? ((⟨g, 0, none⟩ : Addr).add j) = some u from fun j u hj => by
                    rw [List.drop_eq_nil_of_le (by rw [HUL.out]; omega)] at hj; simp at hj))
                  obtain rfl : k = sc := hcap.symm
                  go_region_held3 (fun w' => w'.cell? ⟨b, off + k * 2, none⟩ = some (.slice oL nL cL) ∧ w'.cell? ⟨b, off + k * 2 + 1, none⟩ = some (.int .i64 x.2)) (first | exact cX | exact cX1 | exact cA | exact cA1 | exact cC | exact cD) (first
                    | (refine own_stepL rfl (.const (.slice none 0 0)) (.tmp 53) 23 rfl wq.heap.size 40 i0 (.agg #[.slice none 0 0, .int .i64 0]) 2 32 Try.underlying23 hi hz0 hz1 hz2 rfl (by decide) (.slice none 0 0) 0 [] rfl (World.ownsRow_nil _ _ _ _) ⟨g, 0, none⟩ k k (us.take k).flatten rfl L1.out (fun j u hj => SRC1.out wq.drew B0.out j u hj) OC1.out (by unfold maxLen; omega) (by omega) (Nat.le_refl _) ?_
                       intro v1 wA hoA hgA
                       have HOA := Lib.hid hoA
                       have BA := Lib.hid (B0.out.trans ((below_ownL hgA).mono (Nat.le_refl _)))
                       have cA := CX.out wA BA.out
                       have cA1 := CX.out (wA.alloc (.cells #[.slice oL nL cL, .int .i64 x.2] 40)) (BA.out.alloc BA.out.size _)
                       clear hoA hgA)
                    | (refine own_stepL rfl (.tmp 54) (.tmp 59) 23 rfl wq.heap.size 40 i0 (.agg #[.slice none 0 0, .int .i64 0]) 2 32 Try.underlying23 hi hz0 hz1 hz2 rfl (by decide) v1 _ _ rfl (HOA.out.alloc _) ⟨wA.heap.size, 0, none⟩ 1 1 [.slice oL nL cL, .int .i64 x.2] rfl rfl (cells_k _ _ _) (by intro v hv; simp at hv; rcases hv with rfl | rfl <;> rfl) (by unfold maxLen; omega) (by omega) (Nat.le_trans BA.out.size (by simp)) ?_
                       intro v2 wC hoC hgC
                       have HOC := Lib.hid hoC
                       have BC := Lib.hid (Below.grown (BA.out.alloc BA.out.size _) hgC (Nat.le_trans BA.out.size (by simp)) (fun j hj => (HOA.out.lt j hj).1) : Below wq.heap.size wq wC)
                       have cC := CX.out wC BC.out
                       clear hoC hgC)
                    | (refine own_stepL rfl (.const (.slice none 0 0)) (.tmp 53) 23 rfl wq.heap.size 40 i0 (.agg #[.slice none 0 0, .int .i64 0]) 2 32 Try.underlying23 hi hz0 hz1 hz2 rfl (by decide) (.slice none 0 0) 0 [] rfl (World.ownsRow_nil _ _ _ _) ⟨g, 0, none⟩ k k (us.take k).flatten rfl L1.out (fun j u hj => SRC1.out (wq.drew.alloc (.cells #[.slice oL nL cL, .int .i64 x.2] 40)) B1.out j u hj) OC1.out (by unfold maxLen; omega) (by omega) B1.out.size ?_
                       intro v1 wA hoA hgA
                       have HOA := Lib.hid hoA
                       have BA := Lib.hid (B1.out.trans ((below_ownL hgA).mono B1.out.size))
                       have HX2 := Lib.hid (cell_keptR hgA)
                       have cA := CX.out wA BA.out
                       clear hoA hgA)
                    | (refine own_stepL rfl (.tmp 54) (.tmp 59) 23 rfl wq.heap.size 40 i0 (.agg #[.slice none 0 0, .int .i64 0]) 2 32 Try.underlying23 hi hz0 hz1 hz2 rfl (by decide) v1 _ _ rfl HOA.out ⟨wq.heap.size, 0, none⟩ 1 1 [.slice oL nL cL, .int .i64 x.2] rfl rfl HX2.out (by intro v hv; simp at hv; rcases hv with rfl | rfl <;> rfl) (by unfold maxLen; omega) (by omega) BA.out.size ?_
                       intro v2 wC hoC hgC
                       have HOC := Lib.hid hoC
                       have BC := Lib.hid (Below.grown BA.out hgC BA.out.size (fun j hj => (HOA.out.lt j hj).1) : Below wq.heap.size wq wC)
                       have cC := CX.out wC BC.out
                       clear hoC hgC)
                    | (refine own_stepL rfl (.tmp 60) (.tmp 63) 23 rfl wq.heap.size 40 i0 (.agg #[.slice none 0 0, .int .i64 0]) 2 32 Try.underlying23 hi hz0 hz1 hz2 rfl (by decide) v2 _ _ rfl HOC.out ⟨g, 0, none⟩ 0 0 (us.drop k).flatten rfl L3.out (fun j u hj => SRC3.out wC BC.out j u hj) OC3.out (by unfold maxLen; omega) (by omega) BC.out.size ?_
                       intro v3 wD hoD hgD
                       have HOD := Lib.hid hoD
                       have BD := Lib.hid (Below.grown BC.out hgD BC.out.size (fun j hj => (HOC.out.lt j hj).1) : Below wq.heap.size wq wD)
                       have cD := CX.out wD BD.out
                       clear hoD hgD))
                  all_goals
                    have HOE := Lib.hid (HOQ.out.ins frow hBw k (u := [.slice oL nL cL, .int .i64 x.2]) (x := x) ⟨oL, cL, by rw [HnL.out], HLQ.out, HlL.out⟩ BD.out HB0.out (by rw [HSS.out.len]; omega) HOD.out (by rw [HSS.out.len]; omega))
                    have HBE := Lib.hid (HB1.out.trans (BD.out.mono HB1.out.size))
                    go_wp2
                    go_roundw
                    case rel => exact ⟨k + 1, _, insR S x k, by go_num, by omega, HSE, fun h => by omega, HOE, HBE⟩
                    case measure => simp [Go.RowKit.intOf]; omega
                · have SRC3 := Lib.hid (fun W (h : Below wq.heap.size wq W) => HOQ.out.at_drop frow k h)
                  go_region_held3 (fun w' => w'.cell? ⟨b, off + k * 2, none⟩ = some (.slice oL nL cL) ∧ w'.cell? ⟨b, off + k * 2 + 1, none⟩ = some (.int .i64 x.2)) (first | exact cX | exact cX1 | exact cA | exact cA1 | exact cC | exact cD) (first
                    | (refine own_stepL rfl (.const (.slice none 0 0)) (.tmp 53) 23 rfl wq.heap.size 40 i0 (.agg #[.slice none 0 0, .int .i64 0]) 2 32 Try.underlying23 hi hz0 hz1 hz2 rfl (by decide) (.slice none 0 0) 0 [] rfl (World.ownsRow_nil _ _ _ _) ⟨g, 0, none⟩ k sc (us.take k).flatten rfl L1.out (fun j u hj => SRC1.out wq.drew B0.out j u hj) OC1.out (by unfold maxLen; omega) (by omega) (Nat.le_refl _) ?_
                       intro v1 wA hoA hgA
                       have HOA := Lib.hid hoA
                       have BA := Lib.hid (B0.out.trans ((below_ownL hgA).mono (Nat.le_refl _)))
                       have cA := CX.out wA BA.out
                       have cA1 := CX.out (wA.alloc (.cells #[.slice oL nL cL, .int .i64 x.2] 40)) (BA.out.alloc BA.out.size _)
                       clear hoA hgA)
                    | (refine own_stepL rfl (.tmp 54) (.tmp 59) 23 rfl wq.heap.size 40 i0 (.agg #[.slice none 0 0, .int .i64 0]) 2 32 Try.underlying23 hi hz0 hz1 hz2 rfl (by decide) v1 _ _ rfl (HOA.out.alloc _) ⟨wA.heap.size, 0, none⟩ 1 1 [.slice oL nL cL, .int .i64 x.2] rfl rfl (cells_k _ _ _) (by intro v hv; simp at hv; rcases hv with rfl | rfl <;> rfl) (by unfold maxLen; omega) (by omega) (Nat.le_trans BA.out.size (by simp)) ?_
                       intro v2 wC hoC hgC
                       have HOC := Lib.hid hoC
                       have BC := Lib.hid (Below.grown (BA.out.alloc BA.out.size _) hgC (Nat.le_trans BA.out.size (by simp)) (fun j hj => (HOA.out.lt j hj).1) : Below wq.heap.size wq wC)
                       have cC := CX.out wC BC.out
                       clear hoC hgC)
                    | (refine own_stepL rfl (.const (.slice none 0 0)) (.tmp 53) 23 rfl wq.heap.size 40 i0 (.agg #[.slice none 0 0, .int .i64 0]) 2 32 Try.underlying23 hi hz0 hz1 hz2 rfl (by decide) (.slice none 0 0) 0 [] rfl (World.ownsRow_nil _ _ _ _) ⟨g, 0, none⟩ k sc (us.take k).flatten rfl L1.out (fun j u hj => SRC1.out (wq.drew.alloc (.cells #[.slice oL nL cL, .int .i64 x.2] 40)) B1.out j u hj) OC1.out (by unfold maxLen; omega) (by omega) B1.out.size ?_
                       intro v1 wA hoA hgA
                       have HOA := Lib.hid hoA
                       have BA := Lib.hid (B1.out.trans ((below_ownL hgA).mono B1.out.size))
                       have HX2 := Lib.hid (cell_keptR hgA)
                       have cA := CX.out wA BA.out
                       clear hoA hgA)
                    | (refine own_stepL rfl (.tmp 54) (.tmp 59) 23 rfl wq.heap.size 40 i0 (.agg #[.slice none 0 0, .int .i64 0]) 2 32 Try.underlying23 hi hz0 hz1 hz2 rfl (by decide) v1 _ _ rfl HOA.out ⟨wq.heap.size, 0, none⟩ 1 1 [.slice oL nL cL, .int .i64 x.2] rfl rfl HX2.out (by intro v hv; simp at hv; rcases hv with rfl | rfl <;> rfl) (by unfold maxLen; omega) (by omega) BA.out.size ?_
                       intro v2 wC hoC hgC
                       have HOC := Lib.hid hoC
                       have BC := Lib.hid (Below.grown BA.out hgC BA.out.size (fun j hj => (HOA.out.lt j hj).1) : Below wq.heap.size wq wC)
                       have cC := CX.out wC BC.out
                       clear hoC hgC)
                    | (refine own_stepL rfl (.tmp 60) (.tmp 63) 23 rfl wq.heap.size 40 i0 (.agg #[.slice none 0 0, .int .i64 0]) 2 32 Try.underlying23 hi hz0 hz1 hz2 rfl (by decide) v2 _ _ rfl HOC.out ⟨g, k * 2, none⟩ 0 (sc - k) (us.drop k).flatten rfl L3.out (fun j u hj => SRC3.out wC BC.out j u hj) OC3.out (by unfold maxLen; omega) (by omega) BC.out.size ?_
                       intro v3 wD hoD hgD
                       have HOD := Lib.hid hoD
                       have BD := Lib.hid (Below.grown BC.out hgD BC.out.size (fun j hj => (HOC.out.lt j hj).1) : Below wq.heap.size wq wD)
                       have cD := CX.out wD BD.out
                       clear hoD hgD))
                  all_goals
                    have HOE := Lib.hid (HOQ.out.ins frow hBw k (u := [.slice oL nL cL, .int .i64 x.2]) (x := x) ⟨oL, cL, by rw [HnL.out], HLQ.out, HlL.out⟩ BD.out HB0.out (by rw [HSS.out.len]; omega) HOD.out (by rw [HSS.out.len]; omega))
                    have HBE := Lib.hid (HB1.out.trans (BD.out.mono HB1.out.size))
                    go_wp2
                    go_roundw
                    case rel => exact ⟨k + 1, _, insR S x k, by go_num, by omega, HSE, fun h => by omega, HOE, HBE⟩
                    case measure => simp [Go.RowKit.intOf]; omega
            · have t1 : ¬ (0 : Int) < cc := by omega
              have t2 : (cc == 0) = true := by rw [beq_iff_eq]; exact h0
              have HD := Lib.hid (twiceR HSS.out HX.out HY.out (HCC.out.trans h0))
              clear h0
              have HZ := Lib.hid (fun wv (hv : Below wo.heap.size wo wv) a => (show Below w.heap.size w (wv.drewN a) from HBN.out.trans ((hv.trans ((Txt.drewN_below wv _).mono hv.size)).mono HBN.out.size)))
              go_wp2_with fail
              go_quiet (first | (go_at_call 61; exact Calls.quiet_of (HQC.out _)))
              obtain ⟨wv, hwv⟩ : ∃ wv, wr.drewN nq = wv := ⟨_, rfl⟩
              have cv : wv.cell? ⟨g, m * 2, none⟩ = some (.slice oM nM cM) := by rw [← hwv]; exact c2
              have HWV := Lib.hid (show Below wo.heap.size wo wv by rw [← hwv]; exact HWB.out.trans ((Txt.drewN_below wr _).mono HWB.out.size))
              obtain ⟨dv0, dv1⟩ := HC.out wv HWV.out
              have HQV := Lib.hid (fun q => (show Calls Try.prog 61 #[.slice oM nM cM, .slice oL nL cL] (wv.drewN q) fun e w' => e = .returned (.int .i64 cc) ∧ ∃ r, w' = (wv.drewN q).drewN r from by
                rw [← hwv]; exact HQ2.out nq q))
              rw [hwv]
              clear hwv c2 d0 d1 HQC HQ2
              go_wp2_with fail
              go_quiet (first | (go_at_call 61; exact Calls.quiet_of (HQV.out _)))
              go_wp2
              go_ret2
              refine ⟨⟨.slice none 0 0, ?_, [], ?_⟩, HZ.out _ HWV.out _⟩
              · rw [HD.out]; rfl
              · rw [HD.out]; exact OwnG.nil _ _
            · have HGT2 := Lib.hid (show ∀ z ∈ S.drop m, cmpL x.1 z.1 < 0 from fun z hz => by
                rw [drop_atG HY.out] at hz
                rcases List.mem_cons.1 hz with rfl | hz
                · have h1 := cmpL_swap z.1 x.1
                  rw [HCC.out] at h1; omega
                · exact HGT.out z hz)
              go_wp2_with fail
              go_quiet (first | (go_at_call 61; exact Calls.quiet_of (HQC.out _)))
              have HWq := Lib.hid (quietQ HW.out nq)
              go_wp2
              go_roundw
              case rel => exact ⟨m, by go_num, by omega, HGT2, HWq⟩
              case measure => simp [Go.RowKit.intOf]
    · have hE : i = n := by omega
      have j1 : ¬ (i : Int) < n := by omega
      have HD := Lib.hid ((hE ▸ HSS.out : LaidR S xs n).done HN.out)
      clear hE
      go_wp2
      go_ret2
      refine ⟨⟨u4, ?_, us, ?_⟩, HBN.out⟩
      · rw [HD.out]; rfl
      · rw [HD.out]; exact HO.out
end Go.Proofs.Ytldlfmeppcdbbaa.Vec
end
