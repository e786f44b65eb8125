/- Walks: the reader's next block; how many rows, these rows, the end. -/
import Derived.Test.YtldlfmeppcdbbaaRud
namespace Go.Proofs.Ytldlfmeppcdbbaa.Run
open Go.RowKit Go.Lib Go.Proofs.Ytldlfmeppcdbbaa.Crc Go.Proofs.Ytldlfmeppcdbbaa.Row Go.Proofs.Ytldlfmeppcdbbaa.Vec

theorem blockQ_len (l : List UInt8) : (blockQ l).2.length ≤ l.length := by
  unfold blockQ
  split
  · next h =>
    have := take_less h
    simp only []; omega
  · exact Nat.le_refl _
theorem BlkR.le {B B' : Nat} {w : World} {b : Blk} {v : Value} (h : BlkR B w b v) (hB : B' ≤ B) : BlkR B' w b v := by
  cases b with
  | bRows l =>
    obtain ⟨o, c, us, h1, h2⟩ := h
    exact ⟨o, c, us, h1, h2.own_le hB⟩
  | _ => exact h
set_option maxHeartbeats 2000000 in
set_option maxRecDepth 100000 in
theorem block_any (bd : Nat) (l : List UInt8) (w : World) (h : Rq w bd l) (hl : l.length ≤ 1000000) :
    Calls Try.prog 39 #[.pointer (some ⟨bd, 0, none⟩)] w fun e w' => (∃ v, e = .returned v ∧ BlkR w.heap.size w' (blockQ l).1 v) ∧ Rq w' bd (blockQ l).2 ∧ w.grownBy w' (some bd) := by
  by_cases h0 : (takeF l).1 = 0
  · have HT := Lib.hid (text_yes bd l w h hl h0)
    have HQ := Lib.hid (show blockQ l = (blockP (takeF l).2.1, (takeF l).2.2) by unfold blockQ; rw [if_pos h0])
    obtain ⟨t, ht⟩ : ∃ t : ByteArray, ⟨(takeF l).2.1.toArray⟩ = t := ⟨_, rfl⟩
    have htd : (takeF l).2.1 = t.data.toList := by rw [← ht, Crc.str_data]
    obtain ⟨e1, h12⟩ := take_inv (take_three h0)
    have hts : t.size ≤ 100000 := by rw [Lib.size_eq, ← htd]; omega
    rw [ht] at HT
    rw [htd] at HQ
    have HB := Lib.hid (fun (W : World) => blockOf_any t W hts)
    clear h hl h0 ht htd e1 h12
    go_enter Try.func39, Try.ntmps39
    go_wp2_with fail
    refine HT.out.mono ?_
    rintro e w1 ⟨rfl, h1, g1⟩
    have H1 := Lib.hid (And.intro h1 g1)
    have hz1 := g1.size
    clear h1 g1
    go_wp2_with fail
    refine (HB.out _).mono ?_
    rintro e w2 ⟨⟨v, rfl, h2⟩, b2⟩
    have H2 := Lib.hid (And.intro (BlkR.le h2 hz1) (And.intro (Rq.below H1.out.1 b2) (grown_trans H1.out.2 (grown_of_below b2 _))))
    clear h2 b2
    go_wp2
    go_ret
    rw [HQ.out]
    exact ⟨⟨_, rfl, H2.out.1⟩, H2.out.2.1, H2.out.2.2⟩
  · have HT := Lib.hid (text_no bd l w h hl h0)
    have HQ := Lib.hid (show blockQ l = (.bBad, l) by unfold blockQ; rw [if_neg h0])
    clear h hl h0
    go_enter Try.func39, Try.ntmps39
    go_wp2_with fail
    refine HT.out.mono ?_
    rintro e w1 ⟨rfl, h1, g1⟩
    have H1 := Lib.hid (And.intro h1 g1)
    clear h1 g1
    go_wp2
    go_ret
    rw [HQ.out]
    exact ⟨⟨_, rfl, rfl⟩, H1.out.1, H1.out.2⟩

def headV : Option Nat → Value
  | some n => .tuple #[.int .i64 (n : Nat), .bool true]
  | none => .tuple #[.int .i64 0, .bool false]
set_option maxHeartbeats 2000000 in
set_option maxRecDepth 100000 in
theorem head_any (bd : Nat) (l : List UInt8) (w : World) (h : Rq w bd l) (hl : l.length ≤ 1000000) :
    Calls Try.prog 18 #[.pointer (some ⟨bd, 0, none⟩)] w fun e w' => e = .returned (headV (headQ l).1) ∧ Rq w' bd (headQ l).2 ∧ w.grownBy w' (some bd) := by
  have HB := Lib.hid (block_any bd l w h hl)
  obtain ⟨b, r, hb⟩ : ∃ b r, blockQ l = (b, r) := ⟨_, _, rfl⟩
  have HQ := Lib.hid (show headQ l = (match (b, r) with
    | (.bHead n, r) => (if n ≤ 2000 then some n else none, r)
    | (_, r) => (none, r)) by unfold headQ; rw [hb]; cases b <;> rfl)
  rw [hb] at HB
  clear h hl hb
  cases b with
  | bBad =>
    have hta := th_nil
    go_enter Try.func18, Try.ntmps18
    go_wp2_with fail
    refine HB.out.mono ?_
    rintro e w1 ⟨⟨v, rfl, hv⟩, h1, g1⟩
    obtain rfl := hv
    have H1 := Lib.hid (And.intro h1 g1)
    clear h1 g1
    go_wp2
    go_ret2
    rw [HQ.out]
    exact ⟨rfl, H1.out.1, H1.out.2⟩
  | bEnd =>
    have hta := th_end
    go_enter Try.func18, Try.ntmps18
    go_wp2_with fail
    refine HB.out.mono ?_
    rintro e w1 ⟨⟨v, rfl, hv⟩, h1, g1⟩
    obtain rfl := hv
    have H1 := Lib.hid (And.intro h1 g1)
    clear h1 g1
    go_wp2
    go_ret2
    rw [HQ.out]
    exact ⟨rfl, H1.out.1, H1.out.2⟩
  | bRows q =>
    have hta := th_some
    go_enter Try.func18, Try.ntmps18
    go_wp2_with fail
    refine HB.out.mono ?_
    rintro e w1 ⟨⟨v, rfl, hv⟩, h1, g1⟩
    obtain ⟨o, c, us, rfl, _⟩ := hv
    have H1 := Lib.hid (And.intro h1 g1)
    clear h1 g1
    go_wp2
    go_ret2
    rw [HQ.out]
    exact ⟨rfl, H1.out.1, H1.out.2⟩
  | bHead n =>
    have hta := th_head n
    by_cases hn : n ≤ 2000
    · have j1 : (n : Int) ≤ 2000 := by omega
      have HQ2 := Lib.hid (show headQ l = (some n, r) by rw [HQ.out]; simp only [if_pos hn])
      clear HQ hn
      go_enter Try.func18, Try.ntmps18
      go_wp2_with fail
      refine HB.out.mono ?_
      rintro e w1 ⟨⟨v, rfl, hv⟩, h1, g1⟩
      obtain rfl := hv
      have H1 := Lib.hid (And.intro h1 g1)
      clear h1 g1
      go_wp2
      go_ret2
      rw [HQ2.out]
      exact ⟨rfl, H1.out.1, H1.out.2⟩
    · have j1 : (2000 : Int) < n := by omega
      have HQ2 := Lib.hid (show headQ l = (none, r) by rw [HQ.out]; simp only [if_neg hn])
      clear HQ hn
      go_enter Try.func18, Try.ntmps18
      go_wp2_with fail
      refine HB.out.mono ?_
      rintro e w1 ⟨⟨v, rfl, hv⟩, h1, g1⟩
      obtain rfl := hv
      have H1 := Lib.hid (And.intro h1 g1)
      clear h1 g1
      go_wp2
      go_ret2
      rw [HQ2.out]
      exact ⟨rfl, H1.out.1, H1.out.2⟩

set_option maxHeartbeats 2000000 in
set_option maxRecDepth 100000 in
theorem end_any (bd : Nat) (l : List UInt8) (w : World) (h : Rq w bd l) (hl : l.length ≤ 1000000) :
    Calls Try.prog 20 #[.pointer (some ⟨bd, 0, none⟩)] w fun e w' => e = .returned (.bool (endQ l)) ∧ w.grownBy w' (some bd) := by
  have HB := Lib.hid (block_any bd l w h hl)
  have hlt := h.lt
  obtain ⟨b, r, hb⟩ : ∃ b r, blockQ l = (b, r) := ⟨_, _, rfl⟩
  have HQ := Lib.hid (show endQ l = (match (b, r) with
    | (.bEnd, r) => decide (r = [])
    | _ => false) by unfold endQ; rw [hb]; cases b <;> rfl)
  rw [hb] at HB
  clear h hl hb
  cases b with
  | bBad =>
    have hta := te_nil
    go_enter Try.func20, Try.ntmps20
    go_wp2_with fail
    refine HB.out.mono ?_
    rintro e w1 ⟨⟨v, rfl, hv⟩, h1, g1⟩
    obtain rfl := hv
    have H1 := Lib.hid (grown_trans g1 (grown_of_below ((Below.refl w1.heap.size w1).alloc (Nat.le_refl _) (Obj.cells #[] 88)) _))
    clear h1 g1
    go_wp2
    go_ret
    rw [HQ.out]
    exact ⟨rfl, H1.out⟩
  | bHead n =>
    have hta := te_head
    go_enter Try.func20, Try.ntmps20
    go_wp2_with fail
    refine HB.out.mono ?_
    rintro e w1 ⟨⟨v, rfl, hv⟩, h1, g1⟩
    obtain rfl := hv
    have H1 := Lib.hid (grown_trans g1 (grown_of_below ((Below.refl w1.heap.size w1).alloc (Nat.le_refl _) (Obj.cells #[] 88)) _))
    clear h1 g1
    go_wp2
    go_ret
    rw [HQ.out]
    exact ⟨rfl, H1.out⟩
  | bRows q =>
    have hta := te_some
    go_enter Try.func20, Try.ntmps20
    go_wp2_with fail
    refine HB.out.mono ?_
    rintro e w1 ⟨⟨v, rfl, hv⟩, h1, g1⟩
    obtain ⟨o, c, us, rfl, _⟩ := hv
    have H1 := Lib.hid (grown_trans g1 (grown_of_below ((Below.refl w1.heap.size w1).alloc (Nat.le_refl _) (Obj.cells #[] 88)) _))
    clear h1 g1
    go_wp2
    go_ret
    rw [HQ.out]
    exact ⟨rfl, H1.out⟩
  | bEnd =>
    have hta := te_end
    obtain ⟨s, hs⟩ : ∃ s : ByteArray, ⟨r.toArray⟩ = s := ⟨_, rfl⟩
    obtain ⟨q, hq⟩ : ∃ q, s.toList.isEmpty = q := ⟨_, rfl⟩
    have HQ2 := Lib.hid (show endQ l = q by
      rw [HQ.out, ← hq, ByteArray.toList_eq, ← hs, Crc.str_data]
      cases r <;> rfl)
    have HS := Lib.hid hs
    clear HQ hs
    go_enter Try.func20, Try.ntmps20
    go_wp2_with fail
    refine HB.out.mono ?_
    rintro e w1 ⟨⟨v, rfl, hv⟩, h1, g1⟩
    obtain rfl := hv
    have h2 := h1.below ((Below.refl w1.heap.size w1).alloc (Nat.le_refl _) (Obj.cells #[] 88))
    have H1 := Lib.hid (grown_trans g1 (grown_of_below ((Below.refl w1.heap.size w1).alloc (Nat.le_refl _) (Obj.cells #[] 88)) (some bd)))
    obtain ⟨c0, f0⟩ := h2.reads
    rw [HS.out] at c0
    clear h1 g1 h2
    go_wp2
    go_ret
    rw [HQ2.out]
    exact ⟨rfl, H1.out⟩

theorem skipM_len : ∀ (k : Nat) (l r : List UInt8), skipM k l = some r → r.length ≤ l.length
  | 0, l, r, h => by cases h; exact Nat.le_refl _
  | k + 1, l, r, h => by
    rw [skipM] at h
    split at h
    · next h0 =>
      have h1 := take_less h0
      have h2 := skipM_len k _ r h
      omega
    · cases h
set_option maxHeartbeats 2000000 in
set_option maxRecDepth 100000 in
theorem skip_any (bd n : Nat) (l : List UInt8) (w : World) (h : Rq w bd l) (hl : l.length ≤ 1000000) (hn : n ≤ 1000000) :
    Calls Try.prog 21 #[.pointer (some ⟨bd, 0, none⟩), .int .i64 n] w fun e w' => e = .returned (.bool (skipM n l).isSome) ∧ (∀ r, skipM n l = some r → Rq w' bd r) ∧ w.grownBy w' (some bd) := by
  have HR := Lib.hid h
  have HL := Lib.hid hl
  obtain ⟨R, hR⟩ : ∃ R, skipM n l = R := ⟨_, rfl⟩
  rw [hR]
  have HRR := Lib.hid hR
  clear h hl hR
  go_enter Try.func21, Try.ntmps21
  go_wp2
  go_loopw [5, 6, 8] (fun _ _ v8 wr => ∃ (k : Nat) (cur : List UInt8), v8 = .int .i64 k ∧ k ≤ n ∧ Hid (R = skipM (n - k) cur) ∧ Hid (cur.length ≤ l.length) ∧ Hid (Rq wr bd cur) ∧ Hid (w.grownBy wr (some bd))) (fun _ _ v8 _ => n - (Go.RowKit.intOf v8).toNat)
  case atStart => exact ⟨0, l, rfl, Nat.zero_le _, HRR.out.symm, Nat.le_refl _, HR, Row.grown_refl _ _⟩
  case round =>
    obtain ⟨k, cur, rfl, hk, HM, HC, HQ, HG⟩ := hrel
    by_cases hkn : k < n
    · have j1 : (k : Int) < n := by omega
      by_cases h0 : (takeF cur).1 = 0
      · have HT := Lib.hid (text_yes bd cur wr HQ.out (Nat.le_trans HC.out HL.out) h0)
        have HM2 := Lib.hid (show R = skipM (n - (k + 1)) (takeF cur).2.2 by
          rw [HM.out, show n - k = (n - (k + 1)) + 1 by omega, skipM, if_pos h0])
        have HC2 := Lib.hid (show (takeF cur).2.2.length ≤ l.length by have := take_less h0; have := HC.out; omega)
        clear h0 HM
        go_wp2_with fail
        refine HT.out.mono ?_
        rintro e w1 ⟨rfl, h1, g1⟩
        have HQ1 := Lib.hid h1
        have HG1 := Lib.hid (grown_trans HG.out g1)
        clear h1 g1
        go_wp2
        go_roundw
        case rel => exact ⟨k + 1, _, by go_num, by omega, HM2, HC2, HQ1, HG1⟩
        case measure => simp [Go.RowKit.intOf]; omega
      · have HT := Lib.hid (text_no bd cur wr HQ.out (Nat.le_trans HC.out HL.out) h0)
        have HM2 := Lib.hid (show R = none by
          rw [HM.out, show n - k = (n - (k + 1)) + 1 by omega, skipM, if_neg h0])
        clear h0 HM
        go_wp2_with fail
        refine HT.out.mono ?_
        rintro e w1 ⟨rfl, h1, g1⟩
        have HG1 := Lib.hid (grown_trans HG.out g1)
        clear h1 g1
        go_wp2
        go_ret
        rw [HM2.out]
        exact ⟨rfl, fun r h => by (cases h), HG1.out⟩
    · have j1 : (n : Int) ≤ k := by omega
      have HM2 := Lib.hid (show R = some cur by rw [HM.out, show n - k = 0 by omega]; rfl)
      clear HM
      go_wp2
      go_ret
      rw [HM2.out]
      exact ⟨rfl, fun r h => by cases h; exact HQ.out, HG.out⟩

/-! ## Rows of the next blocks -/
theorem neRd : 79 ≠ 45 := by decide
theorem OwnR_but {w w' : World} {B bd : Nat} {v : Value} {us : List (List Value)} {xs : List Rw} {l : List UInt8} (h : OwnR w B v us xs) (hq : Rq w bd l) (hg : w.grownBy w' (some bd)) (hb : bd < B) : OwnR w' B v us xs :=
  ⟨h.len, own_but h.own hg hb, fun j x hx => by
    obtain ⟨p, h1, h2⟩ := h.one j x hx
    exact ⟨p, h1, (firmRow (B := 0) neRd).grown _ _ _ _ _ h2 (fun g e => by cases e; exact ⟨Nat.zero_le _, _, _, hq⟩) hg⟩⟩
theorem rowsM_left : ∀ (f n : Nat) (l : List UInt8), (rowsM f n l).2.length ≤ l.length
  | 0, n, l => Nat.le_refl _
  | f + 1, n, l => by
    have hb := blockQ_len l
    obtain ⟨b, r, e⟩ : ∃ b r, blockQ l = (b, r) := ⟨_, _, rfl⟩
    rw [rowsM, e]
    rw [e] at hb
    split
    · exact Nat.le_refl _
    · cases b with
      | bRows b =>
        simp only [] at hb ⊢
        split
        · have := rowsM_left f (n - b.length) r
          simp only []; omega
        · exact hb
      | _ => exact hb

set_option maxHeartbeats 4000000 in
set_option maxRecDepth 100000 in
theorem rows_any (bd n : Nat) (l : List UInt8) (w : World) (h : Rq w bd l) (hl : l.length ≤ 1000000) (hn : n ≤ 100000) :
    Calls Try.prog 19 #[.pointer (some ⟨bd, 0, none⟩), .int .i64 n] w fun e w' => RowsR w.heap.size (rowsM (n + 1) n l).1 e w' ∧ Rq w' bd (rowsM (n + 1) n l).2 ∧ w.grownBy w' (some bd) := by
  obtain ⟨i0, hi, hz0, hz1, hz2⟩ := info_parts infoRow
  have HR := Lib.hid h
  have HL := Lib.hid hl
  have hlt := h.lt
  obtain ⟨R, hR⟩ : ∃ R, rowsM (n + 1) n l = R := ⟨_, rfl⟩
  rw [hR]
  have HRR := Lib.hid hR
  clear h hl hR
  go_enter Try.func19, Try.ntmps19
  go_wp2
  go_loopw [6, 7, 8] (fun v6 _ _ wr => ∃ (j f : Nat) (all : List Rw) (us : List (List Value)) (cur : List UInt8), all.length = j ∧ j ≤ n ∧ n - j < f ∧ Hid (R = ((rowsM f (n - j) cur).1.map fun q => all ++ q, (rowsM f (n - j) cur).2)) ∧ Hid (cur.length ≤ l.length) ∧ Hid (OwnR wr w.heap.size v6 us all) ∧ Hid (Rq wr bd cur) ∧ Hid (w.grownBy wr (some bd))) (fun v6 _ _ _ => match v6 with | .slice _ k _ => n - k | _ => 0)
  case atStart => exact ⟨0, n + 1, [], [], l, rfl, Nat.zero_le _, by omega, (show _ = _ by rw [← HRR.out, Nat.sub_zero]; cases (rowsM (n + 1) n l) with | mk a b => cases a <;> rfl), Nat.le_refl _, OwnG.nil _ _, HR, Row.grown_refl _ _⟩
  case round =>
    obtain ⟨j, f, all, us, cur, hj, hjn, hf, HM, HC, HO, HQ, HG⟩ := hrel
    obtain ⟨o, c, rfl, hS, _⟩ := HO.out.sees frow
    rw [hj] at HO ⊢
    clear hS
    have HJ := Lib.hid hj
    obtain ⟨f, rfl⟩ : ∃ g, f = g + 1 := ⟨f - 1, by omega⟩
    have HB := Lib.hid (block_any bd cur wr HQ.out (Nat.le_trans HC.out HL.out))
    obtain ⟨b, r, hb⟩ : ∃ b r, blockQ cur = (b, r) := ⟨_, _, rfl⟩
    have HCR := Lib.hid (show r.length ≤ l.length by have := blockQ_len cur; rw [hb] at this; exact Nat.le_trans this HC.out)
    rw [hb] at HB
    have hzr := HG.out.size
    by_cases hkn : j < n
    · have j1 : (j : Int) < n := by omega
      have HE := Lib.hid (show rowsM (f + 1) (n - j) cur = (match (b, r) with
        | (.bRows b, r) => if b.length = min 8 (n - j) then ((rowsM f (n - j - b.length) r).1.map fun q => b ++ q, (rowsM f (n - j - b.length) r).2) else (none, r)
        | (_, r) => (none, r)) by rw [rowsM, if_neg (by omega), hb]; cases b <;> rfl)
      clear hb
      cases b with
      | bBad =>
        have hta := ts_nil
        have HX := Lib.hid (show R = (none, r) by rw [HM.out, HE.out]; rfl)
        clear HM HE
        go_wp2_with fail
        refine HB.out.mono ?_
        rintro e w1 ⟨⟨v, rfl, hv⟩, h1, g1⟩
        obtain rfl := hv
        have H1 := Lib.hid (And.intro h1 (grown_trans HG.out g1))
        clear h1 g1
        go_wp2
        go_ret2
        rw [HX.out]
        exact ⟨rfl, H1.out.1, H1.out.2⟩
      | bEnd =>
        have hta := ts_end
        have HX := Lib.hid (show R = (none, r) by rw [HM.out, HE.out]; rfl)
        clear HM HE
        go_wp2_with fail
        refine HB.out.mono ?_
        rintro e w1 ⟨⟨v, rfl, hv⟩, h1, g1⟩
        obtain rfl := hv
        have H1 := Lib.hid (And.intro h1 (grown_trans HG.out g1))
        clear h1 g1
        go_wp2
        go_ret2
        rw [HX.out]
        exact ⟨rfl, H1.out.1, H1.out.2⟩
      | bHead q =>
        have hta := ts_head q
        have HX := Lib.hid (show R = (none, r) by rw [HM.out, HE.out]; rfl)
        clear HM HE
        go_wp2_with fail
        refine HB.out.mono ?_
        rintro e w1 ⟨⟨v, rfl, hv⟩, h1, g1⟩
        obtain rfl := hv
        have H1 := Lib.hid (And.intro h1 (grown_trans HG.out g1))
        clear h1 g1
        go_wp2
        go_ret2
        rw [HX.out]
        exact ⟨rfl, H1.out.1, H1.out.2⟩
      | bRows q =>
        have hta := ts_some
        obtain ⟨m, hm⟩ : ∃ m, q.length = m := ⟨_, rfl⟩
        have HMM := Lib.hid hm
        obtain ⟨k, hk⟩ : ∃ k : Nat, (if ((n : Int) - j) < 8 then ((n : Int) - j) else 8) = k := ⟨min 8 (n - j), by split <;> omega⟩
        have hkm : k = min 8 (n - j) := by split at hk <;> omega
        have mn : ∀ (W : World) (ts : Array TypeId) (t : TypeId), (Builtin.min_ ts t #[.int .i64 8, .int .i64 ((n : Int) - j)]).run Try.prog W = .ok (.int .i64 (k : Int)) W := fun W ts t => by rw [run_min_int2, hk]
        by_cases hmk : m = k
        · subst hmk
          have HX := Lib.hid (show R = ((rowsM f (n - (j + m)) r).1.map fun p => (all ++ q) ++ p, (rowsM f (n - (j + m)) r).2) by
            rw [HM.out, HE.out]
            simp only []
            rw [HMM.out, if_pos hkm, show n - j - m = n - (j + m) by omega]
            simp only []
            cases (rowsM f (n - (j + m)) r).1 with
            | none => rfl
            | some p => simp)
          have hm1 : 1 ≤ m := by omega
          have hm8 : m ≤ 8 := by omega
          have hjm : j + m ≤ n := by omega
          clear HM HE hm hk hkm
          go_wp2_with fail
          refine HB.out.mono ?_
          rintro e w1 ⟨⟨v, rfl, hv⟩, h1, g1⟩
          obtain ⟨o2, c2, us2, rfl, hO2⟩ := hv
          have hO1 := OwnR_but HO.out HQ.out g1 hlt
          have HQ1 := Lib.hid h1
          have HG1 := Lib.hid (grown_trans HG.out g1)
          have hzz := HG1.out.size
          rw [HMM.out] at hO2 ⊢
          have HO1 := Lib.hid hO1
          have HO2 := Lib.hid hO2
          have hql : q.length ≤ 8 := by rw [HMM.out]; omega
          have hal : all.length ≤ 100000 := by rw [HJ.out]; omega
          clear h1 g1 hO1 hO2
          go_wp2_with (at_builtin; go_must (refine wpList_append_G2 _ rfl _ _ 23 85 rfl w.heap.size 40 i0 (.agg #[.slice none 0 0, .int .i64 0]) 2 32 Try.underlying23 Try.underlying85 hi hz0 hz1 hz2 rfl (by decide) frow (Nat.zero_le _) (.slice o j c) us all rfl HO1.out (.slice o2 m c2) _ us2 q rfl HO2.out (by unfold maxLen; omega) (by omega) hzz ?_); intro v' w2 hO' hg')
          have HO' := Lib.hid hO'
          have hB2 : ∀ i, i < w1.heap.size → i < w.heap.size → w2.heap[i]? = w1.heap[i]? := fun i h1 h2 =>
            hg'.block i h1 (fun e => by have := (HO1.out.own.lt _ e.symm).1; omega)
          have HQ2 := Lib.hid (show Rq w2 bd r from (hB2 bd HQ1.out.lt hlt).trans HQ1.out)
          have HG2 := Lib.hid (show w.grownBy w2 (some bd) from ⟨hg'.os.trans HG1.out.os, hg'.tape.trans HG1.out.tape, hg'.output.trans HG1.out.output, Nat.le_trans HG1.out.size hg'.size, fun i hi1 hi2 => (hB2 i (Nat.lt_of_lt_of_le hi1 hzz) hi1).trans (HG1.out.block i hi1 hi2)⟩)
          obtain ⟨o3, c3, rfl, _, _⟩ := HO'.out.sees frow
          have hlen : (all ++ q).length = j + m := by rw [List.length_append, HJ.out, HMM.out]
          rw [hlen]
          have HLEN := Lib.hid hlen
          rw [hlen] at HO'
          clear hO' hg' hB2 hlen
          go_wp2
          go_roundw
          case rel => exact ⟨j + m, f, all ++ q, us ++ us2, r, HLEN.out, hjm, by omega, HX, HCR, HO', HQ2, HG2⟩
          case measure => simp only []; omega
        · have HX := Lib.hid (show R = (none, r) by
            rw [HM.out, HE.out]
            simp only []
            rw [HMM.out, if_neg (by omega)]; rfl)
          have j2 : ¬ ((m : Int) = k) := by omega
          clear HM HE hm hk hkm
          go_wp2_with fail
          refine HB.out.mono ?_
          rintro e w1 ⟨⟨v, rfl, hv⟩, h1, g1⟩
          obtain ⟨o2, c2, us2, rfl, hO2⟩ := hv
          have H1 := Lib.hid (And.intro h1 (grown_trans HG.out g1))
          rw [HMM.out]
          clear h1 g1 hO2
          go_wp2
          go_ret2
          rw [HX.out]
          exact ⟨rfl, H1.out.1, H1.out.2⟩
    · have j1 : (n : Int) ≤ j := by omega
      have HX := Lib.hid (show R = (some all, cur) by
        rw [HM.out, rowsM, if_pos (by omega)]; simp)
      clear HM hb HB
      go_wp2
      go_ret2
      rw [HX.out]
      exact ⟨⟨_, us, rfl, HO.out⟩, HQ.out, HG.out⟩
end Go.Proofs.Ytldlfmeppcdbbaa.Run
