/- The document's row of bytes. -/
import Derived.Test.YtldlfmeppcdbbaaYj
import Derived.Deep.RegionWith
import Derived.BigRegion
namespace Go.Proofs.Ytldlfmeppcdbbaa.Row
open Go.RowKit Go.Lib Go.Proofs.Ytldlfmeppcdbbaa.Crc

/-- What the document's Get answers. -/
def DGot (B : Nat) (l : List UInt8) (e : Ending) (w' : World) : Prop :=
  match getR l with
  | none => e = .returned (.tuple #[.agg #[.slice none 0 0, .int .i64 0], .string ⟨#[]⟩, .bool false])
  | some (xs, v, r) => ∃ o c, e = .returned (.tuple #[.agg #[.slice o xs.length c, .int .i64 v], .string ⟨r.toArray⟩, .bool true]) ∧ w'.ownsRow B 79 2 (.slice o xs.length c) xs.length (flatL xs)
theorem posL {B i : Nat} {v : Value} {L : List Value} {w : World} {t : TypeId} (h : w.ownsRow B t 2 v i L) (h1 : 1 ≤ i) : ∃ g cap, v = .slice (some ⟨g, 0, none⟩) i cap := by
  rcases h.2 with ⟨rfl, h0⟩ | ⟨g, cap, cur, rfl, _⟩
  · omega
  · exact ⟨g, cap, rfl⟩
theorem flat_set : ∀ (ys : List Lab) (a b : ByteArray), (flatL (ys ++ [(a, ⟨#[]⟩)])).set (ys.length * 2 + 1) (.string b) = flatL (ys ++ [(a, b)])
  | [], a, b => rfl
  | y :: ys, a, b => by
    have ih := flat_set ys a b
    rw [List.length_cons, show (ys.length + 1) * 2 + 1 = (ys.length * 2 + 1) + 1 + 1 by omega]
    show (Value.string y.1 :: Value.string y.2 :: flatL (ys ++ [(a, ⟨#[]⟩)])).set _ _ = Value.string y.1 :: Value.string y.2 :: flatL (ys ++ [(a, b)])
    rw [List.set_cons_succ, List.set_cons_succ, ih]
theorem textP_drop {l : List UInt8} {at_ : Nat} (h : at_ < l.length) : textP (l.drop at_) = if l.length < at_ + 1 + (l[at_]).toNat then none else some ((l.drop (at_ + 1)).take (l[at_]).toNat, l.drop (at_ + 1 + (l[at_]).toNat)) := by
  rw [List.drop_eq_getElem_cons h, textP, List.length_drop, List.drop_drop]
  by_cases hc : l.length < at_ + 1 + (l[at_]).toNat
  · rw [if_pos hc, if_pos (by omega)]
  · rw [if_neg hc, if_neg (by omega)]
theorem textP_end {l : List UInt8} {at_ : Nat} (h : l.length ≤ at_) : textP (l.drop at_) = none := by
  rw [List.drop_eq_nil_of_le h]; rfl
theorem textsP_small : ∀ (n : Nat) (l : List UInt8) (p : List (List UInt8) × List UInt8), textsP n l = some p → ∀ t ∈ p.1, t.length < 256
  | 0, l, p, h => by cases h; simp
  | n + 1, l, p, h => by
    rw [textsP] at h
    cases h1 : textP l with
    | none => rw [h1] at h; cases h
    | some u =>
      rw [h1] at h
      cases h2 : textsP n u.2 with
      | none => simp only [h2] at h; cases h
      | some q =>
        simp only [h2] at h
        cases h
        intro t ht
        rcases List.mem_cons.1 ht with rfl | ht
        · cases l with
          | nil => cases h1
          | cons c r =>
            rw [textP] at h1
            split at h1
            · cases h1
            · cases h1
              show (r.take c.toNat).length < 256
              rw [List.length_take]
              have := c.toNat_lt
              omega
        · exact textsP_small n _ _ h2 t ht
theorem pairUp_small : ∀ (ts : List (List UInt8)), (∀ t ∈ ts, t.length < 256) → ∀ x ∈ pairUp ts, x.1.size ≤ 1000 ∧ x.2.size ≤ 1000
  | [], _ => by simp [pairUp]
  | [a], h => by
    intro x hx
    simp only [pairUp, List.mem_singleton] at hx
    subst hx
    have := h a (List.mem_cons_self ..)
    rw [str_size]
    exact ⟨by omega, Nat.zero_le _⟩
  | a :: b :: r, h => by
    intro x hx
    rw [pairUp] at hx
    rcases List.mem_cons.1 hx with rfl | hx
    · have h1 := h a (List.mem_cons_self ..)
      have h2 := h b (List.mem_cons_of_mem _ (List.mem_cons_self ..))
      rw [str_size, str_size]; omega
    · exact pairUp_small r (fun t ht => h t (List.mem_cons_of_mem _ (List.mem_cons_of_mem _ ht))) x hx
theorem getR_none {c : UInt8} {r : List UInt8} {i : Nat} (h : textsP i r = none) (hi : i ≤ 2 * c.toNat) : getR (c :: r) = none := by
  have h2 := textsP_mono h (2 * c.toNat - i)
  rw [show i + (2 * c.toNat - i) = 2 * c.toNat by omega] at h2
  simp only [getR, h2]
theorem getR_some {c : UInt8} {r : List UInt8} {p : List (List UInt8) × List UInt8} (h : textsP (2 * c.toNat) r = some p) : getR (c :: r) = if p.2.length < 6 then none else if okR (pairUp p.1) ((valA 0 (p.2.take 6) : Nat) - 1000000000000) then some (pairUp p.1, ((valA 0 (p.2.take 6) : Nat) : Int) - 1000000000000, p.2.drop 6) else none := by
  simp only [getR, h]; rfl

set_option maxHeartbeats 16000000 in
set_option maxRecDepth 100000 in
theorem dget_any (b : ByteArray) (w : World) (hb : b.size ≤ 1000000) :
    Calls Try.prog 24 #[.string b] w fun e w' => DGot w.heap.size b.data.toList e w' ∧ Below w.heap.size w w' := by
  obtain ⟨i0, hi, hz0, hz1, hz2⟩ := info_parts info38
  obtain ⟨l, hl⟩ : ∃ l, b.data.toList = l := ⟨_, rfl⟩
  have hsz : b.size = l.length := by rw [← hl, Lib.size_eq]
  have hbx := box_row w (.slice none 0 0) (.int .i64 0) 40
  have hz1' : (w.alloc (Obj.cells #[Value.slice none 0 0, Value.int .i64 0] 40)).heap.size = w.heap.size + 1 := Array.size_push _
  cases he : b.toList.isEmpty with
  | true =>
    have hl0 : l = [] := by
      rw [← hl, ← Lib.toList_data]
      simpa using he
    have HX := Lib.hid hbx
    have HB := Lib.hid ((Below.refl w.heap.size w).alloc (Nat.le_refl _) (Obj.cells #[Value.slice none 0 0, Value.int .i64 0] 40))
    have HL := Lib.hid hl
    rw [hl0] at HL
    clear hl hsz hbx hz1' hb hl0
    go_enter Try.func24, Try.ntmps24
    go_wp2
    obtain ⟨r0, r1⟩ := box_two HX.out
    refine bodyPost_ret (v := .tuple #[.agg #[.slice none 0 0, .int .i64 0], .string ⟨#[]⟩, .bool false]) (by simp [results, Try.results24, go_sem, r0, r1]) rfl ⟨?_, HB.out⟩
    rw [HL.out]; rfl
  | false =>
    obtain ⟨c, r, hcr⟩ : ∃ c r, l = c :: r := by
      cases l with
      | nil => 
        have : b.toList = [] := by rw [Lib.toList_data, hl]
        rw [this] at he; cases he
      | cons c r => exact ⟨c, r, rfl⟩
    have hb0 : 0 < b.size := by rw [hsz, hcr]; simp
    have hc0 : (b[0]'hb0).toNat = c.toNat := by
      have h1 : b.data.toList[0]'(by rw [← Lib.size_eq]; exact hb0) = b[0]'hb0 := rfl
      rw [← h1]; simp only [hl, hcr]; rfl
    have hcn : c.toNat < 256 := c.toNat_lt
    obtain ⟨n, hn⟩ : ∃ n, c.toNat = n := ⟨_, rfl⟩
    rw [hn] at hc0 hcn
    have jb : (0 : Int) < b.size := by omega
    have HL := Lib.hid (show b.data.toList = c :: r by rw [hl, hcr])
    have HZ := Lib.hid hsz
    have HCN := Lib.hid hn
    obtain ⟨W0, hW0⟩ : ∃ W0, (w.alloc (Obj.cells #[Value.slice none 0 0, Value.int .i64 0] 40)).alloc (Obj.cells #[Value.slice none 0 0, Value.int .i64 0] 40) = W0 := ⟨_, rfl⟩
    have HB0 := Lib.hid (show Below w.heap.size w W0 by rw [← hW0]; exact ((Below.refl _ _).alloc (Nat.le_refl _) _).alloc (by omega) _)
    have HY0 := Lib.hid (show W0.heap[w.heap.size + 1]? = some (.cells #[.slice none 0 0, .int .i64 0] 40 (0, 0)) by
      have h := box_row (w.alloc (Obj.cells #[Value.slice none 0 0, Value.int .i64 0] 40)) (.slice none 0 0) (.int .i64 0) 40
      rw [hW0, hz1'] at h; exact h)
    have HX0 := Lib.hid (show W0.heap[w.heap.size]? = some (.cells #[.slice none 0 0, .int .i64 0] 40 (0, 0)) by
      rw [← hW0]; exact (Below.heap_alloc _ _ _ (by omega)).trans hbx)
    have HW0 := Lib.hid hW0
    have hlr : l.drop 1 = r := by rw [hcr]; rfl
    have HLR := Lib.hid hlr
    have HLL := Lib.hid hl
    have HCR := Lib.hid hcr
    clear hl hsz hcr hn hW0 hlr hbx hz1'
    go_enter Try.func24, Try.ntmps24
    go_wp2
    rw [HW0.out]
    go_loopw [7, 8, 9] (fun v7 v8 v9 wr => ∃ (i a : Nat) (ts : List (List UInt8)) (lv : Value), v8 = .int .i64 i ∧ i ≤ 2 * n ∧ v7 = .int .i64 a ∧ a ≤ b.size ∧ Hid (textsP i r = some (ts, l.drop a)) ∧ Hid (wr.heap[w.heap.size + 1]? = some (.cells #[lv, .int .i64 0] 40 (0, 0))) ∧ Hid (wr.heap[w.heap.size]? = some (.cells #[.slice none 0 0, .int .i64 0] 40 (0, 0))) ∧ Hid (wr.ownsRow (w.heap.size + 2) 79 2 lv (pairUp ts).length (flatL (pairUp ts))) ∧ Hid (Below w.heap.size w wr)) (fun _ v8 _ _ => 2 * n - (Go.RowKit.intOf v8).toNat)
    case atStart => exact ⟨0, 1, [], .slice none 0 0, rfl, Nat.zero_le _, rfl, hb0, by show _ = _; rw [HLR.out]; rfl, HY0, HX0, World.ownsRow_nil _ _ _ _, HB0⟩
    case round =>
      obtain ⟨i, a, ts, lv, rfl, hi2, rfl, ha, HT, HY2, HX2, HO, HB⟩ := hrel
      have htl := textsP_len _ _ _ HT.out
      simp only [] at htl
      by_cases hin : i < 2 * n
      · have j1 : (i : Int) < 2 * n := by omega
        have hns : ∀ q, textP (l.drop a) = q → textsP (i + 1) r = (match q with
          | none => none
          | some p => some (ts ++ [p.1], p.2)) := fun q hq => by rw [textsP_snoc, HT.out]; simp only [hq]; cases q <;> rfl
        by_cases hat : a < b.size
        · have j2 : (a : Int) < b.size := by omega
          have hal : a < l.length := by rw [← HZ.out]; exact hat
          obtain ⟨m, hm⟩ : ∃ m, (b[a]'hat).toNat = m := ⟨_, rfl⟩
          have hml : (l[a]).toNat = m := by
            rw [← hm]
            have h1 : b.data.toList[a]'(by rw [← Lib.size_eq]; exact hat) = b[a]'hat := rfl
            rw [← h1]; simp only [HLL.out]
          have hm256 : m < 256 := by rw [← hm]; exact (b[a]'hat).toNat_lt
          have htp := textP_drop hal
          rw [hml] at htp
          by_cases hlen : a + 1 + m ≤ b.size
          · have j3 : (a : Int) + 1 + m ≤ b.size := by omega
            have htp2 : textP (l.drop a) = some ((l.drop (a + 1)).take m, l.drop (a + 1 + m)) := by rw [htp, if_neg (by rw [← HZ.out]; omega)]
            obtain ⟨s, hs⟩ : ∃ s, b.extract (a + 1) (a + 1 + m) = s := ⟨_, rfl⟩
            have hss : s.size = m := by rw [← hs, ByteArray.size_extract]; omega
            have hsd : s.data.toList = (l.drop (a + 1)).take m := by
              rw [← hs, ByteArray.data_extract, Array.toList_extract, ← HLL.out]
              simp [List.extract]
            have HT2 := Lib.hid (show textsP (i + 1) r = some (ts ++ [s.data.toList], l.drop (a + 1 + m)) by rw [hns _ htp2, hsd])
            have hj4 : (0 : Int) ≤ (a : Int) + 1 := by omega
            have hj5 : (a : Int) + 1 ≤ a + 1 + m := by omega
            obtain ⟨y0, y1⟩ := box_two HY2.out
            obtain ⟨f0, f1⟩ := free_two HY2.out
            have hly := (Array.getElem?_eq_some_iff.1 HY2.out).1
            clear hns htp htp2 hml hal HT hsd
            rcases Nat.mod_two_eq_zero_or_one i with hmod | hmod
            · have je : (i : Int).tmod 2 = 0 := by rw [Int.tmod_eq_emod_of_nonneg (by omega)]; omega
              have je2 : (i : Int) % 2 = 0 := by omega
              have hpl : pairUp (ts ++ [s.data.toList]) = pairUp ts ++ [(s, ⟨#[]⟩)] := by
                rw [pairUp_half ts (i / 2) _ (by omega), str_of]
              have hpk : (pairUp ts).length = i / 2 := pairUp_len ts (i / 2) (by omega)
              have hO := HO.out
              clear htl hmod
              go_wp2_with (at_builtin
                           go_must (refine wpList_append_own _ rfl _ _ 38 rfl (w.heap.size + 2) 79 i0 (.agg #[.string ⟨#[]⟩, .string ⟨#[]⟩]) 2 32 Try.underlying38 hi hz0 hz1 hz2 rfl (by decide) _ _ _ rfl (hO.alloc _) ⟨wr.heap.size, 0, none⟩ 1 1 [.string s, .string ⟨#[]⟩] rfl rfl (cells_2 _ _ _ _) (one_2 _ _) (by unfold maxLen; omega) (by omega) (by simp; omega) ?_)
                           intro v' w4 hown' hgrow4 hnil4
                           obtain ⟨g4, c4, rfl⟩ := posL hown' (by omega)
                           have hB4 : ∀ k, k < w.heap.size + 2 → k < wr.heap.size → w4.heap[k]? = wr.heap[k]? := fun k h1 h2 => by
                             rw [hgrow4.block k (by rw [show (wr.alloc (Obj.cells #[Value.string s, Value.string ⟨#[]⟩] 79)).heap.size = wr.heap.size + 1 from Array.size_push _]; omega) (fun e => by have := (hO.lt _ e.symm).1; omega)]
                             exact Below.heap_alloc _ _ _ h2
                           have hY4 := (hB4 (w.heap.size + 1) (by omega) (by omega)).trans HY2.out
                           obtain ⟨q0, q1⟩ := box_two hY4
                           obtain ⟨e0, e1⟩ := free_two hY4)
              have HX5 := Lib.hid (show (w4.setCell ⟨w.heap.size + 1, 0, none⟩ (.slice (some ⟨g4, 0, none⟩) ((pairUp ts).length + 1) c4)).heap[w.heap.size]? = some (.cells #[.slice none 0 0, .int .i64 0] 40 (0, 0)) from
                (heap_setCell_other w4 ⟨w.heap.size + 1, 0, none⟩ w.heap.size _ (by simp)).trans ((hB4 w.heap.size (by omega) (by omega)).trans HX2.out))
              have HY5 := Lib.hid (two_set0 (u := .slice (some ⟨g4, 0, none⟩) ((pairUp ts).length + 1) c4) hY4)
              have HO5 := Lib.hid (show (w4.setCell ⟨w.heap.size + 1, 0, none⟩ (.slice (some ⟨g4, 0, none⟩) ((pairUp ts).length + 1) c4)).ownsRow (w.heap.size + 2) 79 2 (.slice (some ⟨g4, 0, none⟩) ((pairUp ts).length + 1) c4) (pairUp (ts ++ [s.data.toList])).length (flatL (pairUp (ts ++ [s.data.toList]))) by
                rw [hpl, List.length_append, flatL_snoc]
                exact ownsRow_setCell_other hown' (a := ⟨w.heap.size + 1, 0, none⟩) (fun e => by have := (hown'.lt _ e).1; simp only [] at this; omega) _)
              have HB5 := Lib.hid (show Below w.heap.size w (w4.setCell ⟨w.heap.size + 1, 0, none⟩ (.slice (some ⟨g4, 0, none⟩) ((pairUp ts).length + 1) c4)) from
                (Below.grown (HB.out.alloc (by omega) (Obj.cells #[Value.string s, Value.string ⟨#[]⟩] 79)) hgrow4 (by rw [show (wr.alloc (Obj.cells #[Value.string s, Value.string ⟨#[]⟩] 79)).heap.size = wr.heap.size + 1 from Array.size_push _]; omega) (fun k hk => by have := (hO.lt k hk).1; omega)).setCell (p := ⟨w.heap.size + 1, 0, none⟩) (Nat.le_succ _) _)
              clear hown' hgrow4 hnil4 hB4 hY4 hO q0 q1 e0 e1 y0 y1 f0 f1
              rw [hpk] at HX5 HY5 HO5 HB5
              go_roundw
              case rel => exact ⟨i + 1, a + 1 + m, ts ++ [s.data.toList], _, by go_num, by omega, by go_num, by omega, HT2, HY5, HX5, HO5, HB5⟩
              case measure => simp [Go.RowKit.intOf]; omega
            · have je : (i : Int).tmod 2 = 1 := by rw [Int.tmod_eq_emod_of_nonneg (by omega)]; omega
              have je2 : (i : Int) % 2 = 1 := by omega
              obtain ⟨k, hk⟩ : ∃ k, i = 2 * k + 1 := ⟨i / 2, by omega⟩
              have hne : ts ≠ [] := fun e => by rw [e] at htl; simp at htl; omega
              have hts : ts = ts.dropLast ++ [ts.getLast hne] := (List.dropLast_concat_getLast hne).symm
              obtain ⟨ys, hys⟩ : ∃ ys, pairUp ts.dropLast = ys := ⟨_, rfl⟩
              obtain ⟨A, hA⟩ : ∃ A : ByteArray, ⟨(ts.getLast hne).toArray⟩ = A := ⟨_, rfl⟩
              have hdl : ts.dropLast.length = 2 * k := by rw [List.length_dropLast]; omega
              have hpu : pairUp ts = ys ++ [(A, ⟨#[]⟩)] := by rw [hts, pairUp_half _ k _ hdl, ← hys, ← hA]
              have hpl : pairUp (ts ++ [s.data.toList]) = ys ++ [(A, s)] := by
                conv => lhs; rw [hts, List.append_assoc]
                show pairUp (ts.dropLast ++ [ts.getLast hne, s.data.toList]) = _
                rw [pairUp_snoc _ k _ _ hdl, hys, hA, str_of]
              have hyl : ys.length = k := by rw [← hys]; exact pairUp_len _ k hdl
              have hO := HO.out
              rw [hpu, List.length_append, hyl] at hO
              obtain ⟨g, cap, rfl⟩ := posL hO (by simp)
              have hq4 := hO.cellAt (k * 2 + 1) (by simp; omega)
              have hfa := (flatL_at (ys ++ [(A, ⟨#[]⟩)]) k (A, ⟨#[]⟩) (by rw [List.getElem?_append_right (by omega), hyl, Nat.sub_self]; rfl)).2
              rw [hfa] at hq4
              have hf4 := hO.frozenAt (k * 2 + 1)
              have HO5 := Lib.hid (show (wr.setCell ⟨g, k * 2 + 1, none⟩ (.string s)).ownsRow (w.heap.size + 2) 79 2 (.slice (some ⟨g, 0, none⟩) (k + 1) cap) (pairUp (ts ++ [s.data.toList])).length (flatL (pairUp (ts ++ [s.data.toList]))) by
                have h := (hO.stored (k * 2 + 1) (.string s)).1
                rw [← hyl, flat_set] at h
                rw [hpl, List.length_append, ← hyl]
                exact h)
              have hgl := (hO.lt g rfl).1
              have HY5 := Lib.hid ((heap_setCell_other wr ⟨g, k * 2 + 1, none⟩ (w.heap.size + 1) (.string s) (by simp only []; omega)).trans HY2.out)
              have HX5 := Lib.hid ((heap_setCell_other wr ⟨g, k * 2 + 1, none⟩ w.heap.size (.string s) (by simp only []; omega)).trans HX2.out)
              have HB5 := Lib.hid (HB.out.setCell (p := ⟨g, k * 2 + 1, none⟩) (by simp only []; omega) (.string s))
              have hcl : (k : Int) < k + 1 := by omega
              have hk0 : (0 : Int) ≤ k := by omega
              clear hmod htl hts hys hA hdl hpu hpl hyl hO hfa hgl
              go_wp2
              go_roundw
              case rel => exact ⟨i + 1, a + 1 + m, ts ++ [s.data.toList], _, by rw [hk]; go_num, by omega, by go_num, by omega, HT2, HY5, HX5, HO5, HB5⟩
              case measure => simp [Go.RowKit.intOf]; omega
          · have j3 : (b.size : Int) < a + 1 + m := by omega
            have HE := Lib.hid (show getR (c :: r) = none from getR_none (i := i + 1) (by
              rw [hns _ rfl, htp, if_pos (by rw [← HZ.out]; omega)]) (by rw [HCN.out]; omega))
            clear hns htp hml hal HT htl
            obtain ⟨y0, y1⟩ := free_two HX2.out
            obtain ⟨x0, x1⟩ := box_two HX2.out
            have HX4 := Lib.hid (two_set1 (u := .int .i64 0) (two_set0 (u := .slice none 0 0) HX2.out))
            have HB4 := Lib.hid ((HB.out.setCell (p := ⟨w.heap.size, 0, none⟩) (Nat.le_refl _) (Value.slice none 0 0)).setCell (p := ⟨w.heap.size, 1, none⟩) (Nat.le_refl _) (Value.int .i64 0))
            go_wp2
            obtain ⟨r0, r1⟩ := box_two HX4.out
            refine bodyPost_ret (v := .tuple #[.agg #[.slice none 0 0, .int .i64 0], .string ⟨#[]⟩, .bool false]) (by simp [results, Try.results24, go_sem, r0, r1]) rfl ⟨?_, HB4.out⟩
            unfold DGot
            rw [HL.out, HE.out]
        · have j2 : (b.size : Int) ≤ a := by omega
          have HE := Lib.hid (show getR (c :: r) = none from getR_none (i := i + 1) (by
              rw [hns _ rfl, textP_end (by rw [← HZ.out]; omega)]) (by rw [HCN.out]; omega))
          clear hns HT htl
          obtain ⟨y0, y1⟩ := free_two HX2.out
          obtain ⟨x0, x1⟩ := box_two HX2.out
          have HX4 := Lib.hid (two_set1 (u := .int .i64 0) (two_set0 (u := .slice none 0 0) HX2.out))
          have HB4 := Lib.hid ((HB.out.setCell (p := ⟨w.heap.size, 0, none⟩) (Nat.le_refl _) (Value.slice none 0 0)).setCell (p := ⟨w.heap.size, 1, none⟩) (Nat.le_refl _) (Value.int .i64 0))
          go_wp2
          obtain ⟨r0, r1⟩ := box_two HX4.out
          refine bodyPost_ret (v := .tuple #[.agg #[.slice none 0 0, .int .i64 0], .string ⟨#[]⟩, .bool false]) (by simp [results, Try.results24, go_sem, r0, r1]) rfl ⟨?_, HB4.out⟩
          unfold DGot
          rw [HL.out, HE.out]
      · have hi2n : i = 2 * n := by omega
        have j1 : (2 : Int) * n ≤ i := by omega
        have HG := Lib.hid (show getR (c :: r) = if (l.drop a).length < 6 then none else if okR (pairUp ts) (((valA 0 ((l.drop a).take 6) : Nat) : Int) - 1000000000000) then some (pairUp ts, ((valA 0 ((l.drop a).take 6) : Nat) : Int) - 1000000000000, (l.drop a).drop 6) else none from
          getR_some (p := (ts, l.drop a)) (by rw [HCN.out, ← hi2n]; exact HT.out))
        have hdl : (l.drop a).length = b.size - a := by rw [List.length_drop, HZ.out]
        by_cases h6 : a + 6 ≤ b.size
        · have j2 : (a : Int) + 6 ≤ b.size := by omega
          have j3 : (a : Int) ≤ a + 6 := by omega
          have j4 : (0 : Int) ≤ a := by omega
          obtain ⟨s, hs⟩ : ∃ s, b.extract a (a + 6) = s := ⟨_, rfl⟩
          have hss : s.size = 6 := by rw [← hs, ByteArray.size_extract]; omega
          have hsd : s.data.toList = (l.drop a).take 6 := by
            rw [← hs, ByteArray.data_extract, Array.toList_extract, ← HLL.out]
            simp [List.extract]
          obtain ⟨q, hq⟩ : ∃ q, b.extract (a + 6) b.size = q := ⟨_, rfl⟩
          have hqd : q.data.toList = (l.drop a).drop 6 := by
            rw [← hq, ext_from, str_data, ← HLL.out, List.drop_drop]
          have HV := Lib.hid (fun (W : World) => dvalue_any s W (by omega))
          obtain ⟨u, hu⟩ : ∃ u, valA 0 s.data.toList = u := ⟨_, rfl⟩
          have hu6 : u < 281474976710656 := by
            have h := valA_lt s.data.toList 0
            rw [hu, Nat.zero_add, Nat.one_mul, ← Lib.size_eq, hss] at h
            exact h
          rw [hu] at HV
          rw [← hsd, hu, if_neg (by omega)] at HG
          obtain ⟨v, hv⟩ : ∃ v : Int, (u : Int) - 1000000000000 = v := ⟨_, rfl⟩
          rw [hv] at HG
          have hpk : (pairUp ts).length = n := pairUp_len ts n (by omega)
          have hsm := pairUp_small ts (textsP_small _ _ _ HT.out)
          obtain ⟨xs, hxs⟩ : ∃ xs, pairUp ts = xs := ⟨_, rfl⟩
          rw [hxs] at HG HO hpk hsm
          obtain ⟨o, cL, rfl, hSees, _⟩ := own_sees HO.out
          rw [hpk] at HO HY2
          have HR := Lib.hid (fun (W : World) (hs : SeesO W o xs) => drow_any o n cL xs v W hpk (by omega) hsm hs)
          have HXN := Lib.hid hpk
          have hly := (Array.getElem?_eq_some_iff.1 HY2.out).1
          have HQD := Lib.hid hqd
          obtain ⟨y0, y1⟩ := box_two HY2.out
          obtain ⟨f0, f1⟩ := free_two HY2.out
          clear hsd hu hqd hxs hsm hSees hdl HT htl hi2n
          go_wp2_with fail
          refine (HV.out _).mono ?_
          rintro e w4 ⟨rfl, b4⟩
          have HB4 := Lib.hid (HB.out.trans (b4.mono HB.out.size))
          have HX4 := Lib.hid ((b4.block w.heap.size (by omega)).trans HX2.out)
          have HY4 := Lib.hid ((b4.block (w.heap.size + 1) hly).trans HY2.out)
          have HO4 := Lib.hid (own_grown HO.out b4)
          have hO5 := ownsRow_setCell_other HO4.out (a := ⟨w.heap.size + 1, 1, none⟩) (fun e => by have := (HO4.out.lt _ e).1; simp only [] at this; omega) (.int .i64 v)
          have hS5 : SeesO (w4.setCell ⟨w.heap.size + 1, 1, none⟩ (.int .i64 v)) o xs := by
            have h2 : (w4.setCell ⟨w.heap.size + 1, 1, none⟩ (.int .i64 v)).ownsRow (w.heap.size + 2) 79 2 (.slice o n cL) xs.length (flatL xs) := by rw [HXN.out]; exact hO5
            obtain ⟨o2, c2, e2, hs, _⟩ := own_sees h2
            cases e2; exact hs
          have HS5 := Lib.hid hS5
          have HO5 := Lib.hid hO5
          have HY5 := Lib.hid (two_set1 (u := .int .i64 v) HY4.out)
          have HX5 := Lib.hid ((heap_setCell_other w4 ⟨w.heap.size + 1, 1, none⟩ w.heap.size (.int .i64 v) (by simp only []; omega)).trans HX4.out)
          have HB5 := Lib.hid (HB4.out.setCell (p := ⟨w.heap.size + 1, 1, none⟩) (Nat.le_succ _) (.int .i64 v))
          obtain ⟨z0, z1⟩ := box_two HY4.out
          obtain ⟨g0, g1⟩ := free_two HY4.out
          have hly4 := Nat.lt_of_lt_of_le hly b4.size
          clear b4 y0 y1 f0 f1 hO5 hS5
          obtain ⟨W5, hW5⟩ : ∃ W5, w4.setCell ⟨w.heap.size + 1, 1, none⟩ (.int .i64 v) = W5 := ⟨_, rfl⟩
          rw [hW5] at HS5 HY5 HX5 HB5 HO5
          have hz5 : W5.heap.size = w4.heap.size := by rw [← hW5]; simp [World.setCell]
          have HW5 := Lib.hid hW5
          clear hW5
          obtain ⟨z2, z3⟩ := box_two HY5.out
          cases hok : okR xs v with
          | false =>
            rw [hok] at HR
            have HE := Lib.hid (show getR (c :: r) = none by rw [HG.out, hok]; rfl)
            go_wp2_with fail
            rw [HW5.out]
            refine (HR.out _ HS5.out).mono ?_
            rintro e w6 ⟨rfl, b6⟩
            have HB6 := Lib.hid (HB5.out.trans (b6.mono HB5.out.size))
            have HX6 := Lib.hid ((b6.block w.heap.size (by omega)).trans HX5.out)
            clear b6 HG hok
            obtain ⟨y0, y1⟩ := free_two HX6.out
            obtain ⟨x0, x1⟩ := box_two HX6.out
            have HX4 := Lib.hid (two_set1 (u := .int .i64 0) (two_set0 (u := .slice none 0 0) HX6.out))
            have HB4 := Lib.hid ((HB6.out.setCell (p := ⟨w.heap.size, 0, none⟩) (Nat.le_refl _) (Value.slice none 0 0)).setCell (p := ⟨w.heap.size, 1, none⟩) (Nat.le_refl _) (Value.int .i64 0))
            go_wp2
            obtain ⟨r0, r1⟩ := box_two HX4.out
            refine bodyPost_ret (v := .tuple #[.agg #[.slice none 0 0, .int .i64 0], .string ⟨#[]⟩, .bool false]) (by simp [results, Try.results24, go_sem, r0, r1]) rfl ⟨?_, HB4.out⟩
            unfold DGot
            rw [HL.out, HE.out]
          | true =>
            rw [hok] at HR
            have HE := Lib.hid (show getR (c :: r) = some (xs, v, q.data.toList) by rw [HG.out, hok, HQD.out]; rfl)
            go_wp2_with fail
            rw [HW5.out]
            refine (HR.out _ HS5.out).mono ?_
            rintro e w6 ⟨rfl, b6⟩
            have HB6 := Lib.hid (HB5.out.trans (b6.mono HB5.out.size))
            have hX6 := (b6.block w.heap.size (by omega)).trans HX5.out
            have HO6 := Lib.hid (own_grown HO5.out b6)
            obtain ⟨t0, t1⟩ := box_two ((b6.block (w.heap.size + 1) (by omega)).trans HY5.out)
            obtain ⟨x0, x1⟩ := box_two hX6
            obtain ⟨y0, y1⟩ := free_two hX6
            have HX6 := Lib.hid hX6
            have j7 : (0 : Int) ≤ (a : Int) + 6 := by omega
            have j8 : (b.size : Int) ≤ b.size := Int.le_refl _
            clear b6 HG hok hX6 z0 z1 z2 z3 g0 g1
            go_wp2_with fail
            go_region
            go_wp2
            have hx7 := two_set1 (u := .int .i64 v) (two_set0 (u := .slice o n cL) HX6.out)
            obtain ⟨r0, r1⟩ := box_two (W := ((w6.setCell ⟨w.heap.size, 0, none⟩ (.slice o n cL)).setCell ⟨w.heap.size, 1, none⟩ (.int .i64 v)).drew) hx7
            have hB7 : Below w.heap.size w ((w6.setCell ⟨w.heap.size, 0, none⟩ (.slice o n cL)).setCell ⟨w.heap.size, 1, none⟩ (.int .i64 v)).drew :=
              ((HB6.out.setCell (p := ⟨w.heap.size, 0, none⟩) (Nat.le_refl _) (.slice o n cL)).setCell (p := ⟨w.heap.size, 1, none⟩) (Nat.le_refl _) (.int .i64 v)).drew
            refine bodyPost_ret (v := .tuple #[.agg #[.slice o n cL, .int .i64 v], .string (b.extract (a + 6) b.size), .bool true]) (by simp [results, Try.results24, go_sem, r0, r1]) rfl ⟨?_, hB7⟩
            unfold DGot
            rw [HL.out, HE.out]
            refine ⟨o, cL, by rw [HXN.out, str_of, hq], ?_⟩
            have h7 := ownsRow_setCell_other (a := ⟨w.heap.size, 1, none⟩) (ownsRow_setCell_other (a := ⟨w.heap.size, 0, none⟩) HO6.out (fun e => by have := (HO6.out.lt _ e).1; simp only [] at this; omega) (.slice o n cL)) (fun e => by have := (HO6.out.lt _ e).1; simp only [] at this; omega) (.int .i64 v)
            obtain ⟨W9, hW9⟩ : ∃ W9, (w6.setCell ⟨w.heap.size, 0, none⟩ (.slice o n cL)).setCell ⟨w.heap.size, 1, none⟩ (.int .i64 v) = W9 := ⟨_, rfl⟩
            rw [hW9] at h7 ⊢
            rw [← HXN.out] at h7
            exact own_mono (own_grown h7 (Below.refl _ _).drew) (by omega)
        · have j2 : (b.size : Int) < a + 6 := by omega
          have HE := Lib.hid (show getR (c :: r) = none by rw [HG.out, if_pos (by omega)])
          clear HT htl HG hdl hi2n
          obtain ⟨y0, y1⟩ := free_two HX2.out
          obtain ⟨x0, x1⟩ := box_two HX2.out
          have HX4 := Lib.hid (two_set1 (u := .int .i64 0) (two_set0 (u := .slice none 0 0) HX2.out))
          have HB4 := Lib.hid ((HB.out.setCell (p := ⟨w.heap.size, 0, none⟩) (Nat.le_refl _) (Value.slice none 0 0)).setCell (p := ⟨w.heap.size, 1, none⟩) (Nat.le_refl _) (Value.int .i64 0))
          go_wp2
          obtain ⟨r0, r1⟩ := box_two HX4.out
          refine bodyPost_ret (v := .tuple #[.agg #[.slice none 0 0, .int .i64 0], .string ⟨#[]⟩, .bool false]) (by simp [results, Try.results24, go_sem, r0, r1]) rfl ⟨?_, HB4.out⟩
          unfold DGot
          rw [HL.out, HE.out]
end Go.Proofs.Ytldlfmeppcdbbaa.Row
