/- The walk of the statement on whatever order. -/
import Derived.Test.YtkipdfeoebibgaaSwb
import Derived.Maps.OwnOps
import Derived.Carry
namespace Go.Proofs.Ytkipdfeoebibgaa.Sto
open Go.RowKit Go.Maps Go.WideMaps

def txs (l : List OpT) : List (List UInt8) := l.map fun x => textT x.2.1
theorem txs_step {l : List OpT} {k : Nat} {x : OpT} (hx : l[k]? = some x) : txs (l.take (k + 1)) = txs (l.take k) ++ [textT x.2.1] := by
  unfold txs
  rw [List.take_add_one, hx, List.map_append]; rfl
theorem all_two {B : Nat} {w : World} {p q : Nat} {xs ys : List Srs} (n : Nat) (h : Two B w p q xs ys) (hf : Fine xs) (hn : xs.length = n) :
    Calls Try.prog 10 #[.pointer (some ⟨p, 0, none⟩)] w fun e w' => (∃ o c, e = .returned (.slice o n c) ∧ Ser.SeesO w' o xs) ∧ Below w.heap.size w w' := by
  obtain ⟨F, G, h1, h2, h3, h4⟩ := h.ex
  refine (all_any F p xs w h1 hf).mono fun e w' r => ?_
  obtain ⟨⟨v, us, rfl, hA⟩, hb⟩ := r
  obtain ⟨o, c, rfl, hs, _⟩ := hA.sees
  subst hn
  exact ⟨⟨o, c, rfl, hs⟩, hb⟩

abbrev mkW (w : World) : World := ((w.alloc (Obj.cells #[.slice none 0 0] 31)).alloc (Obj.cells #[.slice none 0 0] 31)).alloc (.map #[] 0)
theorem made3 (w : World) : (mkW w).ownsMap Try.prog 9 (plainElem (H := Unit) Try.prog 4) (w.heap.size + 2) 0 (setD (.map []) (txs (([] : List OpT).take 0))) := by
  have h := World.ownsMap_made (H := Unit) ((w.alloc (Obj.cells #[.slice none 0 0] 31)).alloc (Obj.cells #[.slice none 0 0] 31)) Try.prog 9 (plainElem Try.prog 4)
  have e : ((w.alloc (Obj.cells #[.slice none 0 0] 31)).alloc (Obj.cells #[.slice none 0 0] 31)).heap.size = w.heap.size + 2 := by simp
  rw [e] at h
  exact h
theorem cells3 (w : World) : (mkW w).heap[w.heap.size]? = some (.cells #[.slice none 0 0] 31 (0, 0)) ∧ (mkW w).heap[w.heap.size + 1]? = some (.cells #[.slice none 0 0] 31 (0, 0)) := by
  constructor
  · rw [Below.heap_alloc _ _ _ (by simp; omega), Below.heap_alloc _ _ _ (by simp)]
    exact Array.getElem?_push_size
  · rw [Below.heap_alloc _ _ _ (by simp)]
    have e : w.heap.size + 1 = (w.alloc (Obj.cells #[.slice none 0 0] 31)).heap.size := by simp
    rw [e]
    exact Array.getElem?_push_size
theorem below3 (w : World) : Below w.heap.size w (mkW w) :=
  (((Below.refl _ _).alloc (Nat.le_refl _) _).alloc (by simp) _).alloc (by simp; omega) _

set_option maxHeartbeats 16000000 in
set_option maxRecDepth 100000 in
theorem order_law (o1 o2 : Option Addr) (n1 c1 n2 c2 : Nat) (l r : List OpT) (w : World) (h1 : l.length = n1) (h2 : r.length = n2) (hm1 : n1 ≤ maxLen) (hm2 : n2 ≤ maxLen) (hS1 : SeesP w o1 l) (hS2 : SeesP w o2 r) :
    Calls Try.prog 4 #[.slice o1 n1 c1, .slice o2 n2 c2] w fun e w' => e = .returned (.bool true) ∧ Below w.heap.size w w' := by
  have HAlive := Lib.hid (fun W => alive_any W)
  have HL1 := Lib.hid (fun W (hb : Below w.heap.size w W) => lightP_any o1 n1 c1 l W h1 hm1 (hS1.below hb))
  have HL2 := Lib.hid (fun W (hb : Below w.heap.size w W) => lightP_any o2 n2 c2 r W h2 hm2 (hS2.below hb))
  have HS1 := Lib.hid hS1
  have HS2 := Lib.hid hS2
  have HN1 := Lib.hid h1
  have HN2 := Lib.hid h2
  unfold maxLen at hm1 hm2
  clear hS1 hS2 h1 h2
  cases hl1 : lightP l with
  | false =>
    rw [hl1] at HL1
    clear hl1 HL2
    go_enter Try.func4, Try.ntmps4
    go_wp2_with fail
    refine (HL1.out _ (Below.refl _ _)).mono ?_
    rintro e w1 ⟨rfl, b1⟩
    go_wp2_with fail
    refine (HAlive.out _).mono ?_
    rintro e w2 ⟨rfl, b2⟩
    go_wp2
    go_ret
    exact ⟨rfl, b1.trans (b2.mono b1.size)⟩
  | true =>
  have HSm1 := Lib.hid (lightP_small hl1)
  have hk1 := lightP_len hl1
  rw [HN1.out] at hk1
  rw [hl1] at HL1
  clear hl1
  cases hl2 : lightP r with
  | false =>
    rw [hl2] at HL2
    clear hl2
    go_enter Try.func4, Try.ntmps4
    go_wp2_with fail
    refine (HL1.out _ (Below.refl _ _)).mono ?_
    rintro e w1 ⟨rfl, b1⟩
    go_wp2_with fail
    refine (HL2.out _ b1).mono ?_
    rintro e w2 ⟨rfl, b2⟩
    have b12 := b1.trans (b2.mono b1.size)
    clear b1 b2
    go_wp2_with fail
    refine (HAlive.out _).mono ?_
    rintro e w3 ⟨rfl, b3⟩
    go_wp2
    go_ret
    exact ⟨rfl, b12.trans (b3.mono b12.size)⟩
  | true =>
  have HSm2 := Lib.hid (lightP_small hl2)
  have hk2 := lightP_len hl2
  rw [HN2.out] at hk2
  rw [hl2] at HL2
  clear hl2
  have jw : IntKind.i64.wrap ((n1 : Int) + n2) = (n1 : Int) + n2 := by rw [IntKind.wrap_i64]; omega
  by_cases h100 : 100 < n1 + n2
  · have j1 : (100 : Int) < (n1 : Int) + n2 := by omega
    go_enter Try.func4, Try.ntmps4
    go_wp2_with fail
    refine (HL1.out _ (Below.refl _ _)).mono ?_
    rintro e w1 ⟨rfl, b1⟩
    go_wp2_with fail
    refine (HL2.out _ b1).mono ?_
    rintro e w2 ⟨rfl, b2⟩
    have b12 := b1.trans (b2.mono b1.size)
    clear b1 b2
    go_wp2_with fail
    refine (HAlive.out _).mono ?_
    rintro e w3 ⟨rfl, b3⟩
    go_wp2
    go_ret
    exact ⟨rfl, b12.trans (b3.mono b12.size)⟩
  have j1 : ¬ (100 : Int) < (n1 : Int) + n2 := by omega
  have hmm := @run_makeMap Try.prog
  go_enter Try.func4, Try.ntmps4
  go_wp2_with fail
  refine (HL1.out _ (Below.refl _ _)).mono ?_
  rintro e w1 ⟨rfl, b1⟩
  go_wp2_with fail
  refine (HL2.out _ b1).mono ?_
  rintro e w2 ⟨rfl, b2⟩
  have b12 := b1.trans (b2.mono b1.size)
  clear b1 b2
  go_wp2_with fail
  refine (HAlive.out _).mono ?_
  rintro e w3 ⟨rfl, b3⟩
  have HB3 := Lib.hid (b12.trans (b3.mono b12.size))
  clear b12 b3 HL1 HL2 HAlive jw j1
  have hz3 := HB3.out.size
  go_wp2
  go_loopw [8] (fun v8 wr => ∃ k : Nat, v8 = .int .i64 k ∧ k ≤ n1 ∧ Hid (wr.ownsMap Try.prog 9 (plainElem Try.prog 4) (w3.heap.size + 2) k (setD (.map []) (txs (l.take k)))) ∧ Hid (wr.heap[w3.heap.size]? = some (.cells #[.slice none 0 0] 31 (0, 0)) ∧ wr.heap[w3.heap.size + 1]? = some (.cells #[.slice none 0 0] 31 (0, 0))) ∧ Hid (Below w3.heap.size w3 wr)) (fun v8 _ => n1 - (Go.RowKit.intOf v8).toNat)
  case atStart =>
    refine ⟨0, rfl, Nat.zero_le _, Lib.hid ?_, Lib.hid ?_, Lib.hid ?_⟩
    · exact made3 w3
    · exact cells3 w3
    · exact below3 w3
  case round =>
    obtain ⟨k, rfl, hk, HMAP, HC, HB⟩ := hrel
    by_cases hkn : k < n1
    · have j1 : (k : Int) < n1 := by omega
      obtain ⟨x, hx⟩ : ∃ x, l[k]? = some x := ⟨_, List.getElem?_eq_getElem (by rw [HN1.out]; exact hkn)⟩
      have hBw : Below w.heap.size w wr := HB3.out.trans (HB.out.mono hz3)
      obtain ⟨b, off, rfl, oL, cL, a1, a2, a3, a4, a5, a6⟩ := (HS1.out.below hBw).at hx
      have hsm := HSm1.out x (List.mem_of_getElem? hx)
      have HT := Lib.hid (text_small oL x.2.1.length cL x.2.1 wr rfl hsm a3)
      have HZ := Lib.hid (tx_size hsm)
      obtain ⟨s, hs⟩ : ∃ s, tx x.2.1 = s := ⟨_, rfl⟩
      have HM := Lib.hid (show setD (.map []) (txs (l.take (k + 1))) = (setD (.map []) (txs (l.take k))).put (.string s.data.toList) (.lit (.bool true)) by
        rw [txs_step hx, setD_snoc, ← hs]; rfl)
      rw [hs] at HT HZ
      have hkey := Lib.hid (keyOf_string_mk (P := Try.prog) Try.underlying9 (s := s) (by have := HZ.out; unfold maxLen; omega))
      clear hBw a1 a3 a4 a5 a6 hx hsm hs
      generalize x.2.1.length = nL at a2 HT
      generalize setD (.map []) (txs (l.take k)) = D at HMAP HM
      go_wp2_with fail
      refine HT.out.mono ?_
      rintro e w4 ⟨rfl, b4⟩
      have hm3 := HMAP.out.kept (grown_below b4) (by simp)
      have HB4 := Lib.hid (HB.out.trans (b4.mono HB.out.size))
      have HC4 := Lib.hid (show w4.heap[w3.heap.size]? = some (.cells #[.slice none 0 0] 31 (0, 0)) ∧ w4.heap[w3.heap.size + 1]? = some (.cells #[.slice none 0 0] 31 (0, 0)) from
        ⟨(b4.block _ (Array.getElem?_eq_some_iff.1 HC.out.1).1).trans HC.out.1, (b4.block _ (Array.getElem?_eq_some_iff.1 HC.out.2).1).trans HC.out.2⟩)
      clear b4 HT
      go_wp2_with (at_mapUpdate; refine wpList_mapUpdate_own _ rfl _ _ _ 42 rfl 9 4 (Maps.string_keyed Try.underlying9) Try.underlying42 _ (w3.heap.size + 2) k _ rfl hm3 (by unfold maxLen; omega) _ _ _ rfl rfl hkey.out _ [] (plainElem_bool Try.underlying4 true) ?_; intro w5 hm5 hg5)
      have HM5 := Lib.hid (show w5.ownsMap Try.prog 9 (plainElem Try.prog 4) (w3.heap.size + 2) (k + 1) (setD (.map []) (txs (l.take (k + 1)))) by rw [HM.out]; exact hm5)
      have HC5 := Lib.hid (show w5.heap[w3.heap.size]? = some (.cells #[.slice none 0 0] 31 (0, 0)) ∧ w5.heap[w3.heap.size + 1]? = some (.cells #[.slice none 0 0] 31 (0, 0)) from
        ⟨(hg5.block _ (Array.getElem?_eq_some_iff.1 HC4.out.1).1 (by simp)).trans HC4.out.1, (hg5.block _ (Array.getElem?_eq_some_iff.1 HC4.out.2).1 (by simp)).trans HC4.out.2⟩)
      have HB5 := Lib.hid (Below.grown HB4.out hg5 HB4.out.size (fun j hj => by have := Option.some.inj hj; omega))
      clear hm5 hg5 hm3
      go_roundw
      case rel => exact ⟨k + 1, by go_num, by omega, HM5, HC5, HB5⟩
      case measure => simp [Go.RowKit.intOf]; omega
    · have HZ := Lib.hid (show l.take k = l from List.take_of_length_le (by rw [HN1.out]; omega))
      rw [HZ.out] at HMAP
      have HT := Lib.hid (two_new w3 wr w3.heap.size w3.heap.size (w3.heap.size + 1) (Nat.le_refl _) (by omega) (by omega) HC.out.1 HC.out.2)
      obtain ⟨wo, hwo⟩ : ∃ wo : World, wr = wo := ⟨wr, rfl⟩
      subst wr
      clear HC HZ
      go_wp2_with fail
      go_loopw [9] (fun v9 wr => ∃ i : Nat, v9 = .int .i64 i ∧ i ≤ n2 ∧ Hid (wr.ownsMap Try.prog 9 (plainElem Try.prog 4) (w3.heap.size + 2) k (setD (.map []) (txs l))) ∧ Hid (Two w3.heap.size wr w3.heap.size (w3.heap.size + 1) [] []) ∧ Hid (∀ y ∈ r.take i, textT y.2.1 ∉ txs l) ∧ Hid (Below w3.heap.size w3 wr)) (fun v9 _ => n2 - (Go.RowKit.intOf v9).toNat)
      case atStart => exact ⟨0, rfl, Nat.zero_le _, HMAP, HT, Lib.hid (fun y hy => by simp at hy), HB⟩
      case round =>
        clear HB HT HMAP
        obtain ⟨i, rfl, hi, HMAP, HT, HD, HB⟩ := hrel
        by_cases hin : i < n2
        · have j1 : (i : Int) < n2 := by omega
          obtain ⟨x, hx⟩ : ∃ x, r[i]? = some x := ⟨_, List.getElem?_eq_getElem (by rw [HN2.out]; exact hin)⟩
          have hBw : Below w.heap.size w wr := HB3.out.trans (HB.out.mono hz3)
          obtain ⟨b, off, rfl, oL, cL, a1, a2, a3, a4, a5, a6⟩ := (HS2.out.below hBw).at hx
          have hsm := HSm2.out x (List.mem_of_getElem? hx)
          have HTx := Lib.hid (text_small oL x.2.1.length cL x.2.1 wr rfl hsm a3)
          have HZ := Lib.hid (tx_size hsm)
          obtain ⟨s, hs⟩ : ∃ s, tx x.2.1 = s := ⟨_, rfl⟩
          have HSX := Lib.hid (show textT x.2.1 = s.data.toList by rw [← hs]; rfl)
          have HTK := Lib.hid (show r.take (i + 1) = r.take i ++ [x] by rw [List.take_add_one, hx]; rfl)
          rw [hs] at HTx HZ
          clear hBw a1 a3 a4 a5 a6 hx hsm hs
          generalize x.2.1.length = nL at a2 HTx
          go_wp2_with fail
          refine HTx.out.mono ?_
          rintro e w4 ⟨rfl, b4⟩
          have hm4 := HMAP.out.kept (grown_below b4) (by simp)
          have HM4 := Lib.hid hm4
          have HT4 := Lib.hid (HT.out.on b4)
          have HB4 := Lib.hid (HB.out.trans (b4.mono HB.out.size))
          obtain ⟨bb, hrun, hno⟩ := look_set hm4 s (by have := HZ.out; unfold maxLen; omega)
          have HNO := Lib.hid hno
          clear hm4 b4 hno HTx
          cases bb with
          | true =>
            go_wp2
            go_ret
            exact ⟨rfl, HB3.out.trans (HB4.out.mono hz3)⟩
          | false =>
            have HD4 := Lib.hid (show ∀ y ∈ r.take (i + 1), textT y.2.1 ∉ txs l from fun y hy => by
              rw [HTK.out] at hy
              rcases List.mem_append.1 hy with hy | hy
              · exact HD.out y hy
              · obtain rfl := List.mem_singleton.1 hy
                rw [HSX.out]; exact HNO.out rfl)
            go_wp2
            go_roundw
            case rel => exact ⟨i + 1, by go_num, by omega, HM4, HT4, HD4, HB4⟩
            case measure => simp [Go.RowKit.intOf]; omega
        · have HZ := Lib.hid (show r.take i = r from List.take_of_length_le (by rw [HN2.out]; omega))
          rw [HZ.out] at HD
          obtain ⟨wp, hwp⟩ : ∃ wp : World, wr = wp := ⟨wr, rfl⟩
          subst wr
          clear HMAP HZ
          go_wp2_with fail
          go_loopw [10] (fun v wr => ∃ k : Nat, v = .int .i64 k ∧ k ≤ n1 ∧ Hid (Two w3.heap.size wr w3.heap.size (w3.heap.size + 1) (putsC [] (l.take k)) []) ∧ Hid (Below w3.heap.size w3 wr)) (fun v _ => n1 - (Go.RowKit.intOf v).toNat)
          case atStart => exact ⟨0, rfl, Nat.zero_le _, HT, HB⟩
          case round =>
            clear HT HB
            obtain ⟨k, rfl, hk, HT, HB⟩ := hrel
            by_cases hkn : k < n1
            · have j1 : (k : Int) < n1 := by omega
              obtain ⟨x, hx⟩ : ∃ x, l[k]? = some x := ⟨_, List.getElem?_eq_getElem (by rw [HN1.out]; exact hkn)⟩
              obtain ⟨b, off, rfl, oL, cL, a1, a2, a3, a4, a5, a6⟩ := HS1.out.at hx
              have hbw := cell_low a2
              have HSM := Lib.hid (HSm1.out x (List.mem_of_getElem? hx))
              obtain ⟨nL, hnL⟩ : ∃ nL, x.2.1.length = nL := ⟨_, rfl⟩
              have HnL := Lib.hid hnL
              rw [hnL] at a2
              have RD := Lib.hid (fun V (hV : Below w.heap.size w V) => (show V.cell? ⟨b, off + k * 4 + 1, none⟩ = some (.slice oL nL cL) ∧ V.cell? ⟨b, off + k * 4 + 2, none⟩ = some (.int .i64 x.2.2.1) ∧ V.cell? ⟨b, off + k * 4 + 3, none⟩ = some (.int .i64 x.2.2.2) from
                ⟨(hV.cell (p := ⟨b, off + k * 4 + 1, none⟩) hbw).trans a2, (hV.cell (p := ⟨b, off + k * 4 + 2, none⟩) hbw).trans a5, (hV.cell (p := ⟨b, off + k * 4 + 3, none⟩) hbw).trans a6⟩))
              have RL := Lib.hid (fun V (hV : Below w.heap.size w V) => a3.below hV)
              have HST0 := Lib.hid (puts_step (xs := []) hx)
              have HF0 := Lib.hid (show Fine (putsC [] (l.take k)) from fine_puts _ fine_nil fun y hy => HSm1.out y (List.mem_of_mem_take hy))
              clear a1 a2 a3 a4 a5 a6 hx hnL hbw
              have hV := HB3.out.trans (HB.out.mono hz3)
              obtain ⟨f2, f5, f6⟩ := RD.out wr hV
              have HC0 := Lib.hid (two_put w3.heap.size wr.drew w3.heap.size (w3.heap.size + 1) nL cL _ _ oL x.2.1 x.2.2.1 x.2.2.2 (HT.out.on (Below.refl _ _).drew) HF0.out HnL.out HSM.out ((RL.out wr hV).below (Below.refl _ _).drew))
              clear hV
              generalize (putC (putsC [] (l.take k)) x.2.1 x.2.2.1 x.2.2.2).2 = er at HC0
              go_wp2_with fail
              go_region_with (go_at_call 8; refine HC0.out.mono ?_; rintro e w4 ⟨rfl, b4, q4⟩)
              all_goals
                have HB4 := Lib.hid (HB.out.trans ((Below.refl _ _).drew.trans b4))
                have HT4 := Lib.hid (show Two w3.heap.size w4 w3.heap.size (w3.heap.size + 1) (putsC [] (l.take (k + 1))) [] by rw [HST0.out]; exact q4)
                clear b4 q4 f2 f5 f6
                go_wp2
                go_roundw
                case rel => exact ⟨k + 1, by go_num, by omega, HT4, HB4⟩
                case measure => simp [Go.RowKit.intOf]; omega
            · have HZ := Lib.hid (show l.take k = l from List.take_of_length_le (by rw [HN1.out]; omega))
              rw [HZ.out] at HT
              obtain ⟨wq10, hwq10⟩ : ∃ wq : World, wr = wq := ⟨wr, rfl⟩
              subst wr
              clear HZ
              go_wp2_with fail
              go_loopw [11] (fun v wr => ∃ k : Nat, v = .int .i64 k ∧ k ≤ n2 ∧ Hid (Two w3.heap.size wr w3.heap.size (w3.heap.size + 1) (putsC (putsC [] l) (r.take k)) (putsC [] (r.take k))) ∧ Hid (Below w3.heap.size w3 wr)) (fun v _ => n2 - (Go.RowKit.intOf v).toNat)
              case atStart => exact ⟨0, rfl, Nat.zero_le _, HT, HB⟩
              case round =>
                clear HT HB
                obtain ⟨k, rfl, hk, HT, HB⟩ := hrel
                by_cases hkn : k < n2
                · have j1 : (k : Int) < n2 := by omega
                  obtain ⟨x, hx⟩ : ∃ x, r[k]? = some x := ⟨_, List.getElem?_eq_getElem (by rw [HN2.out]; exact hkn)⟩
                  obtain ⟨b, off, rfl, oL, cL, a1, a2, a3, a4, a5, a6⟩ := HS2.out.at hx
                  have hbw := cell_low a2
                  have HSM := Lib.hid (HSm2.out x (List.mem_of_getElem? hx))
                  obtain ⟨nL, hnL⟩ : ∃ nL, x.2.1.length = nL := ⟨_, rfl⟩
                  have HnL := Lib.hid hnL
                  rw [hnL] at a2
                  have RD := Lib.hid (fun V (hV : Below w.heap.size w V) => (show V.cell? ⟨b, off + k * 4 + 1, none⟩ = some (.slice oL nL cL) ∧ V.cell? ⟨b, off + k * 4 + 2, none⟩ = some (.int .i64 x.2.2.1) ∧ V.cell? ⟨b, off + k * 4 + 3, none⟩ = some (.int .i64 x.2.2.2) from
                    ⟨(hV.cell (p := ⟨b, off + k * 4 + 1, none⟩) hbw).trans a2, (hV.cell (p := ⟨b, off + k * 4 + 2, none⟩) hbw).trans a5, (hV.cell (p := ⟨b, off + k * 4 + 3, none⟩) hbw).trans a6⟩))
                  have RL := Lib.hid (fun V (hV : Below w.heap.size w V) => a3.below hV)
                  have HST0 := Lib.hid (puts_step (xs := (putsC [] l)) hx)
                  have HF0 := Lib.hid (show Fine (putsC (putsC [] l) (r.take k)) from fine_puts _ (fine_puts _ fine_nil HSm1.out) fun y hy => HSm2.out y (List.mem_of_mem_take hy))
                  have HST1 := Lib.hid (puts_step (xs := []) hx)
                  have HF1 := Lib.hid (show Fine (putsC [] (r.take k)) from fine_puts _ fine_nil fun y hy => HSm2.out y (List.mem_of_mem_take hy))
                  clear a1 a2 a3 a4 a5 a6 hx hnL hbw
                  have hV := HB3.out.trans (HB.out.mono hz3)
                  obtain ⟨f2, f5, f6⟩ := RD.out wr hV
                  have HC0 := Lib.hid (two_put w3.heap.size wr.drew w3.heap.size (w3.heap.size + 1) nL cL _ _ oL x.2.1 x.2.2.1 x.2.2.2 (HT.out.on (Below.refl _ _).drew) HF0.out HnL.out HSM.out ((RL.out wr hV).below (Below.refl _ _).drew))
                  clear hV
                  generalize (putC (putsC (putsC [] l) (r.take k)) x.2.1 x.2.2.1 x.2.2.2).2 = er at HC0
                  go_wp2_with fail
                  go_region_with (go_at_call 8; refine HC0.out.mono ?_; rintro e w4 ⟨rfl, b4, q4⟩)
                  all_goals
                    have HB4 := Lib.hid (HB.out.trans ((Below.refl _ _).drew.trans b4))
                    have HQ4 := Lib.hid q4
                    clear b4 q4 f2 f5 f6 HC0
                    have hV := HB3.out.trans (HB4.out.mono hz3)
                    obtain ⟨f2, f5, f6⟩ := RD.out w4 hV
                    have HC1 := Lib.hid (two_put w3.heap.size w4.drew (w3.heap.size + 1) w3.heap.size nL cL _ _ oL x.2.1 x.2.2.1 x.2.2.2 (HQ4.out.swap.on (Below.refl _ _).drew) HF1.out HnL.out HSM.out ((RL.out w4 hV).below (Below.refl _ _).drew))
                    clear hV
                    generalize (putC (putsC [] (r.take k)) x.2.1 x.2.2.1 x.2.2.2).2 = er2 at HC1
                    go_wp2_with fail
                    go_region_with (go_at_call 8; refine HC1.out.mono ?_; rintro e w5 ⟨rfl, b5, q5⟩)
                    all_goals
                      have HB5 := Lib.hid (HB4.out.trans ((Below.refl _ _).drew.trans b5))
                      have HT5 := Lib.hid (show Two w3.heap.size w5 w3.heap.size (w3.heap.size + 1) (putsC (putsC [] l) (r.take (k + 1))) (putsC [] (r.take (k + 1))) by rw [HST0.out, HST1.out]; exact q5.swap)
                      clear b5 q5 f2 f5 f6
                      go_wp2
                      go_roundw
                      case rel => exact ⟨k + 1, by go_num, by omega, HT5, HB5⟩
                      case measure => simp [Go.RowKit.intOf]; omega
                · have HZ := Lib.hid (show r.take k = r from List.take_of_length_le (by rw [HN2.out]; omega))
                  rw [HZ.out] at HT
                  obtain ⟨wq11, hwq11⟩ : ∃ wq : World, wr = wq := ⟨wr, rfl⟩
                  subst wr
                  clear HZ
                  go_wp2_with fail
                  go_loopw [12] (fun v wr => ∃ k : Nat, v = .int .i64 k ∧ k ≤ n1 ∧ Hid (Two w3.heap.size wr w3.heap.size (w3.heap.size + 1) (putsC (putsC [] l) r) (putsC (putsC [] r) (l.take k))) ∧ Hid (Below w3.heap.size w3 wr)) (fun v _ => n1 - (Go.RowKit.intOf v).toNat)
                  case atStart => exact ⟨0, rfl, Nat.zero_le _, HT, HB⟩
                  case round =>
                    clear HT HB
                    obtain ⟨k, rfl, hk, HT, HB⟩ := hrel
                    by_cases hkn : k < n1
                    · have j1 : (k : Int) < n1 := by omega
                      obtain ⟨x, hx⟩ : ∃ x, l[k]? = some x := ⟨_, List.getElem?_eq_getElem (by rw [HN1.out]; exact hkn)⟩
                      obtain ⟨b, off, rfl, oL, cL, a1, a2, a3, a4, a5, a6⟩ := HS1.out.at hx
                      have hbw := cell_low a2
                      have HSM := Lib.hid (HSm1.out x (List.mem_of_getElem? hx))
                      obtain ⟨nL, hnL⟩ : ∃ nL, x.2.1.length = nL := ⟨_, rfl⟩
                      have HnL := Lib.hid hnL
                      rw [hnL] at a2
                      have RD := Lib.hid (fun V (hV : Below w.heap.size w V) => (show V.cell? ⟨b, off + k * 4 + 1, none⟩ = some (.slice oL nL cL) ∧ V.cell? ⟨b, off + k * 4 + 2, none⟩ = some (.int .i64 x.2.2.1) ∧ V.cell? ⟨b, off + k * 4 + 3, none⟩ = some (.int .i64 x.2.2.2) from
                        ⟨(hV.cell (p := ⟨b, off + k * 4 + 1, none⟩) hbw).trans a2, (hV.cell (p := ⟨b, off + k * 4 + 2, none⟩) hbw).trans a5, (hV.cell (p := ⟨b, off + k * 4 + 3, none⟩) hbw).trans a6⟩))
                      have RL := Lib.hid (fun V (hV : Below w.heap.size w V) => a3.below hV)
                      have HST0 := Lib.hid (puts_step (xs := (putsC [] r)) hx)
                      have HF0 := Lib.hid (show Fine (putsC (putsC [] r) (l.take k)) from fine_puts _ (fine_puts _ fine_nil HSm2.out) fun y hy => HSm1.out y (List.mem_of_mem_take hy))
                      clear a1 a2 a3 a4 a5 a6 hx hnL hbw
                      have hV := HB3.out.trans (HB.out.mono hz3)
                      obtain ⟨f2, f5, f6⟩ := RD.out wr hV
                      have HC0 := Lib.hid (two_put w3.heap.size wr.drew (w3.heap.size + 1) w3.heap.size nL cL _ _ oL x.2.1 x.2.2.1 x.2.2.2 (HT.out.swap.on (Below.refl _ _).drew) HF0.out HnL.out HSM.out ((RL.out wr hV).below (Below.refl _ _).drew))
                      clear hV
                      generalize (putC (putsC (putsC [] r) (l.take k)) x.2.1 x.2.2.1 x.2.2.2).2 = er at HC0
                      go_wp2_with fail
                      go_region_with (go_at_call 8; refine HC0.out.mono ?_; rintro e w4 ⟨rfl, b4, q4⟩)
                      all_goals
                        have HB4 := Lib.hid (HB.out.trans ((Below.refl _ _).drew.trans b4))
                        have HT4 := Lib.hid (show Two w3.heap.size w4 w3.heap.size (w3.heap.size + 1) (putsC (putsC [] l) r) (putsC (putsC [] r) (l.take (k + 1))) by rw [HST0.out]; exact q4.swap)
                        clear b4 q4 f2 f5 f6
                        go_wp2
                        go_roundw
                        case rel => exact ⟨k + 1, by go_num, by omega, HT4, HB4⟩
                        case measure => simp [Go.RowKit.intOf]; omega
                    · have HZ := Lib.hid (show l.take k = l from List.take_of_length_le (by rw [HN1.out]; omega))
                      rw [HZ.out] at HT
                      obtain ⟨wq12, hwq12⟩ : ∃ wq : World, wr = wq := ⟨wr, rfl⟩
                      subst wr
                      clear HZ
                      have hFS : Fine (putsC (putsC [] l) r) := fine_puts _ (fine_puts _ fine_nil HSm1.out) HSm2.out
                      have hFT : Fine (putsC (putsC [] r) l) := fine_puts _ (fine_puts _ fine_nil HSm2.out) HSm1.out
                      have HO := Lib.hid (fun h => order_two (a := l) (b := r) (fun x hx y hy e => HD.out y hy (by rw [← e]; exact List.mem_map.2 ⟨x, hx, rfl⟩)) h)
                      generalize putsC (putsC [] l) r = S at HT hFS HO
                      generalize putsC (putsC [] r) l = T at HT hFT HO
                      obtain ⟨nS, hnS⟩ : ∃ nS, S.length = nS := ⟨_, rfl⟩
                      have hS40 := hFS.few
                      rw [hnS] at hS40
                      have HA1 := Lib.hid (all_two nS HT.out hFS hnS)
                      have HV := Lib.hid (HB3.out.trans (HB.out.mono hz3))
                      have HFS := Lib.hid hFS
                      have HFT := Lib.hid hFT
                      have HNS := Lib.hid hnS
                      clear hFS hFT hnS HB
                      by_cases h40 : 40 ≤ nS
                      · have j4 : (40 : Int) ≤ nS := by omega
                        go_wp2_with fail
                        refine HA1.out.mono ?_
                        rintro e w4 ⟨⟨o4, c4, rfl, _⟩, b4⟩
                        have HV4 := Lib.hid (HV.out.trans (b4.mono HV.out.size))
                        clear b4
                        go_wp2
                        go_ret
                        exact ⟨rfl, HV4.out⟩
                      · have j4 : ¬ (40 : Int) ≤ nS := by omega
                        have hE := HO.out (by rw [HNS.out]; omega)
                        subst hE
                        go_wp2_with fail
                        refine HA1.out.mono ?_
                        rintro e w4 ⟨⟨o4, c4, rfl, _⟩, b4⟩
                        have HT4 := Lib.hid (HT.out.on b4)
                        have HA2 := Lib.hid (all_two nS HT4.out HFS.out HNS.out)
                        have HV4 := Lib.hid (HV.out.trans (b4.mono HV.out.size))
                        clear b4 HA1 HT
                        go_wp2_with fail
                        refine HA2.out.mono ?_
                        rintro e w5 ⟨⟨o5, c5, rfl, s5⟩, b5⟩
                        have HT5 := Lib.hid (HT4.out.on b5)
                        have HA3 := Lib.hid (all_two nS HT5.out.swap HFS.out HNS.out)
                        have HV5 := Lib.hid (HV4.out.trans (b5.mono HV4.out.size))
                        have HS5 := Lib.hid s5
                        clear b5 HA2 HT4 s5
                        go_wp2_with fail
                        refine HA3.out.mono ?_
                        rintro e w6 ⟨⟨o6, c6, rfl, s6⟩, b6⟩
                        have HV6 := Lib.hid (HV5.out.trans (b6.mono HV5.out.size))
                        have HSa := Lib.hid (show Calls Try.prog 12 #[.slice o5 nS c5, .slice o6 nS c6] w6 fun e w' => e = .returned (.bool true) ∧ Below w6.heap.size w6 w' by
                          have hl : S.length ≤ maxLen := by rw [HNS.out]; unfold maxLen; omega
                          have := Ser.sameSeries_any o5 o6 c5 c6 S S w6 hl hl (HS5.out.below b6) s6
                          rw [Ser.sameL_refl, HNS.out] at this
                          exact this)
                        clear b6 s6 HA3
                        go_wp2_with fail
                        refine HSa.out.mono ?_
                        rintro e w7 ⟨rfl, b7⟩
                        have HV7 := Lib.hid (HV6.out.trans (b7.mono HV6.out.size))
                        clear b7
                        go_wp2
                        go_ret
                        exact ⟨rfl, HV7.out⟩
end Go.Proofs.Ytkipdfeoebibgaa.Sto
