/- The law: what was taken and given back leaves what there was. -/
import Derived.Test.YtlnlhimnbiabcaaPud
import Derived.Laws.Cover1
namespace Go.Proofs.Ytlnlhimnbiabcaa.Pur
open Go.RowKit Go.Lib

theorem infoI : (Try.prog.info? 3).map (fun i => (i.zero, i.size, i.bytes)) = some (some (.int .i64 0), 1, 8) := by kernel_rfl
theorem one_i (x : Int) : ∀ v ∈ [Value.int .i64 x], v.oneCell' = true := by
  intro v hv; simp at hv; subst hv; rfl
theorem cell_1 (w : World) (v : Value) (t : TypeId) : ∀ j u, [v][j]? = some u → (w.alloc (.cells #[v] t)).cell? ((⟨w.heap.size, 0, none⟩ : Addr).add j) = some u := by
  intro j u hj
  match j, hj with
  | 0, hj => simp at hj; subst hj; simp [Addr.add]
  | j + 1, hj => simp at hj
/-- A slice that reads as these numbers, from block B on. -/
def SeesI (w : World) (B : Nat) (o : Option Addr) (zs : List Int) : Prop := ∀ (j : Nat) (x : Int), zs[j]? = some x → ∃ b off, o = some ⟨b, off, none⟩ ∧ B ≤ b ∧ b < w.heap.size ∧ w.cell? ⟨b, off + j, none⟩ = some (.int .i64 x)
theorem SeesI.below {w w' : World} {B : Nat} {o : Option Addr} {zs : List Int} (h : SeesI w B o zs) (hb : Below w.heap.size w w') : SeesI w' B o zs := fun j x hx => by
  obtain ⟨b, off, e, hB, hl, hc⟩ := h j x hx
  exact ⟨b, off, e, hB, Nat.lt_of_lt_of_le hl hb.size, (hb.cell (p := ⟨b, off + j, none⟩) hl).trans hc⟩
theorem SeesI.grown {w w' : World} {B g : Nat} {o : Option Addr} {zs : List Int} (h : SeesI w B o zs) (hb : w.grownBy w' (some g)) (hg : g < B) : SeesI w' B o zs := fun j x hx => by
  obtain ⟨b, off, e, hB, hl, hc⟩ := h j x hx
  exact ⟨b, off, e, hB, Nat.lt_of_lt_of_le hl hb.size, (World.cell?_of_block (a := ⟨b, off + j, none⟩) (hb.block b hl (by simp; omega))).trans hc⟩
def intC (l : List Int) : List Value := l.map (Value.int .i64)
theorem intC_len (l : List Int) : (intC l).length = l.length := by simp [intC]
theorem own_seesI {w : World} {B n : Nat} {v : Value} {zs : List Int} (hn : zs.length = n) (h : w.ownsRow B 3 1 v n (intC zs)) : ∃ o c, v = .slice o n c ∧ SeesI w B o zs := by
  have hl := h.1
  rcases h.2 with ⟨rfl, h0⟩ | ⟨g, cap, cur, rfl, hg, hh, hnc, hcap, hsz, htake⟩
  · subst h0
    refine ⟨none, 0, rfl, fun j x hx => ?_⟩
    rw [List.eq_nil_of_length_eq_zero hn] at hx
    simp at hx
  · refine ⟨_, _, rfl, fun j x hx => ⟨g, 0, rfl, hg, (Array.getElem?_eq_some_iff.1 hh).1, ?_⟩⟩
    have hj : j < zs.length := (List.getElem?_eq_some_iff.1 hx).1
    rw [Nat.zero_add, h.cellAt j (by omega)]
    unfold intC
    rw [List.getElem?_map, hx]; rfl
theorem own_below {w w' : World} {B e size n : Nat} {v : Value} {xs : List Value} (h : w.ownsRow B e size v n xs) (hb : Below w.heap.size w w') : w'.ownsRow B e size v n xs :=
  h.kept (row := none) ⟨hb.os, hb.tape, hb.output, hb.size, fun k hk _ => hb.block k hk⟩ (by cases hv : v.ownBlock <;> simp)
theorem own_other {w w' : World} {B g e size n : Nat} {v : Value} {xs : List Value} (h : w.ownsRow B e size v n xs) (hb : w.grownBy w' (some g)) (hg : g < B) : w'.ownsRow B e size v n xs :=
  h.kept hb (.inr fun e => by have := (h.lt g e).1; omega)

theorem takes_snoc : ∀ (l : List Int) (p : Pu) (n : Int), takesU p (l ++ [n]) = ((takeU (takesU p l).1 n).1, (takesU p l).2 ++ (if (takeU (takesU p l).1 n).2 = true then [n] else []))
  | [], p, n => by
    rw [List.nil_append, takesU, takesU]
    unfold takeU
    split
    · simp [takesU]
    · simp [takesU]
  | m :: l, p, n => by
    rw [List.cons_append, takesU, takesU]
    split
    · rw [takes_snoc l _ n]; rfl
    · exact takes_snoc l p n
theorem takes_few : ∀ (l : List Int) (p : Pu), (takesU p l).2.length ≤ l.length
  | [], p => Nat.le_refl _
  | n :: l, p => by
    rw [takesU]
    split
    · have := takes_few l (takeU p n).1
      simp only [List.length_cons]; omega
    · have := takes_few l p
      simp only [List.length_cons]; omega
theorem take_some {p : Pu} {n : Int} (h : (takeU p n).2 = true) : 0 ≤ n ∧ n ≤ p.room - p.now := by
  unfold takeU at h
  split at h
  · cases h
  · omega
theorem sum_split {l : List Int} {j : Nat} {x : Int} (hx : l[j]? = some x) (h : ∀ n ∈ l, 0 ≤ n) : (l.take (j + 1)).sum = (l.take j).sum + x ∧ 0 ≤ x ∧ (l.take j).sum + x ≤ l.sum := by
  have h1 : (l.take (j + 1)).sum = (l.take j).sum + x := by rw [List.take_add_one, hx]; simp
  refine ⟨h1, h x (List.mem_of_getElem? hx), ?_⟩
  have h2 := congrArg List.sum (List.take_append_drop (j + 1) l)
  rw [List.sum_append, h1] at h2
  have h3 := sum_low (l := l.drop (j + 1)) fun n hn => h n (List.mem_of_mem_drop hn)
  omega

set_option maxHeartbeats 4000000 in
set_option maxRecDepth 100000 in
theorem back_any (r : Int) (o : Option Addr) (cl : Nat) (zs : List Int) (w : World) (hl : zs.length ≤ maxLen) (hS : SeesI w 0 o zs) :
    Calls Try.prog 4 #[.int .i64 r, .slice o zs.length cl] w fun e w' => e = .returned (.bool true) ∧ Below w.heap.size w w' := by
  have HA := Lib.hid (fun W => alive_any W)
  obtain ⟨m, hm⟩ : ∃ m, zs.length = m := ⟨_, rfl⟩
  unfold maxLen at hl
  rw [hm] at hl ⊢
  have jl : (m : Int) ≤ 9223372036854775807 := by omega
  by_cases h0 : r < 0
  · have d0 : decide (r < 0) = true := decide_eq_true h0
    clear hS hm
    go_enter Try.func4, Try.ntmps4
    go_wp2_with fail
    refine (HA.out _).mono ?_
    rintro e w1 ⟨rfl, b1⟩
    go_wp2
    go_ret
    exact ⟨rfl, b1⟩
  by_cases h1 : 1000000 < r
  · clear hS hm
    go_enter Try.func4, Try.ntmps4
    go_wp2_with fail
    refine (HA.out _).mono ?_
    rintro e w1 ⟨rfl, b1⟩
    go_wp2
    go_ret
    exact ⟨rfl, b1⟩
  by_cases h2 : 100 < m
  · have j2 : (100 : Int) < m := by omega
    clear hS hm
    go_enter Try.func4, Try.ntmps4
    go_wp2_with fail
    refine (HA.out _).mono ?_
    rintro e w1 ⟨rfl, b1⟩
    go_wp2
    go_ret
    exact ⟨rfl, b1⟩
  have j2 : (m : Int) ≤ 100 := by omega
  have HN := Lib.hid (fun W => show Calls Try.prog 7 #[.int .i64 r] W fun e w' => e = .returned (.pointer (some ⟨W.heap.size, 0, none⟩)) ∧ Pt w' W.heap.size (newP r) ∧ Below W.heap.size W w' from new_any r W)
  have HM := Lib.hid hm
  have HS := Lib.hid hS
  have HP0 := Lib.hid (newP_is (room := r) (by omega) (by omega))
  have HR := Lib.hid (show 0 ≤ r ∧ r ≤ 1000000 by omega)
  obtain ⟨i0, hi, hz0, hz1, hz2⟩ := info_parts infoI
  clear hS hm h2
  go_enter Try.func4, Try.ntmps4
  go_wp2_with fail
  refine (HA.out _).mono ?_
  rintro e w1 ⟨rfl, b1⟩
  have HB1 := Lib.hid b1
  clear b1
  go_wp2_with fail
  refine (HN.out _).mono ?_
  rintro e w2 ⟨rfl, p2, b2⟩
  have HB2 := Lib.hid (HB1.out.trans (b2.mono HB1.out.size))
  obtain ⟨g, hg⟩ : ∃ g, w1.heap.size = g := ⟨_, rfl⟩
  have HL := Lib.hid (show w.heap.size ≤ g by rw [← hg]; exact HB1.out.size)
  rw [hg] at p2 ⊢
  have HP2 := Lib.hid p2
  clear p2 b2 hg h0 h1
  go_wp2
  go_loopw [6, 7, 8] (fun v6 v7 v8 wr => ∃ (i k : Nat) (T : List Int) (q : Pu), v8 = .int .i64 i ∧ i ≤ m ∧ Hid (takesU (newP r) (zs.take i) = (q, T)) ∧ Hid (T.length = k) ∧ v7 = .int .i64 T.sum ∧ wr.ownsRow (g + 1) 3 1 v6 k (intC T) ∧ Hid (Pt wr g q) ∧ Hid (Below w.heap.size w wr)) (fun _ _ v8 _ => m - (Go.RowKit.intOf v8).toNat)
  case atStart => exact ⟨0, 0, [], newP r, rfl, Nat.zero_le _, rfl, rfl, rfl, World.ownsRow_nil _ _ _ _, HP2.out, HB2.out⟩
  case round =>
    obtain ⟨i, k, T, q, rfl, him, HT, HK, rfl, hown, HP, HB⟩ := hrel
    have hki : k ≤ i := by
      have h1 := takes_few (zs.take i) (newP r)
      rw [HT.out] at h1
      have h2 : (zs.take i).length ≤ i := by rw [List.length_take]; omega
      rw [← HK.out]; exact Nat.le_trans h1 h2
    have hall := takes_all (zs.take i) (newP r) (well_new r) rfl
    rw [HT.out, HP0.out] at hall
    obtain ⟨hq, hpos, hsum⟩ := hall
    have hq : q = ⟨r, T.sum, T.sum⟩ := hq.trans (by dsimp only; rw [Int.zero_add])
    have hqw := HP.out.well
    rw [hq] at hqw
    obtain ⟨q1, q2, q3, q4⟩ := hqw
    dsimp only at q1 q2 q3 q4 hsum hpos
    by_cases hk : i < m
    · have i1 : (i : Int) < m := by omega
      have i2 : (0 : Int) ≤ i := by omega
      obtain ⟨x, hx⟩ : ∃ x, zs[i]? = some x := ⟨_, List.getElem?_eq_getElem (by rw [HM.out]; exact hk)⟩
      obtain ⟨b, off, rfl, _, hbl, c1⟩ := HS.out i x hx
      have HC0 := Lib.hid c1
      have c1 := (HB.out.cell (p := ⟨b, off + i, none⟩) hbl).trans HC0.out
      have hsn := takes_snoc (zs.take i) (newP r) x
      rw [show zs.take i ++ [x] = zs.take (i + 1) by rw [List.take_add_one, hx]; rfl, HT.out] at hsn
      dsimp only at hsn
      have hTk := take_any g q x wr HP.out
      have HC1 := Lib.hid (fun W (hb : Below wr.heap.size wr W ∨ wr.grownBy W (some g)) => show W.cell? ⟨b, off + i, none⟩ = some (.int .i64 x) from by
        have hlw := HB.out.size
        have hlo := HL.out
        rcases hb with hb | hb
        · exact (hb.cell (p := ⟨b, off + i, none⟩) (show b < _ by omega)).trans c1
        · exact (World.cell?_of_block (a := ⟨b, off + i, none⟩) (hb.block b (by omega) (by simp; omega))).trans c1)
      cases hgot : (takeU q x).2 with
      | false =>
        have hq2 : (takeU q x).1 = q := by
          unfold takeU at hgot ⊢
          split
          · rfl
          · next h => rw [if_neg h] at hgot; cases hgot
        rw [hgot, hq2] at hsn hTk
        rw [if_neg (by simp), List.append_nil] at hsn
        have HT2 := Lib.hid hsn
        have HTk := Lib.hid hTk
        clear hsn hTk hq hpos hsum hx hgot hq2 q1 q2 q3 q4
        go_wp2_with fail
        refine HTk.out.mono ?_
        rintro e w3 ⟨rfl, p3, g3⟩
        have HP3 := Lib.hid p3
        have HB3 := Lib.hid (HB.out.trans (below_own g3 HL.out HP.out.lt))
        have hown3 := own_other hown g3 (by omega)
        clear p3 g3 hown
        go_wp2
        go_roundw
        case rel => exact ⟨i + 1, k, T, q, by go_num, by omega, HT2, HK, rfl, hown3, HP3, HB3⟩
        case measure => simp [Go.RowKit.intOf]; omega
      | true =>
        obtain ⟨x1, x2⟩ := take_some hgot
        obtain ⟨q', hq'⟩ : ∃ q', (takeU q x).1 = q' := ⟨_, rfl⟩
        rw [hgot, hq'] at hTk
        rw [hgot, hq', if_pos rfl] at hsn
        obtain ⟨S, hSm⟩ : ∃ S, T.sum = S := ⟨_, rfl⟩
        obtain ⟨S', hSm'⟩ : ∃ S', S + x = S' := ⟨_, rfl⟩
        rw [hq] at x2
        dsimp only at x2
        have j3 : IntKind.i64.wrap (S + x) = S' := by rw [IntKind.wrap_i64]; omega
        have HT2 := Lib.hid hsn
        have HTk := Lib.hid hTk
        have HK2 := Lib.hid (show (T ++ [x]).length = k + 1 by simp [HK.out])
        have HS2 := Lib.hid (show (T ++ [x]).sum = S' by rw [List.sum_append, hSm]; simp [hSm'])
        have HI := Lib.hid (show intC (T ++ [x]) = intC T ++ [.int .i64 x] by simp [intC])
        rw [hSm]
        clear hsn hTk hq hpos hsum hx hgot hq' q1 q2 q3 q4 hSm hSm' x1 x2
        go_wp2_with fail
        refine HTk.out.mono ?_
        rintro e w3 ⟨rfl, p3, g3⟩
        have HP3 := Lib.hid p3
        have HB3 := Lib.hid (HB.out.trans (below_own g3 HL.out HP.out.lt))
        have hown3 := own_other hown g3 (by omega)
        have c3 := HC1.out w3 (.inr g3)
        have hw3 := HB3.out.size
        have hgl := p3.lt
        have HG3 := Lib.hid g3
        clear p3 g3 hown c1
        go_wp2_with (at_builtin; go_must (refine wpList_append_own _ rfl _ _ 31 rfl (g + 1) 3 i0 (.int .i64 0) 1 8 Try.underlying31 hi hz0 hz1 hz2 rfl (by decide) _ _ _ rfl (hown3.alloc _) ⟨w3.heap.size, 0, none⟩ 1 1 [.int .i64 x] rfl rfl (cell_1 _ _ _) (one_i _) (by unfold maxLen; omega) (by omega) (by simp; omega) ?_); intro v' w4 hown' hgrow4 hnil4; have c4 : w4.cell? ⟨b, off + i, none⟩ = some (Value.int .i64 x) := ((Below.grown (HB3.out.alloc (by omega) _) hgrow4 (by simp; omega) (fun j hj => by have h5 := (hown3.lt _ hj).1; have h6 := HL.out; omega) : Below w.heap.size w w4).cell (p := ⟨b, off + i, none⟩) hbl).trans HC0.out)
        have hp4 : w4.heap[g]? = w3.heap[g]? := (hgrow4.block g (by simp; omega) (fun e => by have := (hown3.lt g e.symm).1; omega)).trans (Below.heap_alloc _ _ _ hgl)
        have HP4 := Lib.hid (HP3.out.keep hp4)
        have HB4 := Lib.hid (Below.grown (HB3.out.alloc (by omega) _) hgrow4 (by simp; omega) (fun j hj => by have h5 := (hown3.lt _ hj).1; have h6 := HL.out; omega) : Below w.heap.size w w4)
        have ho4 : w4.ownsRow (g + 1) 3 1 v' (k + 1) (intC (T ++ [x])) := by rw [HI.out]; exact hown'
        clear hown' hgrow4 hnil4 hown3 hp4 c3
        go_wp2
        go_roundw
        case rel => exact ⟨i + 1, k + 1, T ++ [x], q', by go_num, by omega, HT2, HK2, by rw [HS2.out], ho4, HP4, HB4⟩
        case measure => simp [Go.RowKit.intOf]; omega
    · obtain rfl : i = m := by omega
      obtain ⟨S, hSm⟩ : ∃ S, T.sum = S := ⟨_, rfl⟩
      rw [hSm] at hq q1 q2 q3 hsum ⊢
      have HQ := Lib.hid (show Pt wr g ⟨r, S, S⟩ by rw [← hq]; exact HP.out)
      have HPos := Lib.hid hpos
      have HSm := Lib.hid hSm
      obtain ⟨o6, c6, rfl, h6⟩ := own_seesI HK.out hown
      have HS6 := Lib.hid h6
      have H1 := Lib.hid (fun W h => now_any g ⟨r, S, S⟩ W h)
      have H2 := Lib.hid (fun W h => high_any g ⟨r, S, S⟩ W h)
      have H3 := Lib.hid (fun W h => now_any g ⟨r, 0, S⟩ W h)
      have H4 := Lib.hid (fun W h => left_at (b := g) (p := ⟨r, 0, S⟩) (d := r) (by dsimp only; omega) W h)
      have H5 := Lib.hid (fun W h => high_any g ⟨r, 0, S⟩ W h)
      have H6 := Lib.hid (fun W h => give_at (b := g) (p := ⟨r, 0, S⟩) (n := 1) (giveU_no (Or.inr (by dsimp only; omega))) W h)
      have hk1 : (k : Int) ≤ 9223372036854775807 := by omega
      have hk2 : k ≤ 100 := by omega
      clear hq q1 q2 q3 hsum hpos hSm h6 hown HP HT
      go_wp2_with fail
      refine (H1.out _ HQ.out).mono ?_
      rintro e w3 ⟨rfl, hq⟩
      subst hq
      go_wp2_with fail
      refine (H2.out _ HQ.out).mono ?_
      rintro e w3 ⟨rfl, hq⟩
      subst hq
      go_wp2
      go_loopw [9] (fun v9 wr2 => ∃ (j : Nat), v9 = .int .i64 j ∧ j ≤ k ∧ Hid (SeesI wr2 (g + 1) o6 T) ∧ Hid (Pt wr2 g ⟨r, S - (T.take j).sum, S⟩) ∧ Hid (Below w.heap.size w wr2)) (fun v9 _ => k - (Go.RowKit.intOf v9).toNat)
      case atStart => exact ⟨0, rfl, Nat.zero_le _, HS6, (by have := HQ.out; rw [List.take_zero, List.sum_nil, Int.sub_zero]; exact this), HB⟩
      case round =>
        obtain ⟨j, rfl, hjk, HS2, HQ2, HB2⟩ := hrel
        by_cases hj : j < k
        · have i1 : (j : Int) < k := by omega
          have i2 : (0 : Int) ≤ j := by omega
          obtain ⟨x, hx⟩ : ∃ x, T[j]? = some x := ⟨_, List.getElem?_eq_getElem (by rw [HK.out]; exact hj)⟩
          obtain ⟨b, off, rfl, hbB, hbl, c1⟩ := HS2.out j x hx
          obtain ⟨s1, s2, s3⟩ := sum_split hx HPos.out
          rw [HSm.out] at s3
          have hGv := give_at (q := ⟨r, S - (T.take (j + 1)).sum, S⟩) (r := true) (giveU_yes (p := ⟨r, S - (T.take j).sum, S⟩) s2 (by dsimp only; omega) rfl (by dsimp only; omega) rfl) wr HQ2.out
          have HGv := Lib.hid hGv
          clear hGv s1 s2 s3 hx
          go_wp2_with fail
          refine HGv.out.mono ?_
          rintro e w3 ⟨rfl, p3, g3⟩
          have HP3 := Lib.hid p3
          have HB3 := Lib.hid (HB2.out.trans (below_own g3 HL.out HQ2.out.lt))
          have HS3 := Lib.hid (HS2.out.grown g3 (by omega))
          clear p3 g3 c1
          go_wp2
          go_roundw
          case rel => exact ⟨j + 1, by go_num, by omega, HS3, HP3, HB3⟩
          case measure => simp [Go.RowKit.intOf]; omega
        · obtain rfl : j = k := by omega
          have HQ3 := Lib.hid (show Pt wr g ⟨r, 0, S⟩ by
            have := HQ2.out
            rw [List.take_of_length_le (by rw [HK.out]; omega), HSm.out, Int.sub_self] at this; exact this)
          go_wp2_with fail
          refine (H3.out _ HQ3.out).mono ?_
          rintro e w3 ⟨rfl, hq⟩
          subst hq
          go_wp2_with fail
          refine (H4.out _ HQ3.out).mono ?_
          rintro e w4 ⟨rfl, nq, hq⟩
          have HQ4 := Lib.hid (show Pt w4 g _ from by rw [hq]; exact HQ3.out.drew nq)
          have HB4 := Lib.hid (show Below w.heap.size w w4 from by rw [hq]; exact HB2.out.trans ⟨rfl, rfl, rfl, Nat.le_refl _, fun _ _ => rfl⟩)
          clear hq
          go_wp2_with fail
          refine (H5.out _ HQ4.out).mono ?_
          rintro e w5 ⟨rfl, hq⟩
          subst hq
          go_wp2_with fail
          refine (H6.out _ HQ4.out).mono ?_
          rintro e w6 ⟨rfl, p6, g6⟩
          have HB6 := Lib.hid (HB4.out.trans (below_own g6 HL.out HQ4.out.lt))
          clear p6 g6
          go_wp2
          go_ret
          exact ⟨rfl, HB6.out⟩
end Go.Proofs.Ytlnlhimnbiabcaa.Pur
