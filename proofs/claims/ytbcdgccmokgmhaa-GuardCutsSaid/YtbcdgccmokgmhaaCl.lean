/- The law: frames that are cut anywhere. -/
import Derived.Test.YtbcdgccmokgmhaaCk
namespace Go.Proofs.Ytbcdgccmokgmhaa.Crc
open Go.RowKit Go.Lib

def bytL (ns : List ByteArray) : List (List UInt8) := ns.map fun s => s.data.toList
theorem bytL_len (ns : List ByteArray) : (bytL ns).length = ns.length := by simp [bytL]
theorem strL_bytL (ns : List ByteArray) : strL (bytL ns) = ns := by
  unfold strL bytL
  rw [List.map_map]
  conv => rhs; rw [← List.map_id ns]
  exact List.map_congr_left fun s _ => str_of s
theorem bytL_take (ns : List ByteArray) (c : Nat) : (bytL ns).take c = bytL (ns.take c) := by unfold bytL; rw [List.map_take]
/-- Numbers as cells. -/
def intC (l : List Nat) : List Value := l.map fun (x : Nat) => Value.int .i64 (x : Int)
theorem intC_len (l : List Nat) : (intC l).length = l.length := by simp [intC]
theorem intC_snoc (l : List Nat) (x : Nat) : intC (l ++ [x]) = intC l ++ [.int .i64 x] := by simp [intC]
theorem infoI : (Try.prog.info? 3).map (fun i => (i.zero, i.size, i.bytes)) = some (some (.int .i64 0), 1, 8) := by kernel_rfl
theorem one_i (x : Int) : ∀ v ∈ [Value.int .i64 x], v.oneCell' = true := by
  intro v hv; simp at hv; subst hv; rfl
theorem catF_snoc (L : List (List UInt8)) (s : List UInt8) : catF (L ++ [s]) = catF L ++ frameL s := by
  unfold catF; rw [List.flatMap_append]; simp
theorem catF_len : ∀ (L : List (List UInt8)) (q : Nat), (∀ s ∈ L, s.length ≤ q) → (catF L).length ≤ L.length * (q + 10)
  | [], _, _ => by simp [catF]
  | s :: L, q, h => by
    have h1 := catF_len L q (fun t ht => h t (List.mem_cons_of_mem _ ht))
    have h2 := h s (List.mem_cons_self ..)
    rw [catF_cons, List.length_append, frameL_len, List.length_cons, Nat.succ_mul]
    omega
theorem endsF_last (L : List (List UInt8)) (s : List UInt8) : endsF 0 (L ++ [s]) = endsF 0 L ++ [(catF (L ++ [s])).length] := by
  rw [endsF_snoc, catF_snoc, List.length_append, frameL_len, Nat.zero_add]
/-- All frames of what is cut: the first ones. -/
theorem allA_cut (L : List (List UInt8)) (k : Nat) (h : ∀ s ∈ L, s.length ≤ 12000) : allA ((catF L).take k) = (L.take (cutN L k).1, ((catF L).take k).drop (cutN L k).2) := by
  unfold allA
  exact allF_cut L k _ h (by omega)
theorem cutN_few : ∀ (L : List (List UInt8)) (k : Nat), (cutN L k).1 ≤ L.length
  | [], k => Nat.zero_le _
  | s :: L, k => by
    rw [cutN]
    split
    · have := cutN_few L (k - (s.length + 10))
      simp only [List.length_cons]; omega
    · exact Nat.zero_le _
theorem cutN_end : ∀ (L : List (List UInt8)) (k : Nat), (cutN L k).2 ≤ (catF L).length
  | [], k => Nat.zero_le _
  | s :: L, k => by
    rw [cutN, catF_cons, List.length_append, frameL_len]
    split
    · have := cutN_end L (k - (s.length + 10))
      simp only []; omega
    · exact Nat.zero_le _
theorem last_all (L : List (List UInt8)) (k : Nat) : lastF k 0 (endsF 0 L) (0, 0) = ((cutN L k).1, (cutN L k).2) := by
  have h := lastF_cut k L 0 0 (Nat.zero_le _)
  rw [Nat.zero_add, Nat.zero_add, Nat.sub_zero] at h
  exact h
/-- A slice that reads as these numbers. -/
def SeesI (w : World) (o : Option Addr) (zs : List Nat) : Prop := ∀ (j : Nat) (x : Nat), zs[j]? = some x → ∃ b off, o = some ⟨b, off, none⟩ ∧ b < w.heap.size ∧ w.cell? ⟨b, off + j, none⟩ = some (.int .i64 x)
theorem SeesI.below {w w' : World} {o : Option Addr} {zs : List Nat} (h : SeesI w o zs) (hb : Below w.heap.size w w') : SeesI w' o zs := fun j x hx => by
  obtain ⟨b, off, e, hl, hc⟩ := h j x hx
  exact ⟨b, off, e, Nat.lt_of_lt_of_le hl hb.size, (hb.cell (p := ⟨b, off + j, none⟩) hl).trans hc⟩
theorem own_seesI {w : World} {B n : Nat} {v : Value} {zs : List Nat} (hn : zs.length = n) (h : w.ownsRow B 3 1 v n (intC zs)) : ∃ o c, v = .slice o n c ∧ SeesI w o zs := by
  rcases BkX.own_open h with ⟨rfl, h0, _⟩ | ⟨g, cap, rfl, _, hg, _, _, hc⟩
  · subst h0
    refine ⟨none, 0, rfl, fun j x hx => ?_⟩
    rw [List.eq_nil_of_length_eq_zero hn] at hx
    simp at hx
  · refine ⟨_, _, rfl, fun j x hx => ⟨g, 0, rfl, hg, ?_⟩⟩
    rw [Nat.zero_add]
    refine hc j _ ?_
    unfold intC
    rw [List.getElem?_map, hx]; rfl

set_option maxHeartbeats 4000000 in
set_option maxRecDepth 100000 in
theorem cuts_any (o : Option Addr) (cl : Nat) (ns : List ByteArray) (a : Int) (w : World) (hl : ns.length ≤ maxLen) (hz : ∀ s ∈ ns, s.size ≤ maxLen) (hS : SeesT w o ns) (hcl : ns.length ≤ cl) (hcm : cl ≤ maxLen) (ho : o = none → ns.length = 0 ∧ cl = 0) :
    Calls Try.prog 5 #[.slice o ns.length cl, .int .i64 a] w fun e w' => e = .returned (.bool true) ∧ Below w.heap.size w w' := by
  have HA := Lib.hid (fun W => alive_any W)
  obtain ⟨m, hm⟩ : ∃ m, ns.length = m := ⟨_, rfl⟩
  unfold maxLen at hl hcm
  rw [hm] at hl hcl ho ⊢
  have jl : (m : Int) ≤ 9223372036854775807 := by omega
  have jc : (cl : Int) ≤ 9223372036854775807 := by omega
  have jmc : (m : Int) ≤ cl := by omega
  by_cases h0 : 20 < m
  · have j1 : (20 : Int) < m := by omega
    go_enter Try.func5, Try.ntmps5
    go_wp2_with fail
    refine (HA.out _).mono ?_
    rintro e w1 ⟨rfl, b1⟩
    have HB1 := Lib.hid b1
    clear b1
    go_wp2
    go_ret
    exact ⟨rfl, HB1.out⟩
  have j1 : (m : Int) ≤ 20 := by omega
  have HM := Lib.hid hm
  have HS := Lib.hid hS
  obtain ⟨i0, hi, hz0, hz1, hz2⟩ := info_parts infoI
  obtain ⟨L, hL⟩ : ∃ L, bytL ns = L := ⟨_, rfl⟩
  have HL := Lib.hid hL
  have hLm : L.length = m := by rw [← hL, bytL_len]; exact hm
  have HLm := Lib.hid hLm
  clear hm hS hL hLm h0
  go_enter Try.func5, Try.ntmps5
  go_wp2_with fail
  refine (HA.out _).mono ?_
  rintro e w1 ⟨rfl, b1⟩
  have HB1 := Lib.hid b1
  clear b1
  go_wp2_with fail
  go_loopw [5, 6, 7] (fun v5 v6 v7 wr => ∃ (i : Nat) (B : ByteArray), v7 = .int .i64 i ∧ i ≤ m ∧ v5 = .string B ∧ Hid (B.data.toList = catF (L.take i)) ∧ Hid (∀ s ∈ L.take i, s.length ≤ 200) ∧ wr.ownsRow w.heap.size 3 1 v6 i (intC (endsF 0 (L.take i))) ∧ Hid (Below w.heap.size w wr)) (fun _ _ v7 _ => m - (Go.RowKit.intOf v7).toNat)
  case atStart => exact ⟨0, ⟨#[]⟩, rfl, Nat.zero_le _, rfl, rfl, (fun s hs => by simp at hs), World.ownsRow_nil _ _ _ _, HB1.out⟩
  case round =>
    obtain ⟨i, B, rfl, him, rfl, HC, HW, hown, HB⟩ := hrel
    have hBl : B.size ≤ 4200 := by
      rw [Lib.size_eq, HC.out]
      have h1 := catF_len (L.take i) 200 HW.out
      have h2 : (L.take i).length = i := by rw [List.length_take, HLm.out]; omega
      rw [h2] at h1; omega
    by_cases hk : i < m
    · have i1 : (i : Int) < m := by omega
      have i2 : (0 : Int) ≤ i := by omega
      obtain ⟨x, hx⟩ := get_at HM.out hk
      have hxm := hz x (List.mem_of_getElem? hx)
      unfold maxLen at hxm
      obtain ⟨b, off, rfl, c1⟩ := (HS.out.below HB.out).at hx
      have HX := Lib.hid (show L.take (i + 1) = L.take i ++ [x.data.toList] by
        have h1 : L[i]? = some x.data.toList := by rw [← HL.out]; unfold bytL; rw [List.getElem?_map, hx]; rfl
        rw [List.take_add_one, h1]; rfl)
      obtain ⟨xz, hxz⟩ : ∃ xz, x.size = xz := ⟨_, rfl⟩
      have jx : (xz : Int) ≤ 9223372036854775807 := by omega
      by_cases hx2 : 200 < xz
      · have j2 : (200 : Int) < xz := by omega
        clear hx hxm
        go_wp2
        go_ret
        exact ⟨rfl, HB.out⟩
      have j2 : (xz : Int) ≤ 200 := by omega
      have HF := Lib.hid (fun W => frame_any x W (by omega))
      obtain ⟨f, hf⟩ : ∃ f, frameS x = f := ⟨_, rfl⟩
      have hfd : f.data.toList = frameL x.data.toList := by rw [← hf]; exact frameS_data x
      have hfz : f.size = xz + 10 := by rw [← hf, frameS_size, hxz]
      rw [hf] at HF
      obtain ⟨C, hC⟩ : ∃ C, B ++ f = C := ⟨_, rfl⟩
      have hCd : C.data.toList = catF (L.take (i + 1)) := by rw [← hC, app_data, HX.out, catF_snoc, HC.out, hfd]
      have hCl : C.size ≤ 5000 := by rw [← hC, ByteArray.size_append]; omega
      have HC2 := Lib.hid hCd
      have HW2 := Lib.hid (show ∀ s ∈ L.take (i + 1), s.length ≤ 200 by
        rw [HX.out]
        intro s hs
        rcases List.mem_append.1 hs with hs | hs
        · exact HW.out s hs
        · rw [List.mem_singleton.1 hs, ← Lib.size_eq]; omega)
      have HE := Lib.hid (show intC (endsF 0 (L.take (i + 1))) = intC (endsF 0 (L.take i)) ++ [.int .i64 C.size] by
        rw [HX.out, endsF_last, intC_snoc, ← HX.out, Lib.size_eq, hCd])
      have hwr := HB.out.size
      have hfz2 : f.size ≤ 210 := by omega
      obtain ⟨Cz, hCz⟩ : ∃ Cz, C.size = Cz := ⟨_, rfl⟩
      have jC : (Cz : Int) ≤ 5000 := by omega
      rw [hCz] at HE
      clear hx hxm hx2 hf hfd hfz hCd HX HC HW
      go_wp2_with fail
      refine (HF.out _).mono ?_
      rintro e w2 ⟨rfl, b2⟩
      have HB2 := Lib.hid (HB.out.trans (b2.mono HB.out.size))
      have hown2 := BkX.own_grown hown b2
      have hw2 := HB2.out.size
      clear b2
      go_wp2_with (at_builtin; go_must (refine wpList_append_own _ rfl _ _ 52 rfl w.heap.size 3 i0 (.int .i64 0) 1 8 Try.underlying52 hi hz0 hz1 hz2 rfl (by decide) _ _ _ rfl (hown2.alloc _) ⟨w2.heap.size, 0, none⟩ 1 1 [.int .i64 Cz] rfl rfl (BkX.cell_1 _ _ _) (one_i _) (by unfold maxLen; omega) (by omega) (by simp; omega) ?_); intro v' w3 hown' hgrow3 hnil3)
      have HB3 := Lib.hid (Below.grown (HB2.out.alloc (by omega) _) hgrow3 (by simp; omega) (fun j hj => (hown2.lt _ hj).1) : Below w.heap.size w w3)
      have ho3 : w3.ownsRow w.heap.size 3 1 v' (i + 1) (intC (endsF 0 (L.take (i + 1)))) := by rw [HE.out]; exact hown'
      clear hown' hgrow3 hnil3
      go_wp2
      go_roundw
      case rel => exact ⟨i + 1, C, by go_num, by omega, rfl, HC2, HW2, ho3, HB3⟩
      case measure => simp [Go.RowKit.intOf]; omega
    · obtain rfl : i = m := by omega
      have hLt : L.take i = L := List.take_of_length_le (by rw [HLm.out]; omega)
      rw [hLt] at hown HC HW
      obtain ⟨Sz, hSz⟩ : ∃ Sz, B.size = Sz := ⟨_, rfl⟩
      rw [hSz] at hBl
      obtain ⟨M, hM⟩ : ∃ M, Sz + 1 = M := ⟨_, rfl⟩
      have e1 : (Sz : Int) + 1 = M := by omega
      have e2 : (M : Int) ≤ 4201 := by omega
      have e3 : (0 : Int) < M := by omega
      have e4 : (Sz : Int) ≤ 4200 := by omega
      obtain ⟨k, hkk⟩ : ∃ k, placeN a M = k := ⟨_, rfl⟩
      have hkM : k < M := by rw [← hkk]; exact place_lt a M (by omega)
      have hpl := place_is a M (by omega)
      rw [hkk] at hpl
      obtain ⟨r, hr⟩ : ∃ r, a.tmod (M : Int) = r := ⟨_, rfl⟩
      rw [hr] at hpl
      have r1 : -(M : Int) < r := by rw [← hr]; exact Int.lt_tmod_of_pos a (by omega)
      have r2 : r < M := by rw [← hr]; exact Int.tmod_lt_of_pos a (by omega)
      obtain ⟨y, hy⟩ : ∃ y, r + (Sz : Int) = y := ⟨_, rfl⟩
      obtain ⟨t, ht⟩ : ∃ t, y + 1 = t := ⟨_, rfl⟩
      rw [show r + (M : Int) = t by omega] at hpl
      have t1 : 0 < t := by omega
      have t2 : t < 10000 := by omega
      have t3 : 0 ≤ y := by omega
      have k1 : (k : Int) ≤ Sz := by omega
      obtain ⟨u, hu⟩ : ∃ u, B.extract 0 k = u := ⟨_, rfl⟩
      have hud : u.data.toList = (catF L).take k := by rw [← hu, ext_data, List.drop_zero, Nat.sub_zero, HC.out]
      have huz : u.size = k := by rw [← hu, ByteArray.size_extract]; omega
      have hcut := allA_cut L k (fun s hs => by have := HW.out s hs; omega)
      have hc1 := cutN_few L k
      have hc2 := cutN_le L k
      have hlast := last_all L k
      obtain ⟨c, hcc⟩ : ∃ c, (cutN L k).1 = c := ⟨_, rfl⟩
      obtain ⟨en, hen⟩ : ∃ en, (cutN L k).2 = en := ⟨_, rfl⟩
      rw [hcc, hen] at hcut hlast
      rw [hcc, HLm.out] at hc1
      rw [hen] at hc2
      have HAll := Lib.hid (fun W => (all_any u W (by omega)).mono fun e w' ⟨h, hb⟩ => (show (∃ v, e = Ending.returned (.tuple #[v, .int .i64 (en : Nat)]) ∧ w'.ownsRow W.heap.size 9 1 v c (BkX.flatE (ns.take c))) ∧ Below W.heap.size W w' from by
        obtain ⟨v, h1, h2⟩ := h
        rw [hud, hcut, huz] at h1
        rw [hud, hcut] at h2
        simp only [] at h1 h2
        have hcl2 : (catF L).length = Sz := by rw [← HC.out, ← Lib.size_eq]; exact hSz
        rw [List.length_drop, List.length_take, hcl2, show k - (min k Sz - en) = en by omega] at h1
        rw [List.length_take, HLm.out, Nat.min_eq_left hc1, ← HL.out, bytL_take, strL_bytL] at h2
        exact ⟨⟨v, h1, h2⟩, hb⟩))
      have HST := Lib.hid (fun W (hb : Below w.heap.size w W) => (HS.out.take c).below hb)
      have HCL := Lib.hid (show (ns.take c).length = c by rw [List.length_take, HM.out]; omega)
      obtain ⟨E, hE⟩ : ∃ E, endsF 0 L = E := ⟨_, rfl⟩
      have hEl : E.length = i := by rw [← hE, endsF_len, HLm.out]
      rw [hE] at hown hlast
      have HLast := Lib.hid hlast
      have HEl := Lib.hid hEl
      obtain ⟨o6, c6, rfl, h6⟩ := own_seesI hEl hown
      have H6 := Lib.hid h6
      clear hlast hEl hown h6 hcut hcc hen hkk huz hud hLt hE HC HW hk hM
      go_wp2_with fail
      try rw [hpl]
      try rw [hu]
      refine (HAll.out _).mono ?_
      rintro e w4 ⟨⟨v, rfl, how⟩, b4⟩
      obtain ⟨o4, c4, rfl, h4⟩ := own_seesT HCL.out how
      have HB4 := Lib.hid (HB.out.trans (b4.mono HB.out.size))
      have H64 := Lib.hid (H6.out.below b4)
      have H4 := Lib.hid h4
      clear b4 how h4 H6 HAll hu hr hpl hy ht t1 t2 t3 r1 r2 e1 e2 e3 e4
      go_wp2_with fail
      go_loopw [13, 14, 15] (fun v13 v14 v15 wi => ∃ (j wt ed : Nat), v13 = .int .i64 wt ∧ v14 = .int .i64 ed ∧ v15 = .int .i64 j ∧ j ≤ i ∧ Hid (lastF k j (E.drop j) (wt, ed) = (c, en)) ∧ Hid (Below w4.heap.size w4 wi)) (fun _ _ v15 _ => i - (Go.RowKit.intOf v15).toNat)
      case atStart => exact ⟨0, 0, 0, rfl, rfl, rfl, Nat.zero_le _, HLast.out, Below.refl _ _⟩
      case round =>
        obtain ⟨j, wt, ed, rfl, rfl, rfl, hji, HQ, HBi⟩ := hrel
        by_cases hj : j < i
        · have y1 : (j : Int) < i := by omega
          have y2 : (0 : Int) ≤ j := by omega
          have hjE : j < E.length := by rw [HEl.out]; exact hj
          obtain ⟨x, hx⟩ : ∃ x, E[j]? = some x := ⟨E[j], List.getElem?_eq_getElem hjE⟩
          obtain ⟨b, off, rfl, _, cx⟩ := (H64.out.below HBi.out) j x hx
          have hd : E.drop j = x :: E.drop (j + 1) := by
            rw [List.drop_eq_getElem_cons hjE]
            have := List.getElem?_eq_getElem hjE
            rw [hx] at this
            rw [Option.some.inj this]
          have HQ2 := HQ.out
          rw [hd, lastF] at HQ2
          by_cases hxk : x ≤ k
          · have y3 : (x : Int) ≤ k := by omega
            rw [if_pos hxk] at HQ2
            have HQ3 := Lib.hid HQ2
            have hwr2 : IntKind.i64.wrap ((j : Int) + 1) = ((j + 1 : Nat) : Int) := by rw [wraps_i64 _ (by omega) (by omega)]; omega
            clear HQ HQ2 hd hx hxk
            go_wp2_with fail
            go_quiet (fail)
            have HBq := Lib.hid (show Below w4.heap.size w4 (wr.drewN nq) from HBi.out.trans ((drewN_below wr nq).mono HBi.out.size))
            go_wp2
            go_roundw
            case rel => exact ⟨j + 1, j + 1, x, rfl, rfl, by go_num, by omega, HQ3, HBq⟩
            case measure => simp [Go.RowKit.intOf]; omega
          · have y3 : (k : Int) < x := by omega
            rw [if_neg hxk] at HQ2
            have HQ3 := Lib.hid HQ2
            clear HQ HQ2 hd hx hxk
            go_wp2
            go_roundw
            case rel => exact ⟨j + 1, wt, ed, rfl, rfl, by go_num, by omega, HQ3, HBi⟩
            case measure => simp [Go.RowKit.intOf]; omega
        · obtain rfl : j = i := by omega
          have HQ2 := HQ.out
          rw [List.drop_of_length_le (by rw [HEl.out]; omega), lastF] at HQ2
          obtain ⟨rfl, rfl⟩ : wt = c ∧ ed = en := by cases HQ2; exact ⟨rfl, rfl⟩
          have h4 := H4.out.below HBi.out
          have HBe := Lib.hid (HB4.out.trans (HBi.out.mono HB4.out.size))
          have hst := HST.out _ HBe.out
          have HSame := Lib.hid (fun W (hb : Below wr.heap.size wr W) => (show Calls Try.prog 17 #[.slice o4 wt c4, .slice o wt cl] W fun e w' => e = .returned (.bool true) ∧ Below W.heap.size W w' from by
            have h := same_any o4 o c4 cl (ns.take wt) (by rw [HCL.out]; omega) W (h4.below hb) (hst.below hb)
            rwa [HCL.out] at h))
          have z1 : (wt : Int) ≤ cl := by omega
          have z2 : (0 : Int) ≤ wt := by omega
          clear h4 hst H4 HST HQ HQ2 HLast H64 HBi HB4
          cases o with
          | none =>
            obtain ⟨rfl, rfl⟩ := ho rfl
            obtain rfl : wt = 0 := by omega
            go_wp2_with fail
            refine (HSame.out _ (Below.refl _ _)).mono ?_
            rintro e w5 ⟨rfl, b5⟩
            have HB5 := Lib.hid (HBe.out.trans (b5.mono HBe.out.size))
            clear b5
            go_wp2
            go_ret
            exact ⟨rfl, HB5.out⟩
          | some ad =>
            go_wp2_with fail
            refine (HSame.out _ (Below.refl _ _)).mono ?_
            rintro e w5 ⟨rfl, b5⟩
            have HB5 := Lib.hid (HBe.out.trans (b5.mono HBe.out.size))
            clear b5
            go_wp2
            go_ret
            exact ⟨rfl, HB5.out⟩
end Go.Proofs.Ytbcdgccmokgmhaa.Crc
