/- Groups: the walk of the statement on the greatest rows. -/
import Derived.Test.YtbdnonphkobkoaaGreatGsk
import Derived.Test.YtbdnonphkobkoaaGreatGrq
import Derived.Maps.OwnOps
import Derived.Carry
namespace Go.Proofs.YtbdnonphkobkoaaGreat.Grp
open Go.RowKit Go.Lib Go.Sort Vec Fix Go.Maps Go.WideMaps

theorem small_rightT {xs : List Rw} (h : rightR xs = true) : SmR xs := fun x hx => right_small ((right_fit h).2.1 x hx).1
/-- The greatest rows, as Do answers them. -/
theorem do_top (N : Nat) (h1 : 1 ≤ N) (h2 : N ≤ 2000) (mode : Int) (on o : Option Addr) (nn cn nx c : Nat) (ns : List ByteArray) (xs : List Rw) (w : World) (hnn : ns.length = nn) (hn : xs.length = nx) (hr : rightR xs = true) (hmn : nn ≤ maxLen) (hm : nx ≤ 1000) (hS : RowsS w 0 o xs) (hN : SeesN w on ns) :
    Calls Tryz.prog 29 #[.string ⟨#[116, 111, 112, 107]⟩, .int .i64 N, .int .i64 mode, .slice on nn cn, .slice o nx c] w fun e w' => (∃ o' c' x, e = .returned (.tuple #[.slice o' x.length c', .int .i64 0]) ∧ RowsS w' 0 o' x ∧ x.Perm (rowsOf (6, (N : Int)) (splitR mode ns xs))) ∧ Below w.heap.size w w' := by
  refine (do_ok _ _ mode on o nn cn nx c ns xs w (6, (N : Int)) (agg_topk h1 h2) (fun g _ => rfl) hnn hn hr (small_rightT hr) hmn hm 0 (Nat.zero_le _) hS hN).mono ?_
  rintro e w' ⟨⟨v, us, s, rfl, ho, hp, _⟩, hb⟩
  obtain ⟨o', c', rfl, hs, _⟩ := ho.sees (frow (B := 0))
  exact ⟨⟨o', c', s, rfl, hs, hp⟩, hb⟩
theorem box_two (w : World) (o : Option Addr) (n c : Nat) (v : Int) (W : World) (h : Below (w.alloc (Obj.cells #[.slice o n c, .int .i64 v] 53)).heap.size (w.alloc (Obj.cells #[.slice o n c, .int .i64 v] 53)) W) : W.cell? ⟨w.heap.size, 0, none⟩ = some (.slice o n c) ∧ W.cell? ⟨w.heap.size, 1, none⟩ = some (.int .i64 v) :=
  ⟨boxk w [.slice o n c, .int .i64 v] _ W h 0 _ rfl, boxk w [.slice o n c, .int .i64 v] _ W h 1 _ rfl⟩

set_option maxHeartbeats 64000000 in
set_option maxRecDepth 100000 in
theorem tops_any (n more mode : Int) (on o : Option Addr) (nn cn nl c : Nat) (ns : List ByteArray) (xs : List Rw) (w : World) (hn : xs.length = nl) (hnn : ns.length = nn) (hS : RowsS w w.heap.size o xs) (hN : SeesN w on ns) :
    Calls Tryz.prog 4 #[.int .i64 n, .int .i64 more, .int .i64 mode, .slice on nn cn, .slice o nl c] w fun e w' => e = .returned (.bool true) ∧ Below w.heap.size w w' := by
  have HAl := Lib.hid (fun W => alive_any W)
  have HLt := Lib.hid (lightR_any o nl c xs w _ hn hS)
  cases hl : lightR xs with
  | false =>
    rw [hl] at HLt
    clear hl hS hN
    go_enter Tryz.func4, Tryz.ntmps4
    go_wp2_with fail
    refine HLt.out.mono ?_
    rintro e w1 ⟨rfl, b1⟩
    go_wp2_with fail
    refine (HAl.out _).mono ?_
    rintro e w2 ⟨rfl, b2⟩
    go_wp2
    go_ret
    exact ⟨rfl, b1.trans (b2.mono b1.size)⟩
  | true =>
  obtain ⟨h60, hsm⟩ := lightR_mk hl
  rw [hl] at HLt
  by_cases g1 : 10 < nn
  · have i1 : (10 : Int) < nn := by omega
    clear hl hS hN
    go_enter Tryz.func4, Tryz.ntmps4
    go_wp2_with fail
    refine HLt.out.mono ?_
    rintro e w1 ⟨rfl, b1⟩
    go_wp2_with fail
    refine (HAl.out _).mono ?_
    rintro e w2 ⟨rfl, b2⟩
    go_wp2
    go_ret
    exact ⟨rfl, b1.trans (b2.mono b1.size)⟩
  have i1 : ¬ (10 : Int) < nn := by omega
  by_cases g2 : n < 1
  · clear hl hS hN
    go_enter Tryz.func4, Tryz.ntmps4
    go_wp2_with fail
    refine HLt.out.mono ?_
    rintro e w1 ⟨rfl, b1⟩
    go_wp2_with fail
    refine (HAl.out _).mono ?_
    rintro e w2 ⟨rfl, b2⟩
    go_wp2
    go_ret
    exact ⟨rfl, b1.trans (b2.mono b1.size)⟩
  by_cases g3 : 20 < n
  · clear hl hS hN
    go_enter Tryz.func4, Tryz.ntmps4
    go_wp2_with fail
    refine HLt.out.mono ?_
    rintro e w1 ⟨rfl, b1⟩
    go_wp2_with fail
    refine (HAl.out _).mono ?_
    rintro e w2 ⟨rfl, b2⟩
    go_wp2
    go_ret
    exact ⟨rfl, b1.trans (b2.mono b1.size)⟩
  by_cases g4 : more < 0
  · clear hl hS hN
    go_enter Tryz.func4, Tryz.ntmps4
    go_wp2_with fail
    refine HLt.out.mono ?_
    rintro e w1 ⟨rfl, b1⟩
    go_wp2_with fail
    refine (HAl.out _).mono ?_
    rintro e w2 ⟨rfl, b2⟩
    go_wp2
    go_ret
    exact ⟨rfl, b1.trans (b2.mono b1.size)⟩
  by_cases g5 : 20 < more
  · clear hl hS hN
    go_enter Tryz.func4, Tryz.ntmps4
    go_wp2_with fail
    refine HLt.out.mono ?_
    rintro e w1 ⟨rfl, b1⟩
    go_wp2_with fail
    refine (HAl.out _).mono ?_
    rintro e w2 ⟨rfl, b2⟩
    go_wp2
    go_ret
    exact ⟨rfl, b1.trans (b2.mono b1.size)⟩
  obtain ⟨N, rfl⟩ : ∃ N : Nat, n = N := ⟨n.toNat, by omega⟩
  obtain ⟨M, rfl⟩ : ∃ M : Nat, more = M := ⟨more.toNat, by omega⟩
  obtain ⟨K, hK⟩ : ∃ K, N + M = K := ⟨_, rfl⟩
  have k0 : IntKind.i64.wrap ((N : Int) + M) = (K : Int) := by rw [IntKind.wrap_i64]; omega
  have hNK : N ≤ K := by omega
  have har := vecT_right xs
  have hal : (vecT xs).length ≤ 60 := Nat.le_trans (vecT_len xs) h60
  have HTa := Lib.hid (fun W (hb : Below w.heap.size w W) => ltidy_any o nl c xs W _ hn (by omega) hsm (hS.below frow hb))
  obtain ⟨a, ha⟩ : ∃ a, vecT xs = a := ⟨_, rfl⟩
  rw [ha] at har hal HTa
  obtain ⟨na, hna⟩ : ∃ na, a.length = na := ⟨_, rfl⟩
  have hna60 : na ≤ 60 := by rw [← hna]; exact hal
  have HNA := Lib.hid hna
  have HPa := Lib.hid (fun W oA cA (hb : Below w.heap.size w W) (s : RowsS W 0 oA a) => parts_any mode on oA nn cn na cA ns a W hnn hna har (small_rightT har) (by unfold maxLen; omega) (by omega) 0 (Nat.zero_le _) s (hN.below hb))
  have HAR := Lib.hid har
  obtain ⟨G, hG⟩ : ∃ G, splitR mode ns a = G := ⟨_, rfl⟩
  obtain ⟨ng, hng⟩ : ∃ ng, G.length = ng := ⟨_, rfl⟩
  have hng60 : ng ≤ 60 := by rw [← hng, ← hG]; exact Nat.le_trans (split_len mode ns a) hal
  have HGS := Lib.hid hG
  have HD1 := Lib.hid (fun W oA cA (hb : Below w.heap.size w W) (s : RowsS W 0 oA a) => do_top N (by omega) (by omega) mode on oA nn cn na cA ns a W hnn hna har (by unfold maxLen; omega) (by omega) s (hN.below hb))
  have HD2 := Lib.hid (fun W oA cA (hb : Below w.heap.size w W) (s : RowsS W 0 oA a) => do_top K (by omega) (by omega) mode on oA nn cn na cA ns a W hnn hna har (by unfold maxLen; omega) (by omega) s (hN.below hb))
  rw [hG] at HPa HD1 HD2
  have HNG := Lib.hid hng
  have HNP := Lib.hid (show (G.map (·.2)).length = ng from by rw [List.length_map]; exact hng)
  have HMem := Lib.hid (fun (i : Nat) (g : Grp) (h : G[i]? = some g) => (show g ∈ splitR mode ns a ∧ g.2.length ≤ 60 ∧ ∀ x ∈ g.2, rightB x.1 = true ∧ SmL x.1 from by
    have hm := List.mem_of_getElem? h
    rw [← hG] at hm
    exact ⟨hm, Nat.le_trans (group_len hm) hal, fun x hx => ⟨((right_fit har).2.1 x (split_mem hm hx)).1, small_rightT har x (split_mem hm hx)⟩⟩))
  have HCle := Lib.hid (fun k => (show cntG G k ≤ na from by rw [← hna, ← hG]; exact cntG_le mode ns a k))
  clear hl hS hN har hal ha hsm hG hng hna
  have hmm := @run_makeMap Tryz.prog
  go_enter Tryz.func4, Tryz.ntmps4
  go_wp2_with fail
  refine HLt.out.mono ?_
  rintro e w1 ⟨rfl, b1⟩
  go_wp2_with fail
  refine (HAl.out _).mono ?_
  rintro e w2 ⟨rfl, b2⟩
  have b12 := b1.trans (b2.mono b1.size)
  clear b1 b2
  go_wp2_with fail
  refine (HTa.out _ b12).mono ?_
  rintro e w3 ⟨⟨va, usa, rfl, hoa⟩, b3⟩
  obtain ⟨oA, cA, rfl, hsA, _⟩ := hoa.sees (frow (B := 0))
  rw [HNA.out]
  have HB3 := Lib.hid (b12.trans (b3.mono b12.size))
  have HSA := Lib.hid hsA
  clear b12 b3 hoa hsA HLt HAl HTa
  go_wp2_with fail
  refine (HD1.out _ oA cA HB3.out HSA.out).mono ?_
  rintro e w4 ⟨⟨oX, cX, x, rfl, hsX, hpx⟩, b4⟩
  have HB4 := Lib.hid (HB3.out.trans (b4.mono HB3.out.size))
  have HSA4 := Lib.hid (HSA.out.below frow b4)
  have HX4 := Lib.hid hsX
  obtain ⟨nx, hnx⟩ : ∃ nx, x.length = nx := ⟨_, rfl⟩
  rw [hnx]
  have HNX := Lib.hid hnx
  have hpx' : x.Perm (rowsOf (6, (N : Int)) (splitR mode ns a)) := by rw [HGS.out]; exact hpx
  have HPX := Lib.hid hpx'
  have HRX := Lib.hid (fun (r : Rw) (hr : r ∈ x) => rows_right HAR.out (top_from hpx') hr)
  have HKA := Lib.hid (show keepN N G ng = nx from by rw [← hnx, ← HGS.out]; exact keepN_all hpx' (by rw [HGS.out]; exact HNG.out))
  have hnx60 : nx ≤ 60 := by
    have h1 := keepN_cnt N G ng
    have h2 := HCle.out ng
    rw [HKA.out] at h1
    omega
  clear hsX hpx hpx' hnx b4 HB3 HSA HD1
  go_wp2_with fail
  refine (HD2.out _ oA cA HB4.out HSA4.out).mono ?_
  rintro e w5 ⟨⟨oY, cY, y, rfl, hsY, hpy⟩, b5⟩
  have HB5 := Lib.hid (HB4.out.trans (b5.mono HB4.out.size))
  have HSA5 := Lib.hid (HSA4.out.below frow b5)
  have HX5 := Lib.hid (HX4.out.below frow b5)
  have HY5 := Lib.hid hsY
  obtain ⟨ny, hny⟩ : ∃ ny, y.length = ny := ⟨_, rfl⟩
  rw [hny]
  have HNY := Lib.hid hny
  have hpy' : y.Perm (rowsOf (6, (K : Int)) (splitR mode ns a)) := by rw [HGS.out]; exact hpy
  have HPY := Lib.hid hpy'
  have HRY := Lib.hid (fun (r : Rw) (hr : r ∈ y) => rows_right HAR.out (top_from hpy') hr)
  have hny60 : ny ≤ 60 := by
    have h0 := keepN_all hpy' (m := ng) (by rw [HGS.out]; exact HNG.out)
    have h1 := keepN_cnt K G ng
    have h2 := HCle.out ng
    rw [HGS.out] at h0
    omega
  have hz5 := HB5.out.size
  clear hsY hpy hpy' hny b5 HB4 HSA4 HX4 HD2
  go_wp2
  go_loopw [18] (fun v18 wr => ∃ i : Nat, v18 = .int .i64 i ∧ i ≤ nx ∧ Hid (∃ D, setMap wr w5.heap.size i D ∧ SetOf D ((x.take i).map (·.1))) ∧ Hid (setMap wr (w5.heap.size + 1) 0 (.map [])) ∧ Hid (Below w5.heap.size w5 wr)) (fun v18 _ => nx - (Go.RowKit.intOf v18).toNat)
  case atStart => exact ⟨0, rfl, Nat.zero_le _, Lib.hid ⟨_, (World.ownsMap_made w5 _ _ _).alloc _, SetOf.nil⟩, Lib.hid (by have h9 := World.ownsMap_made (H := Unit) (w5.alloc (.map #[] 0)) Tryz.prog 9 (plainElem (H := Unit) Tryz.prog 4); rw [show (w5.alloc (.map #[] 0)).heap.size = w5.heap.size + 1 by simp] at h9; exact h9), Lib.hid (((Below.refl _ _).alloc (Nat.le_refl _) _).alloc (by simp) _)⟩
  case round =>
    obtain ⟨i, rfl, hi, HMX, HMY, HB⟩ := hrel
    by_cases hin : i < nx
    · have j1 : (i : Int) < nx := by omega
      obtain ⟨r, hr⟩ := get_ltG HNX.out hin
      obtain ⟨b, off, rfl, hR⟩ := (HX5.out.below frow HB.out).at hr
      obtain ⟨oL, cL, d0, d1, hL, _⟩ := row_at hR hr
      obtain ⟨r0, s0⟩ := HRX.out r (List.mem_of_getElem? hr)
      have HTK := Lib.hid (show (x.take (i + 1)).map (·.1) = (x.take i).map (·.1) ++ [r.1] from by rw [take_atG hr, List.map_append]; rfl)
      obtain ⟨nL, hnL⟩ : ∃ nL, r.1.length = nL := ⟨_, rfl⟩
      rw [hnL] at d0
      have HT := Lib.hid (rtext_row oL nL cL r.1 r.2 wr hnL s0 hL.sees)
      have HKr := Lib.hid r0
      obtain ⟨s, hs⟩ : ∃ s, kT r.1 = s := ⟨_, rfl⟩
      have hsz : s.size ≤ 7007010 := by rw [← hs]; exact kT_size s0
      rw [hs] at HT
      have hkl := Lib.hid (keyOf_string_mk (P := Tryz.prog) Tryz.underlying9 (s := s) (by unfold maxLen; omega))
      have HS := Lib.hid hs
      clear hr hR hL r0 s0 hnL hs
      go_wp2_with fail
      refine HT.out.mono ?_
      rintro e w6 ⟨rfl, b6⟩
      have HB6 := Lib.hid (HB.out.trans (b6.mono HB.out.size))
      obtain ⟨D, hm6, hD⟩ := HMX.out
      replace hm6 := hm6.kept (grown_none b6) (by simp)
      have HO6 := Lib.hid (HMY.out.kept (grown_none b6) (by simp))
      have HPut := Lib.hid (show SetOf (D.put (.string s.data.toList) (.lit (.bool true))) ((x.take (i + 1)).map (·.1)) from by rw [HTK.out, ← HS.out]; exact hD.put HKr.out)
      clear b6 HT HMX HMY HB hD d0 d1
      go_wp2_with (at_mapUpdate; refine wpList_mapUpdate_own _ rfl _ _ _ 56 rfl 9 4 (Maps.string_keyed Tryz.underlying9) Tryz.underlying56 _ w5.heap.size i _ rfl hm6 (by unfold maxLen; omega) _ _ _ rfl rfl hkl.out _ [] (plainElem_bool Tryz.underlying4 true) ?_; intro w7 hm7 hg7)
      have HM7 := Lib.hid (show ∃ D, setMap w7 w5.heap.size (i + 1) D ∧ SetOf D ((x.take (i + 1)).map (·.1)) from ⟨_, hm7, HPut.out⟩)
      have HO7 := Lib.hid (show setMap w7 (w5.heap.size + 1) 0 (.map []) from HO6.out.kept hg7 (by simp))
      have hb6z := HB6.out.size
      have HB7 := Lib.hid (Below.grown HB6.out hg7 hb6z (fun j hj => by have := Option.some.inj hj; omega))
      clear hm7 hg7 hm6 HB6 HPut HO6
      go_roundw
      case rel => exact ⟨i + 1, by go_num, by omega, HM7, HO7, HB7⟩
      case measure => simp [Go.RowKit.intOf]; omega
    have j1 : ¬ (i : Int) < nx := by omega
    have HMx := Lib.hid (show ∃ D, setMap wr w5.heap.size 60 D ∧ SetOf D (x.map (·.1)) from by
      obtain ⟨D, h1, h2⟩ := HMX.out
      rw [List.take_of_length_le (by rw [HNX.out]; omega)] at h2
      exact ⟨D, h1.mono (by omega), h2⟩)
    obtain ⟨wo, hwo⟩ : ∃ wo : World, wr = wo := ⟨wr, rfl⟩
    subst wr
    clear HMX hin
    go_wp2_with fail
    go_loopw [19] (fun v19 wr => ∃ i : Nat, v19 = .int .i64 i ∧ i ≤ ny ∧ Hid (∃ D, setMap wr (w5.heap.size + 1) i D ∧ SetOf D ((y.take i).map (·.1))) ∧ Hid (∃ D, setMap wr w5.heap.size 60 D ∧ SetOf D (x.map (·.1))) ∧ Hid (Below w5.heap.size w5 wr)) (fun v19 _ => ny - (Go.RowKit.intOf v19).toNat)
    case atStart => exact ⟨0, rfl, Nat.zero_le _, Lib.hid ⟨_, HMY.out, SetOf.nil⟩, HMx, HB⟩
    case round =>
      clear HMY HMx HB j1 hi
      obtain ⟨i, rfl, hi, HMY, HMX, HB⟩ := hrel
      by_cases hin : i < ny
      · have j1 : (i : Int) < ny := by omega
        obtain ⟨r, hr⟩ := get_ltG HNY.out hin
        obtain ⟨b, off, rfl, hR⟩ := (HY5.out.below frow HB.out).at hr
        obtain ⟨oL, cL, d0, d1, hL, _⟩ := row_at hR hr
        obtain ⟨r0, s0⟩ := HRY.out r (List.mem_of_getElem? hr)
        have HTK := Lib.hid (show (y.take (i + 1)).map (·.1) = (y.take i).map (·.1) ++ [r.1] from by rw [take_atG hr, List.map_append]; rfl)
        obtain ⟨nL, hnL⟩ : ∃ nL, r.1.length = nL := ⟨_, rfl⟩
        rw [hnL] at d0
        have HT := Lib.hid (rtext_row oL nL cL r.1 r.2 wr hnL s0 hL.sees)
        have HKr := Lib.hid r0
        obtain ⟨s, hs⟩ : ∃ s, kT r.1 = s := ⟨_, rfl⟩
        have hsz : s.size ≤ 7007010 := by rw [← hs]; exact kT_size s0
        rw [hs] at HT
        have hkl := Lib.hid (keyOf_string_mk (P := Tryz.prog) Tryz.underlying9 (s := s) (by unfold maxLen; omega))
        have HS := Lib.hid hs
        clear hr hR hL r0 s0 hnL hs
        go_wp2_with fail
        refine HT.out.mono ?_
        rintro e w6 ⟨rfl, b6⟩
        have HB6 := Lib.hid (HB.out.trans (b6.mono HB.out.size))
        obtain ⟨D, hm6, hD⟩ := HMY.out
        replace hm6 := hm6.kept (grown_none b6) (by simp)
        have HO6 := Lib.hid (show ∃ D, setMap w6 w5.heap.size 60 D ∧ SetOf D (x.map (·.1)) from by
          obtain ⟨D, h1, h2⟩ := HMX.out
          exact ⟨D, h1.kept (grown_none b6) (by simp), h2⟩)
        have HPut := Lib.hid (show SetOf (D.put (.string s.data.toList) (.lit (.bool true))) ((y.take (i + 1)).map (·.1)) from by rw [HTK.out, ← HS.out]; exact hD.put HKr.out)
        clear b6 HT HMY HMX HB hD d0 d1
        go_wp2_with (at_mapUpdate; refine wpList_mapUpdate_own _ rfl _ _ _ 56 rfl 9 4 (Maps.string_keyed Tryz.underlying9) Tryz.underlying56 _ (w5.heap.size + 1) i _ rfl hm6 (by unfold maxLen; omega) _ _ _ rfl rfl hkl.out _ [] (plainElem_bool Tryz.underlying4 true) ?_; intro w7 hm7 hg7)
        have HM7 := Lib.hid (show ∃ D, setMap w7 (w5.heap.size + 1) (i + 1) D ∧ SetOf D ((y.take (i + 1)).map (·.1)) from ⟨_, hm7, HPut.out⟩)
        have HO7 := Lib.hid (show ∃ D, setMap w7 w5.heap.size 60 D ∧ SetOf D (x.map (·.1)) from by
          obtain ⟨D, h1, h2⟩ := HO6.out
          exact ⟨D, h1.kept hg7 (by simp), h2⟩)
        have hb6z := HB6.out.size
        have HB7 := Lib.hid (Below.grown HB6.out hg7 hb6z (fun j hj => by have := Option.some.inj hj; omega))
        clear hm7 hg7 hm6 HB6 HPut HO6
        go_roundw
        case rel => exact ⟨i + 1, by go_num, by omega, HM7, HO7, HB7⟩
        case measure => simp [Go.RowKit.intOf]; omega
      have j1 : ¬ (i : Int) < ny := by omega
      have HMy := Lib.hid (show ∃ D, setMap wr (w5.heap.size + 1) 60 D ∧ SetOf D (y.map (·.1)) from by
        obtain ⟨D, h1, h2⟩ := HMY.out
        rw [List.take_of_length_le (by rw [HNY.out]; omega)] at h2
        exact ⟨D, h1.mono (by omega), h2⟩)
      obtain ⟨wp, hwp⟩ : ∃ wp : World, wr = wp := ⟨wr, rfl⟩
      subst wr
      have HB6 := Lib.hid (HB5.out.trans (HB.out.mono hz5))
      clear HMY hin
      go_wp2_with fail
      refine (HPa.out _ oA cA HB6.out (HSA5.out.below frow HB.out)).mono ?_
      rintro e w7 ⟨⟨vp, usp, rfl, hop⟩, b7⟩
      obtain ⟨oP, cP, rfl, hsP, _⟩ := hop.sees (firmPart (B := 0))
      rw [HNP.out]
      have HSP := Lib.hid hsP
      have HB7 := Lib.hid (HB6.out.trans (b7.mono HB6.out.size))
      have HX7 := Lib.hid (show ∃ D, setMap w7 w5.heap.size 60 D ∧ SetOf D (x.map (·.1)) from by
        obtain ⟨D, h1, h2⟩ := HMX.out
        exact ⟨D, h1.kept (grown_none b7) (by simp), h2⟩)
      have HY7 := Lib.hid (show ∃ D, setMap w7 (w5.heap.size + 1) 60 D ∧ SetOf D (y.map (·.1)) from by
        obtain ⟨D, h1, h2⟩ := HMy.out
        exact ⟨D, h1.kept (grown_none b7) (by simp), h2⟩)
      have HLX := Lib.hid (fun (W : World) (hb : Below w7.heap.size w7 W) (l : Labs) (hl : rightB l = true) (hs : SmL l) => (show (Instr.lookup 56 (.map (some w5.heap.size)) (.string (kT l)) false).run Tryz.prog W = .ok (.bool (hasL (x.map (·.1)) l)) W from by
        obtain ⟨D, h1, h2⟩ := HX7.out
        exact look_labs (h1.kept (grown_none hb) (by simp)) h2 hl rfl (by have := kT_size hs; unfold maxLen; omega)))
      have HLY := Lib.hid (fun (W : World) (hb : Below w7.heap.size w7 W) (l : Labs) (hl : rightB l = true) (hs : SmL l) => (show (Instr.lookup 56 (.map (some (w5.heap.size + 1))) (.string (kT l)) false).run Tryz.prog W = .ok (.bool (hasL (y.map (·.1)) l)) W from by
        obtain ⟨D, h1, h2⟩ := HY7.out
        exact look_labs (h1.kept (grown_none hb) (by simp)) h2 hl rfl (by have := kT_size hs; unfold maxLen; omega)))
      have hz7 := HB7.out.size
      clear hop hsP b7 HB HB6 HPa HMy HMX HX7 HY7 HX5 HY5 HSA5 j1 hi HRX HRY
      go_wp2
      go_loopw [20, 114] (fun v20 v114 wr => ∃ i : Nat, v114 = .int .i64 i ∧ i ≤ ng ∧ v20 = .int .i64 ((keepN N G i : Nat) : Int) ∧ Hid (Below w7.heap.size w7 wr)) (fun _ v114 _ => ng - (Go.RowKit.intOf v114).toNat)
      case atStart => exact ⟨0, rfl, Nat.zero_le _, rfl, Lib.hid (Below.refl _ _)⟩
      case round =>
        obtain ⟨i, rfl, hi, rfl, HB⟩ := hrel
        by_cases hin : i < ng
        · have j1 : (i : Int) < ng := by omega
          obtain ⟨g, hg⟩ := get_ltG HNG.out hin
          have hp : (G.map (·.2))[i]? = some g.2 := by rw [List.getElem?_map, hg]; rfl
          obtain ⟨gmem, glen, gall⟩ := HMem.out i g hg
          have HGA := Lib.hid gall
          have HGM := Lib.hid gmem
          have HK1 := Lib.hid (keepN_step (n := N) hg)
          have hkl : keepN N G (i + 1) ≤ 60 := by
            have h1 := keepN_cnt N G (i + 1)
            have h2 := HCle.out (i + 1)
            omega
          obtain ⟨m, hm⟩ : ∃ m, g.2.length = m := ⟨_, rfl⟩
          have HM := Lib.hid hm
          have hm60 : m ≤ 60 := by rw [← hm]; exact glen
          rw [hm] at HK1
          rw [HK1.out] at hkl
          have HIA := Lib.hid (inN_all HAR.out HPX.out gmem hm)
          have HT2 := Lib.hid (fun (r : Rw) (hr : r ∈ g.2) (h : hasL (x.map (·.1)) r.1 = true) => hasL_iff.2 ((top_in HAR.out HPY.out gmem hr).2 (top_more hNK ((top_in HAR.out HPX.out gmem hr).1 (hasL_iff.1 h)))))
          have HT3 := Lib.hid (fun (r : Rw) (hr : r ∈ g.2) (h : hasL (x.map (·.1)) r.1 = true) (q : Rw) (hq : q ∈ g.2) (h2 : hasL (x.map (·.1)) q.1 = false) => top_low ((top_in HAR.out HPX.out gmem hr).1 (hasL_iff.1 h)) hq fun hh => no_hasL h2 ((top_in HAR.out HPX.out gmem hq).2 hh))
          obtain ⟨b, off, rfl, hR⟩ := (HSP.out.below (firmPart (B := 0)) HB.out).at hp
          obtain ⟨u, ⟨b2, cR, cs, mm, rfl, _, hS2, _⟩, hc⟩ := hR.at0 i _ hp
          have c0 := hc 0 _ rfl
          simp only [Nat.mul_one, Nat.add_zero] at c0
          rw [hm] at c0
          obtain ⟨wA, hwA⟩ : ∃ wA : World, wr = wA := ⟨wr, rfl⟩
          subst wr
          have HS2 := Lib.hid hS2
          clear hc hR hg hp gmem glen gall hm hS2
          go_wp2
          go_loopw [23, 120] (fun v23 v120 wr => ∃ k : Nat, v120 = .int .i64 k ∧ k ≤ m ∧ v23 = .int .i64 ((inN g.2 (x.map (·.1)) k : Nat) : Int) ∧ Hid (Below wA.heap.size wA wr)) (fun _ v120 _ => m - (Go.RowKit.intOf v120).toNat)
          case atStart => exact ⟨0, rfl, Nat.zero_le _, by rw [inN_zero]; rfl, Lib.hid (Below.refl _ _)⟩
          case round =>
            obtain ⟨k, rfl, hk, rfl, HBk⟩ := hrel
            by_cases hkm : k < m
            · have j2 : (k : Int) < m := by omega
              obtain ⟨r, hr⟩ := get_ltG HM.out hkm
              obtain ⟨oL, cL, d0, d1, hL, _⟩ := row_at (HS2.out.below frow HBk.out) hr
              simp only [Nat.zero_add] at d0 d1
              have hrm := List.mem_of_getElem? hr
              obtain ⟨r0, s0⟩ := HGA.out r hrm
              have HRM := Lib.hid hrm
              obtain ⟨nL, hnL⟩ : ∃ nL, r.1.length = nL := ⟨_, rfl⟩
              rw [hnL] at d0
              obtain ⟨W1, hW1⟩ : ∃ W1, wr.alloc (Obj.cells #[.slice oL nL cL, .int .i64 r.2] 53) = W1 := ⟨_, rfl⟩
              have hb1 : Below wr.heap.size wr W1 := by rw [← hW1]; exact (Below.refl _ _).alloc (Nat.le_refl _) _
              have HBX := Lib.hid (fun (W : World) (h : Below W1.heap.size W1 W) => (show W.cell? ⟨wr.heap.size, 0, none⟩ = some (.slice oL nL cL) ∧ W.cell? ⟨wr.heap.size, 1, none⟩ = some (.int .i64 r.2) from by rw [← hW1] at h; exact box_two wr oL nL cL r.2 W h))
              have HW1 := Lib.hid hW1
              have HT := Lib.hid (fun (W : World) (hb : Below W1.heap.size W1 W) => rtext_row oL nL cL r.1 r.2 W hnL s0 ((hL.sees.below hb1).below hb))
              have HB1 := Lib.hid (HBk.out.trans (hb1.mono HBk.out.size))
              have HLXr := Lib.hid (fun (W : World) (hb : Below W1.heap.size W1 W) => HLX.out W (HB.out.trans ((HB1.out.trans (hb.mono HB1.out.size)).mono HB.out.size)) r.1 r0 s0)
              have HLYr := Lib.hid (fun (W : World) (hb : Below W1.heap.size W1 W) => HLY.out W (HB.out.trans ((HB1.out.trans (hb.mono HB1.out.size)).mono HB.out.size)) r.1 r0 s0)
              have HIY := Lib.hid (fun (h : hasL (x.map (·.1)) r.1 = true) => inN_yes hr h)
              have HIN := Lib.hid (fun (h : hasL (x.map (·.1)) r.1 = false) => inN_no hr h)
              have hil := inN_le g.2 (x.map (·.1)) k
              clear hr hrm r0 s0 hnL hL hW1 hb1
              obtain ⟨sr, hsr⟩ : ∃ sr, kT r.1 = sr := ⟨_, rfl⟩
              rw [hsr] at HT HLXr HLYr
              clear hsr
              go_wp2_with fail
              rw [HW1.out]
              refine (HT.out _ (Below.refl _ _)).mono ?_
              rintro e w8 ⟨rfl, b8⟩
              have HB8 := Lib.hid b8
              have hrun := HLXr.out w8 b8
              clear b8
              cases hin : hasL (x.map (·.1)) r.1 with
              | false =>
                rw [hin] at hrun
                have HI := Lib.hid (HIN.out hin)
                clear hin
                go_wp2
                go_roundw
                case rel => exact ⟨k + 1, by go_num, by omega, by rw [HI.out], Lib.hid (HB1.out.trans (HB8.out.mono HB1.out.size))⟩
                case measure => simp [Go.RowKit.intOf]; omega
              | true =>
                rw [hin] at hrun
                have HI := Lib.hid (HIY.out hin)
                have HT2r := Lib.hid (HT2.out r HRM.out hin)
                have HT3r := Lib.hid (HT3.out r HRM.out hin)
                obtain ⟨x0, x1⟩ := HBX.out w8 HB8.out
                have hrun8 := hrun
                clear hin
                go_wp2_with fail
                refine (HT.out _ HB8.out).mono ?_
                rintro e w9 ⟨rfl, b9⟩
                have HB9 := Lib.hid (HB8.out.trans (b9.mono HB8.out.size))
                have hrun9 := HLYr.out w9 HB9.out
                rw [HT2r.out] at hrun9
                clear b9 x0 x1 hrun hrun8
                go_wp2
                go_loopw [138] (fun v138 wr => ∃ q : Nat, v138 = .int .i64 q ∧ q ≤ m ∧ Hid (Below w9.heap.size w9 wr)) (fun v138 _ => m - (Go.RowKit.intOf v138).toNat)
                case atStart => exact ⟨0, rfl, Nat.zero_le _, Lib.hid (Below.refl _ _)⟩
                case round =>
                  clear hrun9
                  obtain ⟨q, rfl, hq, HBq⟩ := hrel
                  have HB1q := Lib.hid (HB9.out.trans (HBq.out.mono HB9.out.size))
                  have HBAq := Lib.hid (HB1.out.trans (HB1q.out.mono HB1.out.size))
                  by_cases hqm : q < m
                  · have j3 : (q : Int) < m := by omega
                    obtain ⟨p, hp⟩ := get_ltG HM.out hqm
                    obtain ⟨oQ, cQ, e0, e1, hQ, _⟩ := row_at (HS2.out.below frow HBAq.out) hp
                    simp only [Nat.zero_add] at e0 e1
                    have hpm := List.mem_of_getElem? hp
                    obtain ⟨r0, s0⟩ := HGA.out p hpm
                    have HPM := Lib.hid hpm
                    obtain ⟨nQ, hnQ⟩ : ∃ nQ, p.1.length = nQ := ⟨_, rfl⟩
                    rw [hnQ] at e0
                    obtain ⟨W2, hW2⟩ : ∃ W2, wr.alloc (Obj.cells #[.slice oQ nQ cQ, .int .i64 p.2] 53) = W2 := ⟨_, rfl⟩
                    have hb2 : Below wr.heap.size wr W2 := by rw [← hW2]; exact (Below.refl _ _).alloc (Nat.le_refl _) _
                    have HBP := Lib.hid (fun (W : World) (h : Below W2.heap.size W2 W) => (show W.cell? ⟨wr.heap.size, 0, none⟩ = some (.slice oQ nQ cQ) ∧ W.cell? ⟨wr.heap.size, 1, none⟩ = some (.int .i64 p.2) from by rw [← hW2] at h; exact box_two wr oQ nQ cQ p.2 W h))
                    have HW2 := Lib.hid hW2
                    have HTq := Lib.hid (rtext_row oQ nQ cQ p.1 p.2 W2 hnQ s0 (hQ.sees.below hb2))
                    have HB2 := Lib.hid (HB1q.out.trans (hb2.mono HB1q.out.size))
                    have HLq := Lib.hid (fun (W : World) (hb : Below W2.heap.size W2 W) => HLX.out W (HB.out.trans ((HB1.out.trans ((HB2.out.trans (hb.mono HB2.out.size)).mono HB1.out.size)).mono HB.out.size)) p.1 r0 s0)
                    have HBq2 := Lib.hid (HBq.out.trans (hb2.mono HBq.out.size))
                    clear hp hpm r0 s0 hnQ hQ hW2 hb2
                    obtain ⟨sq, hsq⟩ : ∃ sq, kT p.1 = sq := ⟨_, rfl⟩
                    rw [hsq] at HTq HLq
                    clear hsq
                    go_wp2_with fail
                    rw [HW2.out]
                    refine HTq.out.mono ?_
                    rintro e w10 ⟨rfl, b10⟩
                    have HB10 := Lib.hid b10
                    have hrunq := HLq.out w10 b10
                    clear b10
                    cases hiq : hasL (x.map (·.1)) p.1 with
                    | true =>
                      rw [hiq] at hrunq
                      clear hiq
                      go_wp2
                      go_roundw
                      case rel => exact ⟨q + 1, by go_num, by omega, Lib.hid (HBq2.out.trans (HB10.out.mono HBq2.out.size))⟩
                      case measure => simp [Go.RowKit.intOf]; omega
                    | false =>
                      rw [hiq] at hrunq
                      have t3 : ¬ r.2 < p.2 := by have h9 := HT3r.out p HPM.out hiq; omega
                      obtain ⟨y0, y1⟩ := HBP.out w10 HB10.out
                      obtain ⟨x0, x1⟩ := HBX.out w10 (HB2.out.trans (HB10.out.mono HB2.out.size))
                      clear hiq
                      go_wp2
                      go_roundw
                      case rel => exact ⟨q + 1, by go_num, by omega, Lib.hid (HBq2.out.trans (HB10.out.mono HBq2.out.size))⟩
                      case measure => simp [Go.RowKit.intOf]; omega
                  · have j3 : ¬ (q : Int) < m := by omega
                    go_wp2
                    go_roundw
                    case rel => exact ⟨k + 1, by go_num, by omega, by rw [HI.out]; go_num, HBAq⟩
                    case measure => simp [Go.RowKit.intOf]; omega
            · have j2 : ¬ (k : Int) < m := by omega
              have hkm2 : k = m := by omega
              have hI : inN g.2 (x.map (·.1)) k = min N m := by rw [hkm2]; exact HIA.out
              rw [hI]
              obtain ⟨mv, hmv⟩ : ∃ mv : Int, (if (m : Int) < N then (m : Int) else N) = mv := ⟨_, rfl⟩
              have mn : ∀ (W : World) (ts : Array TypeId) (t : TypeId), (Builtin.min_ ts t #[.int .i64 (N : Int), .int .i64 (m : Int)]).run Tryz.prog W = .ok (.int .i64 mv) W := fun W ts t => by rw [run_min_int2, hmv]
              obtain ⟨mw, hmw⟩ : ∃ mw : Nat, min N m = mw := ⟨_, rfl⟩
              rw [hmw] at HK1 hkl
              rw [hmw]
              have t1 : ((mw : Int) == mv) = true := by rw [beq_iff_eq, ← hmv, ← hmw]; split <;> omega
              have HBe := Lib.hid (HB.out.trans (HBk.out.mono HB.out.size))
              clear hmv hmw hI hkm2
              go_wp2
              go_roundw
              case rel => exact ⟨i + 1, by go_num, by omega, by rw [HK1.out]; go_num, HBe⟩
              case measure => simp [Go.RowKit.intOf]; omega
        have j1 : ¬ (i : Int) < ng := by omega
        obtain rfl : i = ng := by omega
        rw [HKA.out]
        go_wp2
        go_ret
        exact ⟨rfl, HB7.out.trans (HB.out.mono hz7)⟩
end Go.Proofs.YtbdnonphkobkoaaGreat.Grp
