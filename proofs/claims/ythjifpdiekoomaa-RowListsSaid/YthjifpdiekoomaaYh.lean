/- The law: rows one behind the other are read as they were. -/
import Derived.Test.YthjifpdiekoomaaYg
import Derived.Deep.RegionHeld3
import Derived.Deep.DeepFit
namespace Go.Proofs.Ythjifpdiekoomaa.Row
open Go.RowKit Go.Lib Go.Proofs.Ythjifpdiekoomaa.Vec

/-- The bytes of rows, one behind the other. -/
def catR (xs : List Rw) : List UInt8 := xs.flatMap fun x => putR x.1 x.2
theorem catR_app (xs ys : List Rw) : catR (xs ++ ys) = catR xs ++ catR ys := by unfold catR; rw [List.flatMap_append]
theorem catR_take {xs : List Rw} {k : Nat} {x : Rw} (h : xs[k]? = some x) : catR (xs.take (k + 1)) = catR (xs.take k) ++ putR x.1 x.2 := by
  rw [List.take_add_one, h, catR_app]; simp [catR]
theorem catR_drop {xs : List Rw} {k : Nat} {x : Rw} (h : xs[k]? = some x) : catR (xs.drop k) = putR x.1 x.2 ++ catR (xs.drop (k + 1)) := by
  rw [drop_atG h]; rfl
theorem catR_len : ∀ (xs : List Rw), (∀ x ∈ xs, okR x.1 x.2 = true) → (catR xs).length ≤ 4103 * xs.length
  | [], _ => Nat.le_refl _
  | x :: xs, h => by
    have ih := catR_len xs (fun y hy => h y (List.mem_cons_of_mem _ hy))
    have hp := putR_len (v := x.2) (okR_right (h x (List.mem_cons_self ..))).1
    rw [show catR (x :: xs) = putR x.1 x.2 ++ catR xs from rfl, List.length_append, List.length_cons]
    omega
theorem right_okR {xs : List Rw} (h : rightR xs = true) : ∀ x ∈ xs, okR x.1 x.2 = true := fun x hx => by
  obtain ⟨h1, h2⟩ := (right_fit h).2.1 x hx
  unfold okR Fix.rgtB
  rw [h1, decide_eq_true h2]; rfl

theorem labS_own {w : World} {B n c : Nat} {o : Option Addr} {xs : List Lab} (h : w.ownsRow B 41 2 (.slice o n c) n (flatL xs)) (hn : xs.length = n) : LabS w 0 o xs := by
  subst hn
  obtain ⟨o2, c2, e2, hs, _⟩ := own_sees h
  cases e2
  refine ⟨hs, fun _ b off e => .inr ?_⟩
  rcases h.2 with ⟨h1, _⟩ | ⟨g, cap, cur, h1, hg, hh, _⟩
  · injection h1 with h3 _ _
    rw [h3] at e; cases e
  · cases h1; cases e; exact ⟨_, _, hh⟩
theorem cells_k2 (w : World) (X : Obj) (L : List Value) (t : TypeId) : ∀ j u, L[j]? = some u → ((w.alloc X).alloc (.cells L.toArray t)).cell? ((⟨w.heap.size + 1, 0, none⟩ : Addr).add j) = some u := by
  have h := cells_k (w.alloc X) L t
  rwa [show (w.alloc X).heap.size = w.heap.size + 1 from Array.size_push _] at h
set_option maxHeartbeats 16000000 in
set_option maxRecDepth 100000 in
theorem lists_any (o : Option Addr) (n c : Nat) (v : Int) (xs : List Rw) (w : World) (B : Nat) (hn : xs.length = n) (hS : RowsS w B o xs) :
    Calls Try.prog 4 #[.slice o n c, .int .i64 v] w fun e w' => e = .returned (.bool true) ∧ Below w.heap.size w w' := by
  obtain ⟨i0, hi, hz0, hz1, hz2⟩ := info_parts infoRow
  have HAL := Lib.hid (fun W => alive_any W)
  have HL := Lib.hid (lightR_any o n c xs w B hn hS)
  cases hl : lightR xs with
  | false =>
    rw [hl] at HL
    clear hl hn hS hi hz0 hz1 hz2
    go_enter Try.func4, Try.ntmps4
    go_wp2_with fail
    refine HL.out.mono ?_
    rintro e w1 ⟨rfl, b1⟩
    have HB1 := Lib.hid b1
    clear b1
    go_wp2_with fail
    refine (HAL.out _).mono ?_
    rintro e w2 ⟨rfl, b2⟩
    have HB2 := Lib.hid (HB1.out.trans (b2.mono HB1.out.size))
    clear b2
    go_wp2
    go_ret
    exact ⟨rfl, HB2.out⟩
  | true =>
  rw [hl] at HL
  obtain ⟨h60, hsm⟩ := lightR_mk hl
  have HT := Lib.hid (fun (W : World) (hb : Below w.heap.size w W) => ltidy_any o n c xs W B hn (by omega) hsm (hS.below frow hb))
  obtain ⟨R, hR⟩ : ∃ R, vecT xs = R := ⟨_, rfl⟩
  have hRo : ∀ x ∈ R, okR x.1 x.2 = true := by rw [← hR]; exact right_okR (vecT_right xs)
  have hRl : R.length ≤ 60 := by rw [← hR]; exact Nat.le_trans (vecT_len xs) h60
  obtain ⟨m, hm⟩ : ∃ m, R.length = m := ⟨_, rfl⟩
  have HM := Lib.hid hm
  have hm60 : m ≤ 60 := by omega
  have HRO := Lib.hid hRo
  rw [hR] at HT
  clear hl hn hS hsm h60 hR hRl hm hRo
  go_enter Try.func4, Try.ntmps4
  go_wp2_with fail
  refine HL.out.mono ?_
  rintro e w1 ⟨rfl, b1⟩
  have HB1 := Lib.hid b1
  clear b1
  go_wp2_with fail
  refine (HAL.out _).mono ?_
  rintro e w2 ⟨rfl, b2⟩
  have HB2 := Lib.hid (HB1.out.trans (b2.mono HB1.out.size))
  clear b2
  go_wp2_with fail
  refine (HT.out _ HB2.out).mono ?_
  rintro e w3 ⟨⟨lv, us, rfl, hO⟩, b3⟩
  have HB3 := Lib.hid (HB2.out.trans (b3.mono HB2.out.size))
  obtain ⟨oa, ca, rfl, hs3, _⟩ := hO.sees frow
  rw [HM.out] at hO ⊢
  have HS3 := Lib.hid hs3
  clear hO hs3 b3 HT
  go_wp2
  go_loopw [6, 7, 8, 9] (fun v6 v7 v8 v9 wr => ∃ (k : Nat) (b : ByteArray), v7 = .int .i64 k ∧ k ≤ m ∧ v6 = .string b ∧ Hid (b.data.toList = catR (R.take k)) ∧ b.size ≤ 4103 * k ∧ Hid (Below w3.heap.size w3 wr)) (fun _ v7 _ _ _ => m - (Go.RowKit.intOf v7).toNat)
  case atStart => exact ⟨0, ⟨#[]⟩, rfl, Nat.zero_le _, rfl, rfl, Nat.zero_le _, Below.refl _ _⟩
  case round =>
    obtain ⟨k, b, rfl, hk, rfl, HC, hbs, HB⟩ := hrel
    by_cases hkm : k < m
    · have j1 : (k : Int) < m := by omega
      obtain ⟨x, hx⟩ := get_ltG HM.out hkm
      obtain ⟨bA, offA, rfl, hR⟩ := (HS3.out.below frow HB.out).at hx
      obtain ⟨oL, cL, c0, c1, hL, lL⟩ := row_at hR hx
      have hlow := hR.low
      have hok := HRO.out x (List.mem_of_getElem? hx)
      have hsl := right_small (okR_right hok).1
      have hsz : ∀ y ∈ x.1, y.1.size ≤ 1000 ∧ y.2.size ≤ 1000 := fun y hy => by
        have := hsl y hy
        rw [Lib.size_eq, Lib.size_eq]; omega
      obtain ⟨nL, hnL⟩ : ∃ nL, x.1.length = nL := ⟨_, rfl⟩
      have hn8 : nL ≤ 8 := by rw [← hnL]; exact right_len (okR_right hok).1
      rw [hnL] at c0 lL
      obtain ⟨q, hq⟩ : ∃ q, 16 + costL x.1 = q := ⟨_, rfl⟩
      have hge : 16 + 8 * nL ≤ q := by rw [← hq, ← hnL]; have := costL_ge x.1; omega
      have HP := Lib.hid (show Calls Try.prog 7 #[.agg #[.slice oL nL cL, .int .i64 x.2]] wr fun e w' => e = .returned (.tuple #[.string (putS x.1 x.2), .int .i64 0]) ∧ Below wr.heap.size wr w' from by
        have := rput_any oL nL cL x.1 x.2 wr hnL lL hL.sees
        rwa [show putE x.1 x.2 = 0 by unfold putE; rw [hok]; rfl] at this)
      have HS2 := Lib.hid (show (b ++ putS x.1 x.2).data.toList = catR (R.take (k + 1)) by
        rw [app_data, catR_take hx, HC.out]
        unfold putS; rw [if_pos hok, str_data])
      have hps := putS_size x.1 x.2
      obtain ⟨s, hs⟩ : ∃ s, putS x.1 x.2 = s := ⟨_, rfl⟩
      rw [hs] at HP HS2 hps
      have HCO := Lib.hid (fun (z : Int) (W : World) (hb : Below wr.heap.size wr W) => (show Calls Try.prog 12 #[.agg #[.slice oL nL cL, .int .i64 z]] W fun e w' => e = .returned (.int .i64 q) ∧ (w'.cell? ⟨bA, offA + k * 2, none⟩ = some (.slice oL nL cL) ∧ w'.cell? ⟨bA, offA + k * 2 + 1, none⟩ = some (.int .i64 x.2)) ∧ Hid (Below wr.heap.size wr w') from by
        have h0 := cost_any oL nL cL x.1 z W hnL (by omega) hsz (hL.sees.below hb)
        rw [hq] at h0
        refine h0.mono ?_
        rintro e w' ⟨rfl, h2⟩
        have h3 := hb.trans (h2.mono hb.size)
        exact ⟨rfl, ⟨(h3.cell (p := ⟨bA, offA + k * 2, none⟩) hlow).trans c0, (h3.cell (p := ⟨bA, offA + k * 2 + 1, none⟩) hlow).trans c1⟩, h3⟩))
      clear hL hR hx hok hsl hsz hnL hq hs
      go_wp2_with fail
      refine HP.out.mono ?_
      rintro e w4 ⟨rfl, b4⟩
      have r1 := (b4.cell (p := ⟨bA, offA + k * 2, none⟩) hlow).trans c0
      have r2 := (b4.cell (p := ⟨bA, offA + k * 2 + 1, none⟩) hlow).trans c1
      have rb := Lib.hid b4.drew
      have hbs2 : (b ++ s).size = b.size + s.size := ByteArray.size_append
      clear b4 c0 c1 HP
      have j3 : (16 : Int) + 8 * nL ≤ q := by omega
      have wk1 : IntKind.i64.wrap (8 * (nL : Int)) = 8 * nL := by rw [IntKind.wrap_i64]; omega
      have wk2 : IntKind.i64.wrap (16 + 8 * (nL : Int)) = 16 + 8 * nL := by rw [IntKind.wrap_i64]; omega
      go_wp2_with fail
      go_region_held3 (fun w' => w'.cell? ⟨bA, offA + k * 2, none⟩ = some (.slice oL nL cL) ∧ w'.cell? ⟨bA, offA + k * 2 + 1, none⟩ = some (.int .i64 x.2)) (first | exact ⟨u1, u2⟩ | exact ⟨t1, t2⟩ | exact ⟨s1, s2⟩ | exact ⟨r1, r2⟩) (first
        | (go_at_call 12; go_fit (HCO.out _ _ tb); rintro e wq ⟨rfl, ⟨u1, u2⟩, ub⟩)
        | (go_at_call 12; go_fit (HCO.out _ _ sb); rintro e wq ⟨rfl, ⟨t1, t2⟩, tb⟩)
        | (go_at_call 12; go_fit (HCO.out _ _ rb); rintro e wq ⟨rfl, ⟨s1, s2⟩, sb⟩))
      have HB4 := Lib.hid (HB.out.trans (ub.out.mono HB.out.size))
      clear HCO r1 r2 s1 s2 t1 t2 u1 u2 rb sb tb ub
      go_wp2
      go_roundw
      case rel => exact ⟨k + 1, b ++ s, by go_num, by omega, rfl, HS2, by omega, HB4⟩
      case measure => simp [Go.RowKit.intOf]; omega
    · have j1 : (m : Int) ≤ k := by omega
      have HC2 := Lib.hid (show b.data.toList = catR (R.drop 0) by rw [HC.out, List.take_of_length_le (by rw [HM.out]; omega), List.drop_zero])
      have hb2 : b.size ≤ 246180 := by have : k = m := by omega
                                       subst this; omega
      have HBA := HB
      clear HC hbs HB
      go_wp2
      go_loopw [6, 10, 11, 12, 13, 14] (fun v6 v10 v11 v12 v13 v14 wr => ∃ (k : Nat) (b : ByteArray) (us : List (List Value)), v11 = .int .i64 k ∧ k ≤ m ∧ v6 = .string b ∧ Hid (b.data.toList = catR (R.drop k)) ∧ b.size ≤ 246180 ∧ Hid (OwnR wr w3.heap.size v10 us (R.take k)) ∧ Hid (Below w3.heap.size w3 wr)) (fun _ _ v11 _ _ _ _ => m - (Go.RowKit.intOf v11).toNat)
      case atStart => exact ⟨0, b, [], rfl, Nat.zero_le _, rfl, HC2, hb2, OwnG.nil _ _, HBA⟩
      case round =>
        rename_i vR
        clear HBA HC2 hb2
        obtain ⟨k, b, us, rfl, hk, rfl, HC, hbs, HO, HB⟩ := hrel
        by_cases hkm : k < m
        · have j1 : (k : Int) < m := by omega
          obtain ⟨x, hx⟩ := get_ltG HM.out hkm
          have hok := HRO.out x (List.mem_of_getElem? hx)
          obtain ⟨r, hr⟩ : ∃ r : ByteArray, ⟨(catR (R.drop (k + 1))).toArray⟩ = r := ⟨_, rfl⟩
          have hrd : r.data.toList = catR (R.drop (k + 1)) := by rw [← hr, str_data]
          have hbe : b = putS x.1 x.2 ++ r := bytes_ext (by
            rw [app_data, HC.out, catR_drop hx, hrd]; unfold putS; rw [if_pos hok, str_data])
          have hrs : r.size ≤ 246180 := by
            have := congrArg ByteArray.size hbe
            rw [ByteArray.size_append] at this; omega
          obtain ⟨nL, hnL⟩ : ∃ nL, x.1.length = nL := ⟨_, rfl⟩
          have hn8 : nL ≤ 8 := by rw [← hnL]; exact right_len (okR_right hok).1
          have HG := Lib.hid (fun (W : World) => (show Calls Try.prog 13 #[.string b] W fun e w' => (∃ o c, e = .returned (.tuple #[.agg #[.slice o nL c, .int .i64 x.2], .string r, .int .i64 0]) ∧ w'.ownsRow W.heap.size 41 2 (.slice o nL c) nL (flatL x.1)) ∧ Below W.heap.size W w' from by
            have h0 := get_any b W (by omega)
            refine h0.mono ?_
            rintro e w' ⟨h1, h2⟩
            rw [hbe] at h1
            have h3 := got_put hok h1
            rw [hnL] at h3
            exact ⟨h3, h2⟩))
          have HRD := Lib.hid hrd
          have HX := Lib.hid hx
          have HNL := Lib.hid hnL
          obtain ⟨nU, hnU⟩ : ∃ nU, us.length = nU := ⟨_, rfl⟩
          have hnk : nU = k := by rw [← hnU, HO.out.len, List.length_take, HM.out]; omega
          have HUL := Lib.hid hnU
          clear hr hrd hbe hx hnL hok
          go_wp2_with fail
          refine (HG.out _).mono ?_
          rintro e w5 ⟨⟨oL, cL, rfl, hOL⟩, b5⟩
          have hB5 := HB.out.trans (b5.mono HB.out.size)
          have hz5 := hB5.size
          have hO5 := HO.out.below frow b5
          have hX1 := (Below.refl w5.heap.size w5).alloc (Nat.le_refl _) (Obj.cells #[Value.slice oL nL cL, Value.int .i64 x.2] 24)
          have hX2 := hX1.alloc hX1.size (Obj.cells #[Value.slice oL nL cL, Value.int .i64 x.2] 24)
          have HB7 := Lib.hid (hB5.trans (hX2.mono hz5))
          have HO7 := Lib.hid (hO5.below frow hX2)
          have HLb := Lib.hid (own_grown hOL hX2)
          have hlim : us.length ≤ 60 := by rw [hnU]; omega
          clear hO5 hOL b5 hB5 hX1 hX2 HG
          go_wp2_with (at_builtin; go_must (refine wpList_append_own _ rfl _ _ 32 rfl w3.heap.size 24 i0 (.agg #[.slice none 0 0, .int .i64 0]) 2 32 Try.underlying32 hi hz0 hz1 hz2 rfl (by decide) _ _ _ rfl HO7.out.own ⟨w5.heap.size + 1, 0, none⟩ 1 1 [.slice oL nL cL, .int .i64 x.2] rfl rfl (cells_k2 w5 _ _ _) (by intro v hv; simp at hv; rcases hv with rfl | rfl <;> rfl) (by unfold maxLen; omega) (by omega) (by simp; omega) ?_); intro v' w8 hown' hgrow8 hnil8)
          have HB8 := Lib.hid (Below.grown HB7.out hgrow8 (by
            rw [show ((w5.alloc (Obj.cells #[Value.slice oL nL cL, Value.int .i64 x.2] 24)).alloc (Obj.cells #[Value.slice oL nL cL, Value.int .i64 x.2] 24)).heap.size = w5.heap.size + 1 + 1 from (Array.size_push _).trans (by rw [show (w5.alloc (Obj.cells #[Value.slice oL nL cL, Value.int .i64 x.2] 24)).heap.size = w5.heap.size + 1 from Array.size_push _])]
            omega) (fun j hj => (HO7.out.own.lt j hj).1))
          have HO8 := Lib.hid (show OwnR w8 w3.heap.size v' (us ++ [[.slice oL nL cL, .int .i64 x.2]]) (R.take (k + 1)) by
            rw [List.take_add_one, HX.out]
            exact OwnG.snoc frow (Nat.zero_le _) HO7.out ⟨oL, cL, by rw [HNL.out], labS_own HLb.out HNL.out, by rw [HNL.out]; unfold maxLen; omega⟩ hown' hgrow8)
          clear hown' hgrow8 hnil8 HO7 HB7 HLb
          go_roundw
          case rel => exact ⟨k + 1, r, _, by go_num, by omega, rfl, HRD, hrs, HO8, HB8⟩
          case measure => simp [Go.RowKit.intOf]; omega
        · have j1 : (m : Int) ≤ k := by omega
          have hbe : b = ⟨#[]⟩ := bytes_ext (by
            rw [HC.out, List.drop_eq_nil_of_le (by rw [HM.out]; omega)]; rfl)
          subst hbe
          have HO2 := Lib.hid (show OwnR wr w3.heap.size u10 us R by
            have := HO.out
            rwa [List.take_of_length_le (by rw [HM.out]; omega)] at this)
          obtain ⟨oR, cR, rfl, hsR, _⟩ := HO2.out.sees frow
          rw [HM.out]
          have HSa := Lib.hid (show Calls Try.prog 9 #[.slice oR m cR, .slice oa m ca] wr fun e w' => e = .returned (.bool true) ∧ Below wr.heap.size wr w' from by
            have h0 := rsame_any oR oa m m cR ca R R wr 0 HM.out HM.out (by unfold maxLen; omega) (by unfold maxLen; omega) hsR (HS3.out.below frow HB.out)
            rwa [(sameR_iff R R).2 rfl] at h0)
          clear hsR HC hbs HO
          go_wp2_with fail
          refine HSa.out.mono ?_
          rintro e w9 ⟨rfl, b9⟩
          have HB9 := Lib.hid (HB3.out.trans ((HB.out.trans (b9.mono HB.out.size)).mono HB3.out.size))
          clear b9
          go_wp2
          go_ret
          exact ⟨rfl, HB9.out⟩
end Go.Proofs.Ythjifpdiekoomaa.Row
