/- Groups: the walk of the statement on no row, and on one. -/
import Derived.Test.YtbdnonphkobkoaaGreatGsg
import Derived.Test.YtbdnonphkobkoaaGreatGsv
namespace Go.Proofs.YtbdnonphkobkoaaGreat.Grp
open Go.RowKit Go.Lib Go.Sort Vec Fix

theorem do_none {name : ByteArray} {n : Int} {a : Nat × Int} (ha : aggF name n = some a) (W : World) :
    Calls Tryz.prog 29 #[.string name, .int .i64 n, .int .i64 0, .slice none 0 0, .slice none 0 0] W fun e w' => (∃ o c, e = .returned (.tuple #[.slice o 0 c, .int .i64 0])) ∧ Below W.heap.size W w' := by
  refine (do_ok name n 0 none none 0 0 0 0 [] [] W a ha (fun g hg => by rw [split_nil] at hg; cases hg) rfl rfl rfl (small_right rfl) (by decide) (by decide) 0 (Nat.zero_le _) (.inl rfl) (seesNil _)).mono ?_
  rintro e w' ⟨⟨v, us, s, rfl, ho, hp, _⟩, hb⟩
  rw [rows_none] at hp
  obtain rfl := hp.eq_nil
  obtain ⟨o', c', rfl, _, _⟩ := ho.sees (frow (B := 0))
  exact ⟨⟨o', c', rfl⟩, hb⟩
theorem do_single {name : ByteArray} {n : Int} {a : Nat × Int} (ha : aggF name n = some a) (y : Rw) (hy : rightR [y] = true) (o : Option Addr) (c : Nat) (W : World) (hS : RowsS W 0 o [y]) :
    Calls Tryz.prog 29 #[.string name, .int .i64 n, .int .i64 0, .slice none 0 0, .slice o 1 c] W fun e w' => (∃ b off c' oL cL, e = .returned (.tuple #[.slice (some ⟨b, off, none⟩) 1 c', .int .i64 0]) ∧ w'.cell? ⟨b, off, none⟩ = some (.slice oL (rowOne a y).1.length cL) ∧ w'.cell? ⟨b, off + 1, none⟩ = some (.int .i64 (rowOne a y).2)) ∧ Below W.heap.size W w' := by
  obtain ⟨h7, h6, h5⟩ := agg_ok ha
  have hz := ((right_fit hy).2.1 y (by simp)).2
  refine (do_ok name n 0 none o 0 0 1 c [] [y] W a ha (fun g hg => by rw [split_one (by simp)] at hg; simp at hg; subst hg; rw [reck_one h7 h6 h5 hz]) rfl rfl hy (small_right hy) (by decide) (by decide) 0 (Nat.zero_le _) hS (seesNil _)).mono ?_
  rintro e w' ⟨⟨v, us, s, rfl, ho, hp, _⟩, hb⟩
  rw [rows_one h7 h6 h5 hz] at hp
  obtain rfl := List.perm_singleton.1 hp
  obtain ⟨o', c', rfl, hs, _⟩ := ho.sees (frow (B := 0))
  obtain ⟨b, off, rfl, hR⟩ := hs.at (j := 0) rfl
  obtain ⟨oL, cL, q0, q1, _, _⟩ := row_at (j := 0) hR rfl
  simp only [Nat.zero_mul, Nat.add_zero] at q0 q1
  exact ⟨⟨b, off, c', oL, cL, rfl, q0, q1⟩, hb⟩

set_option maxHeartbeats 16000000 in
set_option maxRecDepth 100000 in
theorem none_any (name : ByteArray) (n : Int) (o : Option Addr) (nl c : Nat) (l : Labs) (v : Int) (w : World) (hn : l.length = nl) (hl : l.length ≤ maxLen) (hS : LabS w w.heap.size o l) :
    Calls Tryz.prog 7 #[.string name, .int .i64 n, .agg #[.slice o nl c, .int .i64 v]] w fun e w' => e = .returned (.bool true) ∧ Below w.heap.size w w' := by
  have HAl := Lib.hid (fun W => alive_any W)
  have hb0 : Below w.heap.size w (w.alloc (Obj.cells #[.slice o nl c, .int .i64 v] 53)) := (Below.refl _ _).alloc (Nat.le_refl _) _
  by_cases g1 : n < 1
  · clear hS hn hl
    go_enter Tryz.func7, Tryz.ntmps7
    go_wp2_with fail
    refine (HAl.out _).mono ?_
    rintro e w1 ⟨rfl, b1⟩
    go_wp2
    go_ret
    exact ⟨rfl, hb0.trans (b1.mono hb0.size)⟩
  by_cases g2 : 100 < n
  · clear hS hn hl
    go_enter Tryz.func7, Tryz.ntmps7
    go_wp2_with fail
    refine (HAl.out _).mono ?_
    rintro e w1 ⟨rfl, b1⟩
    go_wp2
    go_ret
    exact ⟨rfl, hb0.trans (b1.mono hb0.size)⟩
  obtain ⟨W0, hW0⟩ : ∃ W0, w.alloc (Obj.cells #[.slice o nl c, .int .i64 v] 53) = W0 := ⟨_, rfl⟩
  rw [hW0] at hb0
  have HB0 := Lib.hid hb0
  have HS0 := Lib.hid (hS.below hb0)
  have hz0 : W0.heap.size = w.heap.size + 1 := by rw [← hW0]; simp
  have HBX := Lib.hid (show ∀ W, Below W0.heap.size W0 W → W.cell? ⟨w.heap.size, 0, none⟩ = some (.slice o nl c) ∧ W.cell? ⟨w.heap.size, 1, none⟩ = some (.int .i64 v) from by
    intro W h; rw [← hW0] at h; exact ⟨boxk w _ _ W h 0 _ rfl, boxk w _ _ W h 1 _ rfl⟩)
  have HLt := Lib.hid (lightR_any (some ⟨W0.heap.size, 0, none⟩) 1 1 [(l, v)] (W0.alloc (Obj.cells #[.slice o nl c, .int .i64 v] 53)) _ rfl (row_one (c := c) hn hl HS0.out))
  have HBA := Lib.hid (show Below W0.heap.size W0 (W0.alloc (Obj.cells #[.slice o nl c, .int .i64 v] 53)) from (Below.refl _ _).alloc (Nat.le_refl _) _)
  have HW0 := Lib.hid hW0
  cases hlt : lightR [(l, v)] with
  | false =>
    rw [hlt] at HLt
    clear hS hn hl hlt hb0 hW0
    go_enter Tryz.func7, Tryz.ntmps7
    go_wp2_with fail
    rw [HW0.out, ← hz0]
    refine HLt.out.mono ?_
    rintro e w1 ⟨rfl, b1⟩
    have HB1 := Lib.hid (HBA.out.trans (b1.mono HBA.out.size))
    clear b1
    go_wp2_with fail
    refine (HAl.out _).mono ?_
    rintro e w2 ⟨rfl, b2⟩
    go_wp2
    go_ret
    exact ⟨rfl, HB0.out.trans ((HB1.out.trans (b2.mono HB1.out.size)).mono HB0.out.size)⟩
  | true =>
  obtain ⟨_, hsm⟩ := lightR_mk hlt
  rw [hlt] at HLt
  have har := vecT_right [(l, v)]
  have hv1 := vec_one (l, v)
  have HTa := Lib.hid (fun W (hb : Below W0.heap.size W0 W) => ltidy_any (some ⟨W.heap.size, 0, none⟩) 1 1 [(l, v)] (W.alloc (Obj.cells #[.slice o nl c, .int .i64 v] 53)) _ rfl (by decide) hsm (row_one (c := c) hn hl (HS0.out.below hb)))
  obtain ⟨a, ha⟩ : ∃ a, vecT [(l, v)] = a := ⟨_, rfl⟩
  rw [ha] at har hv1 HTa
  have HAR := Lib.hid har
  have HV1 := Lib.hid hv1
  have hal : a.length ≤ 1 := by rcases hv1 with rfl | ⟨y, rfl, _⟩ <;> simp
  obtain ⟨na, hna⟩ : ∃ na, a.length = na := ⟨_, rfl⟩
  have HNA := Lib.hid hna
  clear hS hn hl hlt hsm har hv1 ha hb0 hW0 HS0
  cases hg : aggF name n with
  | none =>
    have HD1 := Lib.hid (fun W => do_bad name n 0 none none 0 0 0 0 [] W rfl (by decide) 0 (.inl rfl) (.inl hg))
    have HD2 := Lib.hid (fun W o' c' (s : RowsS W 0 o' a) => do_bad name n 0 none o' 0 0 na c' a W hna (by unfold maxLen; omega) 0 s (.inl hg))
    clear hg hna
    go_enter Tryz.func7, Tryz.ntmps7
    go_wp2_with fail
    rw [HW0.out, ← hz0]
    refine HLt.out.mono ?_
    rintro e w1 ⟨rfl, b1⟩
    have HB1 := Lib.hid (HBA.out.trans (b1.mono HBA.out.size))
    clear b1
    go_wp2_with fail
    refine (HAl.out _).mono ?_
    rintro e w2 ⟨rfl, b2⟩
    have HB2 := Lib.hid (HB1.out.trans (b2.mono HB1.out.size))
    clear b2 HB1
    go_wp2_with fail
    refine (HD1.out _).mono ?_
    rintro e w3 ⟨rfl, b3⟩
    have HB3 := Lib.hid (HB2.out.trans (b3.mono HB2.out.size))
    obtain ⟨x0, x1⟩ := HBX.out _ HB3.out
    clear b3 HB2
    go_wp2_with fail
    refine (HTa.out _ HB3.out).mono ?_
    rintro e w4 ⟨⟨va, usa, rfl, hoa⟩, b4⟩
    obtain ⟨oA, cA, rfl, hsA, _⟩ := hoa.sees (frow (B := 0))
    rw [HNA.out]
    have HB4 := Lib.hid (HB3.out.trans ((((Below.refl _ _).alloc (Nat.le_refl _) (Obj.cells #[.slice o nl c, .int .i64 v] 53)).trans (b4.mono (by simp))).mono HB3.out.size))
    have HSA := Lib.hid hsA
    clear b4 hoa hsA HB3 x0 x1
    go_wp2_with fail
    refine (HD2.out _ oA cA HSA.out).mono ?_
    rintro e w5 ⟨rfl, b5⟩
    go_wp2
    go_ret
    exact ⟨rfl, HB0.out.trans ((HB4.out.trans (b5.mono HB4.out.size)).mono HB0.out.size)⟩
  | some ag =>
    have HD1 := Lib.hid (fun W => do_none hg W)
    rcases HV1.out with e0 | ⟨y, e0, hy⟩
    · subst e0
      obtain rfl : na = 0 := by rw [← hna]; rfl
      have HD2 := Lib.hid (fun W oA cA (hsA : RowsS W 0 oA []) => do_ok name n 0 none oA 0 0 0 cA [] [] W ag hg (fun g hg => by rw [split_nil] at hg; cases hg) rfl rfl rfl (small_right rfl) (by decide) (by decide) 0 (Nat.zero_le _) hsA (seesNil _))
      clear hna hal hg
      go_enter Tryz.func7, Tryz.ntmps7
      go_wp2_with fail
      rw [HW0.out, ← hz0]
      refine HLt.out.mono ?_
      rintro e w1 ⟨rfl, b1⟩
      have HB1 := Lib.hid (HBA.out.trans (b1.mono HBA.out.size))
      clear b1
      go_wp2_with fail
      refine (HAl.out _).mono ?_
      rintro e w2 ⟨rfl, b2⟩
      have HB2 := Lib.hid (HB1.out.trans (b2.mono HB1.out.size))
      clear b2 HB1
      go_wp2_with fail
      refine (HD1.out _).mono ?_
      rintro e w3 ⟨⟨oX, cX, rfl⟩, b3⟩
      have HB3 := Lib.hid (HB2.out.trans (b3.mono HB2.out.size))
      obtain ⟨x0, x1⟩ := HBX.out _ HB3.out
      clear b3 HB2
      go_wp2_with fail
      refine (HTa.out _ HB3.out).mono ?_
      rintro e w4 ⟨⟨va, usa, rfl, hoa⟩, b4⟩
      obtain ⟨oA, cA, rfl, hsA, _⟩ := hoa.sees (frow (B := 0))
      have HB4 := Lib.hid (HB3.out.trans ((((Below.refl _ _).alloc (Nat.le_refl _) (Obj.cells #[.slice o nl c, .int .i64 v] 53)).trans (b4.mono (by simp))).mono HB3.out.size))
      have HSA := Lib.hid hsA
      clear b4 hoa hsA HB3 x0 x1
      go_wp2_with fail
      refine (HD2.out _ oA cA HSA.out).mono ?_
      rintro e w5 ⟨⟨v5, us5, s5, rfl, _, _, _⟩, b5⟩
      go_wp2
      go_ret
      exact ⟨rfl, HB0.out.trans ((HB4.out.trans (b5.mono HB4.out.size)).mono HB0.out.size)⟩
    · subst e0
      obtain rfl : na = 1 := by rw [← hna]; rfl
      have HD2 := Lib.hid (fun W o' c' (s : RowsS W 0 o' [y]) => do_single hg y HAR.out o' c' W s)
      have h4 := agg_four hg
      have h6 := agg_six hg
      obtain ⟨z, hz⟩ : ∃ z, (rowOne ag y).2 = z := ⟨_, rfl⟩
      obtain ⟨m, hm⟩ : ∃ m, (rowOne ag y).1.length = m := ⟨_, rfl⟩
      rw [hz, hm] at HD2
      have hcase : (name = ⟨#[99, 111, 117, 110, 116]⟩ ∧ m = 0 ∧ z = 1) ∨ (name = ⟨#[116, 111, 112, 107]⟩ ∧ z = y.2) ∨ ((name.toList == [99, 111, 117, 110, 116]) = false ∧ (name.toList == [116, 111, 112, 107]) = false ∧ m = 0 ∧ z = y.2) := by
        unfold rowOne at hz hm
        by_cases c4 : ag.1 = 4
        · rw [if_neg (by omega)] at hz hm
          rw [if_pos c4] at hz
          exact .inl ⟨h4.1 c4, hm.symm, hz.symm⟩
        · by_cases c6 : ag.1 = 6
          · rw [if_pos c6] at hz
            exact .inr (.inl ⟨h6.1 c6, hz.symm⟩)
          · rw [if_neg c6] at hz hm
            rw [if_neg c4] at hz
            exact .inr (.inr ⟨bytes_ne _ fun e => c4 (h4.2 e), bytes_ne _ fun e => c6 (h6.2 e), hm.symm, hz.symm⟩)
      clear hna hal hg hz hm h4 h6 hy
      rcases hcase with ⟨rfl, rfl, rfl⟩ | ⟨rfl, rfl⟩ | ⟨f1, f2, rfl, rfl⟩
      all_goals
        go_enter Tryz.func7, Tryz.ntmps7
        go_wp2_with fail
        rw [HW0.out, ← hz0]
        refine HLt.out.mono ?_
        rintro e w1 ⟨rfl, b1⟩
        have HB1 := Lib.hid (HBA.out.trans (b1.mono HBA.out.size))
        clear b1
        go_wp2_with fail
        refine (HAl.out _).mono ?_
        rintro e w2 ⟨rfl, b2⟩
        have HB2 := Lib.hid (HB1.out.trans (b2.mono HB1.out.size))
        clear b2 HB1
        go_wp2_with fail
        refine (HD1.out _).mono ?_
        rintro e w3 ⟨⟨oX, cX, rfl⟩, b3⟩
        have HB3 := Lib.hid (HB2.out.trans (b3.mono HB2.out.size))
        obtain ⟨x0, x1⟩ := HBX.out _ HB3.out
        clear b3 HB2
        go_wp2_with fail
        refine (HTa.out _ HB3.out).mono ?_
        rintro e w4 ⟨⟨va, usa, rfl, hoa⟩, b4⟩
        obtain ⟨oA, cA, rfl, hsA, _⟩ := hoa.sees (frow (B := 0))
        have HB4 := Lib.hid (HB3.out.trans ((((Below.refl _ _).alloc (Nat.le_refl _) (Obj.cells #[.slice o nl c, .int .i64 v] 53)).trans (b4.mono (by simp))).mono HB3.out.size))
        have HSA := Lib.hid hsA
        clear b4 hoa hsA HB3 x0 x1
        go_wp2_with fail
        refine (HD2.out _ oA cA HSA.out).mono ?_
        rintro e w5 ⟨⟨b, off, c', oL, cL, rfl, q0, q1⟩, b5⟩
        obtain ⟨ba, offa, rfl, hRa⟩ := (HSA.out.below frow b5).at (j := 0) rfl
        obtain ⟨_, _, _, p1, _, _⟩ := row_at (j := 0) hRa rfl
        simp only [Nat.zero_mul, Nat.add_zero] at p1
        have HB5 := Lib.hid (HB0.out.trans ((HB4.out.trans (b5.mono HB4.out.size)).mono HB0.out.size))
        clear b5 HB4 hRa HSA
      · go_wp2
        go_ret
        exact ⟨rfl, HB5.out⟩
      · by_cases t0 : (0 : Int) < m
        · go_wp2
          go_ret
          exact ⟨rfl, HB5.out⟩
        · go_wp2
          go_ret
          exact ⟨rfl, HB5.out⟩
      · go_wp2
        go_ret
        exact ⟨rfl, HB5.out⟩
end Go.Proofs.YtbdnonphkobkoaaGreat.Grp
