/- The law: every row's bytes, every bytes' row. -/
import Derived.Test.YthjifpdiekoomaaGreatYk
import Derived.Test.YthjifpdiekoomaaGreatZb
import Derived.Test.YthjifpdiekoomaaGreatZm
import Derived.Deep.QuietTactic
namespace Go.Proofs.YthjifpdiekoomaaGreat.Row
open Go.RowKit Go.Lib Go.Proofs.YthjifpdiekoomaaGreat.Vec

/-- Is there a row; its error; its labels, its number, what stands behind it. -/
def gIs (l : List UInt8) : Bool := (getR l).isSome
def gXs (l : List UInt8) : List Lab := match getR l with | none => [] | some p => p.1
def gV (l : List UInt8) : Int := match getR l with | none => 0 | some p => p.2.1
def gR (l : List UInt8) : ByteArray := match getR l with | none => ⟨#[]⟩ | some p => ⟨p.2.2.toArray⟩
theorem got_form {B : Nat} {l : List UInt8} {e : Ending} {w' : World} (h : GotR B l e w') : ∃ o c, e = .returned (.tuple #[.agg #[.slice o (gXs l).length c, .int .i64 (gV l)], .string (gR l), .int .i64 (if gIs l then 0 else 2)]) ∧ w'.ownsRow B 58 2 (.slice o (gXs l).length c) (gXs l).length (flatL (gXs l)) := by
  unfold GotR at h
  unfold gXs gV gR gIs
  cases hg : getR l with
  | none =>
    rw [hg] at h
    exact ⟨none, 0, h, World.ownsRow_nil _ _ _ _⟩
  | some p =>
    rw [hg] at h
    exact h
theorem dgot_form {B : Nat} {l : List UInt8} {e : Ending} {w' : World} (h : DGot B l e w') : ∃ o c, e = .returned (.tuple #[.agg #[.slice o (gXs l).length c, .int .i64 (gV l)], .string (gR l), .bool (gIs l)]) ∧ w'.ownsRow B 58 2 (.slice o (gXs l).length c) (gXs l).length (flatL (gXs l)) := by
  unfold DGot at h
  unfold gXs gV gR gIs
  cases hg : getR l with
  | none =>
    rw [hg] at h
    exact ⟨none, 0, h, World.ownsRow_nil _ _ _ _⟩
  | some p =>
    rw [hg] at h
    exact h
theorem gXs_len (l : List UInt8) : (gXs l).length ≤ 8 := by
  unfold gXs
  cases hg : getR l with
  | none => exact Nat.zero_le _
  | some p =>
    unfold getR at hg
    split at hg
    · cases hg
    · split at hg
      · cases hg
      · split at hg
        · cases hg
        · split at hg
          · next hr =>
            cases hg
            rw [Bool.and_eq_true] at hr
            exact right_len hr.1
          · cases hg

set_option maxHeartbeats 32000000 in
set_option maxRecDepth 100000 in
theorem tells_any (o o2 : Option Addr) (n c n2 c2 : Nat) (v : Int) (xs : List Lab) (b : ByteArray) (ls : List Rw) (w : World) (BL : Nat) (hn : xs.length = n) (hm : n ≤ maxLen) (hcap : o = none → c = 0) (hS : SeesO w o xs) (hbm : b.size ≤ maxLen) (hn2 : ls.length = n2) (hm2 : n2 ≤ maxLen) (hL : RowsS w BL o2 ls) :
    Calls Tryz.prog 3 #[.agg #[.slice o n c, .int .i64 v], .string b, .slice o2 n2 c2] w fun e w' => e = .returned (.bool true) ∧ Below w.heap.size w w' := by
  have HAL := Lib.hid (fun W => alive_any W)
  have HL1 := Lib.hid (fun (W : World) (hb : Below w.heap.size w W) => (show Calls Tryz.prog 4 #[.slice o n c] W fun e w' => e = .returned (.bool (lightB xs)) ∧ Below W.heap.size W w' from by
    have := light_any o c xs W (by omega) (hS.below hb)
    rwa [hn] at this))
  have HL2 := Lib.hid (fun (W : World) (hb : Below w.heap.size w W) => lightR_any o2 n2 c2 ls W BL hn2 (hL.below frow hb))
  have hbx := box_row w (.slice o n c) (.int .i64 v) 24
  obtain ⟨W0, hW0⟩ : ∃ W0, w.alloc (Obj.cells #[Value.slice o n c, Value.int .i64 v] 24) = W0 := ⟨_, rfl⟩
  rw [hW0] at hbx
  have HB0 := Lib.hid (show Below w.heap.size w W0 by rw [← hW0]; exact (Below.refl _ _).alloc (Nat.le_refl _) _)
  have hz0 : W0.heap.size = w.heap.size + 1 := by rw [← hW0]; exact Array.size_push _
  have HW0 := Lib.hid hW0
  have HX := Lib.hid hbx
  clear hW0 hbx
  unfold maxLen at hbm
  cases hl1 : lightB xs with
  | false =>
    rw [hl1] at HL1
    clear hn hm hcap hS hn2 hm2 hL
    go_enter Tryz.func3, Tryz.ntmps3
    go_wp2_with fail
    rw [HW0.out]
    refine (HL1.out _ HB0.out).mono ?_
    rintro e w1 ⟨rfl, b1⟩
    have HB1 := Lib.hid (HB0.out.trans (b1.mono HB0.out.size))
    clear b1
    go_wp2_with fail
    refine (HAL.out _).mono ?_
    rintro e w2 ⟨rfl, b2⟩
    have HB2 := Lib.hid (HB1.out.trans (b2.mono HB1.out.size))
    clear b2
    go_wp2
    go_ret
    exact ⟨rfl, HB2.out⟩
  | true =>
  rw [hl1] at HL1
  by_cases hb3 : b.size ≤ 3000
  case neg =>
    have j1 : (3000 : Int) < b.size := by omega
    clear hn hm hcap hS hn2 hm2 hL hb3
    go_enter Tryz.func3, Tryz.ntmps3
    go_wp2_with fail
    rw [HW0.out]
    refine (HL1.out _ HB0.out).mono ?_
    rintro e w1 ⟨rfl, b1⟩
    have HB1 := Lib.hid (HB0.out.trans (b1.mono HB0.out.size))
    clear b1
    go_wp2_with fail
    refine (HAL.out _).mono ?_
    rintro e w2 ⟨rfl, b2⟩
    have HB2 := Lib.hid (HB1.out.trans (b2.mono HB1.out.size))
    clear b2
    go_wp2
    go_ret
    exact ⟨rfl, HB2.out⟩
  have j1 : (b.size : Int) ≤ 3000 := by omega
  cases hl2 : lightR ls with
  | false =>
    rw [hl2] at HL2
    clear hn hm hcap hS hn2 hm2 hL
    go_enter Tryz.func3, Tryz.ntmps3
    go_wp2_with fail
    rw [HW0.out]
    refine (HL1.out _ HB0.out).mono ?_
    rintro e w1 ⟨rfl, b1⟩
    have HB1 := Lib.hid (HB0.out.trans (b1.mono HB0.out.size))
    clear b1
    go_wp2_with fail
    refine (HL2.out _ HB1.out).mono ?_
    rintro e w2 ⟨rfl, b2⟩
    have HB2 := Lib.hid (HB1.out.trans (b2.mono HB1.out.size))
    clear b2
    go_wp2_with fail
    refine (HAL.out _).mono ?_
    rintro e w3 ⟨rfl, b3⟩
    have HB3 := Lib.hid (HB2.out.trans (b3.mono HB2.out.size))
    clear b3
    go_wp2
    go_ret
    exact ⟨rfl, HB3.out⟩
  | true =>
  rw [hl2] at HL2
  obtain ⟨hx20, hxs⟩ := light_small hl1
  obtain ⟨hl60, _⟩ := lightR_mk hl2
  have hx6 : xs.length ≤ 1000000 := by omega
  -- the calls
  have HLL := Lib.hid (fun W (h : Below w.heap.size w W) => (show Calls Tryz.prog 7 #[.slice o n c] W fun e w' => (∃ g c, e = .returned (.slice (some ⟨g, 0, none⟩) n c) ∧ LentL w' g c xs) ∧ Below W.heap.size W w' by
    have := lentL_any o c xs hx6 hcap W (hS.below h)
    rw [hn] at this; exact this))
  have HPU := Lib.hid (fun W g c2 (h : LentL W g c2 xs) => rput_any (some ⟨g, 0, none⟩) n c2 xs v W hn hm h.sees)
  have HDR := Lib.hid (fun W (h : Below w.heap.size w W) => drow_any o n c xs v W hn (by omega) hxs (hS.below h))
  have HCO := Lib.hid (fun W (h : Below w.heap.size w W) => cost_any o n c xs v W hn (by omega) hxs (hS.below h))
  have HDC := Lib.hid (fun W (h : Below w.heap.size w W) => dcost_any o n c xs v W hn (by omega) hxs (hS.below h))
  have HDP := Lib.hid (fun W (hok : okR xs v = true) (h : Below w.heap.size w W) => dput_any o n c xs v W hn hok (hS.below h))
  have HST := Lib.hid (fun W g c2 (hL : LentL W g c2 xs) (h : Below w.heap.size w W) => (show Calls Tryz.prog 13 #[.slice (some ⟨g, 0, none⟩) n c2, .slice o n c] W fun e w' => e = .returned (.bool true) ∧ Below W.heap.size W w' by
    have := staysL_any g c2 o c xs hx6 W hL (hS.below h)
    rw [hn] at this; exact this))
  have HSA := Lib.hid (fun W (h : Below w.heap.size w W) => rsame_any o2 o2 n2 n2 c2 c2 ls ls W BL hn2 hn2 hm2 hm2 (hL.below frow h) (hL.below frow h))
  have HSN := Lib.hid (fun W (h : Below w.heap.size w W) => rsame_any o2 none n2 0 c2 0 ls [] W BL hn2 rfl hm2 (Nat.zero_le _) (hL.below frow h) (.inl rfl))
  have HSx := Lib.hid (fun W o3 n3 c3 (ys : List Lab) (h3 : ys.length = n3) (hm3 : n3 ≤ maxLen) (h : Below w.heap.size w W) (hs : SeesO W o3 ys) => (show Calls Tryz.prog 17 #[.slice o3 n3 c3, .slice o n c] W fun e w' => e = .returned (.bool (sameL ys xs)) ∧ Below W.heap.size W w' by
    have := sameLabels_any o3 o c3 c ys xs W (by omega) (by omega) hs (hS.below h)
    rwa [h3, hn] at this))
  -- the walk
  obtain ⟨q, hq⟩ : ∃ q, 16 + costL xs = q := ⟨_, rfl⟩
  rw [hq] at HCO HDC
  have hgx := gXs_len b.data.toList
  obtain ⟨xg, hxg⟩ : ∃ xg, gXs b.data.toList = xg := ⟨_, rfl⟩
  obtain ⟨vg, hvg⟩ : ∃ vg, gV b.data.toList = vg := ⟨_, rfl⟩
  obtain ⟨rg, hrg⟩ : ∃ rg, gR b.data.toList = rg := ⟨_, rfl⟩
  obtain ⟨ig, hig⟩ : ∃ ig, gIs b.data.toList = ig := ⟨_, rfl⟩
  rw [hxg] at hgx
  obtain ⟨fg, hfg⟩ : ∃ fg : Int, (if ig then 0 else 2) = fg := ⟨_, rfl⟩
  have HFG := Lib.hid hfg
  have HGE := Lib.hid (fun W => (get_any b W (by omega)).mono (R' := fun e w' => (∃ oX cX, e = .returned (.tuple #[.agg #[.slice oX xg.length cX, .int .i64 vg], .string rg, .int .i64 fg]) ∧ w'.ownsRow W.heap.size 58 2 (.slice oX xg.length cX) xg.length (flatL xg)) ∧ Below W.heap.size W w') (fun e w' h => by
    have h2 := got_form h.1
    rw [hxg, hvg, hrg, hig, hfg] at h2
    exact ⟨h2, h.2⟩))
  have HDG := Lib.hid (fun W => (dget_any b W (by omega)).mono (R' := fun e w' => (∃ oY cY, e = .returned (.tuple #[.agg #[.slice oY xg.length cY, .int .i64 vg], .string rg, .bool ig]) ∧ w'.ownsRow W.heap.size 58 2 (.slice oY xg.length cY) xg.length (flatL xg)) ∧ Below W.heap.size W w') (fun e w' h => by
    have h2 := dgot_form h.1
    rw [hxg, hvg, hrg, hig] at h2
    exact ⟨h2, h.2⟩))
  obtain ⟨ng, hng⟩ : ∃ ng, xg.length = ng := ⟨_, rfl⟩
  have HNG := Lib.hid hng
  rw [hng] at HGE HDG hgx
  have HSG := Lib.hid (fun W o3 c3 o4 c4 (hs : SeesO W o3 xg) (ht : SeesO W o4 xg) => (show Calls Tryz.prog 17 #[.slice o3 ng c3, .slice o4 ng c4] W fun e w' => e = .returned (.bool true) ∧ Below W.heap.size W w' by
    have := sameLabels_any o3 o4 c3 c4 xg xg W (by unfold maxLen; omega) (by unfold maxLen; omega) hs ht
    rwa [hng, sameL_refl] at this))
  have HZL := Lib.hid (show ((ls.length == 0) = sameR ls []) by cases ls <;> rfl)
  have HSL := Lib.hid (show sameR ls ls = true from (sameR_iff ls ls).2 rfl)
  have HSLX := Lib.hid (show sameL xs xs = true from sameL_refl xs)
  have hnn : n ≤ 20 := by omega
  have HXN := Lib.hid hn
  have HLN := Lib.hid hn2
  have hn60 : n2 ≤ 60 := by omega
  obtain ⟨zb, hzb⟩ : ∃ zb, sameR ls [] = zb := ⟨_, rfl⟩
  have hzn : ((n2 : Int) == 0) = zb := by
    rw [← hzb, ← HZL.out, ← hn2, Bool.eq_iff_iff, beq_iff_eq, beq_iff_eq]; omega
  clear hxg hvg hrg hig hfg hng hS hL hcap hxs hx20 hl60 hx6 hl1 hl2 hq hm hm2 hn hn2
  go_enter Tryz.func3, Tryz.ntmps3
  go_wp2_with fail
  rw [HW0.out]
  refine (HL1.out _ HB0.out).mono ?_
  rintro e w1 ⟨rfl, b1⟩
  have HB1 := Lib.hid (HB0.out.trans (b1.mono HB0.out.size))
  have HX1 := Lib.hid ((b1.block w.heap.size (by omega)).trans HX.out)
  have hz1 := b1.size
  clear b1
  go_wp2_with fail
  refine (HL2.out _ HB1.out).mono ?_
  rintro e w2 ⟨rfl, b2⟩
  have HB2 := Lib.hid (HB1.out.trans (b2.mono HB1.out.size))
  have HX2 := Lib.hid ((b2.block w.heap.size (by omega)).trans HX1.out)
  have hz2 := b2.size
  clear b2
  go_wp2_with fail
  refine (HAL.out _).mono ?_
  rintro e w3 ⟨rfl, b3⟩
  have HB3 := Lib.hid (HB2.out.trans (b3.mono HB2.out.size))
  have HX3 := Lib.hid ((b3.block w.heap.size (by omega)).trans HX2.out)
  have hz3 := b3.size
  obtain ⟨c0, c1⟩ := box_two HX3.out
  clear b3 HX1 HX2
  go_wp2_with fail
  refine (HLL.out _ HB3.out).mono ?_
  rintro e w4 ⟨⟨g, cg, rfl, hLT⟩, b4⟩
  have HB4 := Lib.hid (HB3.out.trans (b4.mono HB3.out.size))
  have HX4 := Lib.hid ((b4.block w.heap.size (by omega)).trans HX3.out)
  have HLT4 := Lib.hid hLT
  have hz4 := b4.size
  clear b4 c0 c1 hLT
  obtain ⟨c0, c1⟩ := box_two HX4.out
  go_wp2_with fail
  refine (HPU.out _ _ _ HLT4.out).mono ?_
  rintro e w5 ⟨rfl, b5⟩
  have HB5 := Lib.hid (HB4.out.trans (b5.mono HB4.out.size))
  have HX5 := Lib.hid ((b5.block w.heap.size (by omega)).trans HX4.out)
  have HLT5 := Lib.hid (HLT4.out.below b5)
  have hz5 := b5.size
  clear b5 c0 c1
  obtain ⟨c0, c1⟩ := box_two HX5.out
  go_wp2_with fail
  refine (HDR.out _ HB5.out).mono ?_
  rintro e w6 ⟨rfl, b6⟩
  have HB6 := Lib.hid (HB5.out.trans (b6.mono HB5.out.size))
  have HX6 := Lib.hid ((b6.block w.heap.size (by omega)).trans HX5.out)
  have HLT6 := Lib.hid (HLT5.out.below b6)
  have hz6 := b6.size
  clear b6 c0 c1 HX3 HX4 HX5 HLT4 HLT5 HB0 HB1 HB2 HB3 HB4 HB5
  obtain ⟨r1, r2⟩ := box_two (show w6.drew.heap[w.heap.size]? = _ from HX6.out)
  have rb := Lib.hid (Below.refl w6.heap.size w6).drew
  -- what is called while the answers are held against each other
  have hS6 : ∀ W, Below w6.heap.size w6 W → (W.cell? ⟨w.heap.size, 0, none⟩ = some (.slice o n c) ∧ W.cell? ⟨w.heap.size, 1, none⟩ = some (.int .i64 v)) := fun W h => box_two ((h.block w.heap.size (by omega)).trans HX6.out)
  have HC6 := Lib.hid (fun W (h : Below w6.heap.size w6 W) => (show Calls Tryz.prog 11 #[.agg #[.slice o n c, .int .i64 v]] W fun e w' => e = .returned (.int .i64 q) ∧ (w'.cell? ⟨w.heap.size, 0, none⟩ = some (.slice o n c) ∧ w'.cell? ⟨w.heap.size, 1, none⟩ = some (.int .i64 v)) ∧ Hid (Below w6.heap.size w6 w') from (HCO.out W (HB6.out.trans (h.mono HB6.out.size))).mono (fun e w' h2 => ⟨h2.1, hS6 _ (h.trans (h2.2.mono h.size)), h.trans (h2.2.mono h.size)⟩)))
  have HD6 := Lib.hid (fun W (h : Below w6.heap.size w6 W) => (show Calls Tryz.prog 12 #[.agg #[.slice o n c, .int .i64 v]] W fun e w' => e = .returned (.int .i64 q) ∧ (w'.cell? ⟨w.heap.size, 0, none⟩ = some (.slice o n c) ∧ w'.cell? ⟨w.heap.size, 1, none⟩ = some (.int .i64 v)) ∧ Hid (Below w6.heap.size w6 w') from (HDC.out W (HB6.out.trans (h.mono HB6.out.size))).mono (fun e w' h2 => ⟨h2.1, hS6 _ (h.trans (h2.2.mono h.size)), h.trans (h2.2.mono h.size)⟩)))
  have HT6 := Lib.hid (fun W (h : Below w6.heap.size w6 W) => (show Calls Tryz.prog 13 #[.slice (some ⟨g, 0, none⟩) n cg, .slice o n c] W fun e w' => e = .returned (.bool true) ∧ (w'.cell? ⟨w.heap.size, 0, none⟩ = some (.slice o n c) ∧ w'.cell? ⟨w.heap.size, 1, none⟩ = some (.int .i64 v)) ∧ Hid (Below w6.heap.size w6 w') from (HST.out W g cg (HLT6.out.below h) (HB6.out.trans (h.mono HB6.out.size))).mono (fun e w' h2 => ⟨h2.1, hS6 _ (h.trans (h2.2.mono h.size)), h.trans (h2.2.mono h.size)⟩)))
  cases hok : okR xs v with
  | true =>
    have hpe : putE xs v = 0 := by unfold putE; rw [hok]; rfl
    obtain ⟨s, hs⟩ : ∃ s, putS xs v = s := ⟨_, rfl⟩
    have hss : s.size ≤ 4103 := by rw [← hs]; exact putS_size xs v
    have HP6 := Lib.hid (fun W (h : Below w6.heap.size w6 W) => (show Calls Tryz.prog 10 #[.agg #[.slice o n c, .int .i64 v]] W fun e w' => e = .returned (.string s) ∧ (w'.cell? ⟨w.heap.size, 0, none⟩ = some (.slice o n c) ∧ w'.cell? ⟨w.heap.size, 1, none⟩ = some (.int .i64 v)) ∧ Hid (Below w6.heap.size w6 w') from by
      rw [← hs]
      exact (HDP.out W hok (HB6.out.trans (h.mono HB6.out.size))).mono (fun e w' h2 => ⟨h2.1, hS6 _ (h.trans (h2.2.mono h.size)), h.trans (h2.2.mono h.size)⟩)))
    rw [hpe, hs]
    have HGZ := Lib.hid (fun W => (get_any (s ++ b) W (by rw [ByteArray.size_append]; omega)).mono (R' := fun e w' => (∃ oZ cZ, e = .returned (.tuple #[.agg #[.slice oZ n cZ, .int .i64 v], .string b, .int .i64 0]) ∧ w'.ownsRow W.heap.size 58 2 (.slice oZ n cZ) n (flatL xs)) ∧ Below W.heap.size W w') (fun e w' h => by
      have h1 := h.1
      rw [← hs] at h1
      have h2 := got_put hok h1
      rw [HXN.out] at h2
      exact ⟨h2, h.2⟩))
    have ksb : ¬ (s.size + b.size > 9223372036854775807) := by omega
    clear hpe hok hs hS6 HCO HDC HDP HST HLL HPU HDR HL1 HL2 HAL
    go_wp2_with fail
    refine wp_region_held_drew (S := (fun V => V.cell? ⟨w.heap.size, 0, none⟩ = some (.slice o n c) ∧ V.cell? ⟨w.heap.size, 1, none⟩ = some (.int .i64 v))) (by kernel_rfl) (⟨r1, r2⟩) (fun hHeld => ?_)
    refine wpAnyH_take (i := 0) (v := ?_) rfl (by kernel_rfl) (by kernel_rfl) (by kernel_rfl) (fun _ _ _ h => h) (Or.inl ⟨by kernel_rfl, by intro w _; go_simp; try with_reducible rfl⟩) hHeld ?_
    go_simp
    refine wpAnyH_take (i := 1) (v := ?_) rfl (by kernel_rfl) (by kernel_rfl) (by kernel_rfl) (fun _ _ _ h => h) (Or.inl ⟨by kernel_rfl, by intro w _; go_simp; try with_reducible rfl⟩) hHeld ?_
    go_simp
    refine wpAnyH_take (i := 2) (v := ?_) rfl (by kernel_rfl) (by kernel_rfl) (by kernel_rfl) (fun _ _ _ h => h) (Or.inl ⟨by kernel_rfl, by intro w _; go_simp; try with_reducible rfl⟩) hHeld ?_
    go_simp
    refine wpAnyH_take (i := 3) (v := ?_) rfl (by kernel_rfl) (by kernel_rfl) (by kernel_rfl) (fun _ _ _ h => h) (Or.inl ⟨by kernel_rfl, by intro w _; go_simp; try with_reducible rfl⟩) hHeld ?_
    go_simp
    refine wpAnyH_take (i := 4) (v := ?_) rfl (by kernel_rfl) (by kernel_rfl) (by kernel_rfl) (fun _ _ _ h => h) (Or.inl ⟨by kernel_rfl, by intro w _; go_simp; try with_reducible rfl⟩) hHeld ?_
    go_simp
    refine wpAnyH_take (i := 5) (v := ?_) rfl (by kernel_rfl) (by kernel_rfl) (by kernel_rfl) (fun _ _ _ h => h) (Or.inl ⟨by kernel_rfl, by intro w _; go_simp; try with_reducible rfl⟩) hHeld ?_
    go_simp
    refine wpAnyH_take (i := 6) (v := ?_) rfl (by kernel_rfl) (by kernel_rfl) (by kernel_rfl) (fun _ _ _ h => h) (Or.inl ⟨by kernel_rfl, by intro w _; go_simp; try with_reducible rfl⟩) hHeld ?_
    go_simp
    refine wpAnyH_take (i := 7) (v := ?_) rfl (by kernel_rfl) (by kernel_rfl) (by kernel_rfl) (fun _ _ _ h => h) (Or.inl ⟨by kernel_rfl, by intro w _; go_simp; try with_reducible rfl⟩) hHeld ?_
    go_simp
    refine wpAnyH_take (i := 8) (v := ?_) rfl (by kernel_rfl) (by kernel_rfl) (by kernel_rfl) (fun _ _ _ h => h) (Or.inl ⟨by kernel_rfl, by intro w hSw; (try dsimp only at hSw); obtain ⟨s1, s2⟩ := hSw; go_simp; try with_reducible rfl⟩) hHeld ?_
    go_simp
    refine wpAnyH_ready (rs := [9]) (by kernel_rfl) (by simp) ?_
    refine AllReadyH.cons rfl (fun K hK => ?_) AllReadyH.nil
    clear hHeld
    go_simp
    refine (HP6.out _ rb.out).mono ?_; rintro e wha ⟨rfl, ha, sb⟩
    go_simp
    refine hK.out _ _ (ha) (fun hHeld => ?_)
    clear hK K
    refine wpAnyH_take (i := 10) (v := ?_) rfl (by kernel_rfl) (by kernel_rfl) (by kernel_rfl) (fun _ _ _ h => h) (Or.inl ⟨by kernel_rfl, by intro w _; go_simp; try with_reducible rfl⟩) hHeld ?_
    go_simp
    refine wpAnyH_take (i := 11) (v := ?_) rfl (by kernel_rfl) (by kernel_rfl) (by kernel_rfl) (fun _ _ _ h => h) (Or.inl ⟨by kernel_rfl, by intro w _; go_simp; try with_reducible rfl⟩) hHeld ?_
    go_simp
    refine wpAnyH_take (i := 12) (v := ?_) rfl (by kernel_rfl) (by kernel_rfl) (by kernel_rfl) (fun _ _ _ h => h) (Or.inl ⟨by kernel_rfl, by intro w _; go_simp; try with_reducible rfl⟩) hHeld ?_
    go_simp
    refine wpAnyH_take (i := 13) (v := ?_) rfl (by kernel_rfl) (by kernel_rfl) (by kernel_rfl) (fun _ _ _ h => h) (Or.inl ⟨by kernel_rfl, by intro w _; go_simp; try with_reducible rfl⟩) hHeld ?_
    go_simp
    refine wpAnyH_take (i := 14) (v := ?_) rfl (by kernel_rfl) (by kernel_rfl) (by kernel_rfl) (fun _ _ _ h => h) (Or.inl ⟨by kernel_rfl, by intro w _; go_simp; try with_reducible rfl⟩) hHeld ?_
    go_simp
    refine wpAnyH_take (i := 15) (v := ?_) rfl (by kernel_rfl) (by kernel_rfl) (by kernel_rfl) (fun _ _ _ h => h) (Or.inl ⟨by kernel_rfl, by intro w _; go_simp; try with_reducible rfl⟩) hHeld ?_
    go_simp
    refine wpAnyH_take (i := 16) (v := ?_) rfl (by kernel_rfl) (by kernel_rfl) (by kernel_rfl) (fun _ _ _ h => h) (Or.inl ⟨by kernel_rfl, by intro w _; go_simp; try with_reducible rfl⟩) hHeld ?_
    go_simp
    refine wpAnyH_take (i := 17) (v := undef) rfl (by kernel_rfl) (by kernel_rfl) (by kernel_rfl) (fun _ _ _ h => h) (Or.inr ⟨by kernel_rfl, rfl⟩) hHeld ?_
    go_simp
    refine wpAnyH_take (i := 18) (v := undef) rfl (by kernel_rfl) (by kernel_rfl) (by kernel_rfl) (fun _ _ _ h => h) (Or.inr ⟨by kernel_rfl, rfl⟩) hHeld ?_
    go_simp
    refine wpAnyH_take (i := 19) (v := undef) rfl (by kernel_rfl) (by kernel_rfl) (by kernel_rfl) (fun _ _ _ h => h) (Or.inr ⟨by kernel_rfl, rfl⟩) hHeld ?_
    go_simp
    refine wpAnyH_take (i := 20) (v := undef) rfl (by kernel_rfl) (by kernel_rfl) (by kernel_rfl) (fun _ _ _ h => h) (Or.inr ⟨by kernel_rfl, rfl⟩) hHeld ?_
    go_simp
    refine wpAnyH_take (i := 21) (v := undef) rfl (by kernel_rfl) (by kernel_rfl) (by kernel_rfl) (fun _ _ _ h => h) (Or.inr ⟨by kernel_rfl, rfl⟩) hHeld ?_
    go_simp
    refine wpAnyH_take (i := 22) (v := undef) rfl (by kernel_rfl) (by kernel_rfl) (by kernel_rfl) (fun _ _ _ h => h) (Or.inr ⟨by kernel_rfl, rfl⟩) hHeld ?_
    go_simp
    refine wpAnyH_take (i := 23) (v := ?_) rfl (by kernel_rfl) (by kernel_rfl) (by kernel_rfl) (fun _ _ _ h => h) (Or.inl ⟨by kernel_rfl, by intro w _; go_simp; try with_reducible rfl⟩) hHeld ?_
    go_simp
    refine wpAnyH_take (i := 24) (v := ?_) rfl (by kernel_rfl) (by kernel_rfl) (by kernel_rfl) (fun _ _ _ h => h) (Or.inl ⟨by kernel_rfl, by intro w _; go_simp; try with_reducible rfl⟩) hHeld ?_
    go_simp
    refine wpAnyH_take (i := 25) (v := ?_) rfl (by kernel_rfl) (by kernel_rfl) (by kernel_rfl) (fun _ _ _ h => h) (Or.inl ⟨by kernel_rfl, by intro w _; go_simp; try with_reducible rfl⟩) hHeld ?_
    go_simp
    refine wpAnyH_take (i := 26) (v := ?_) rfl (by kernel_rfl) (by kernel_rfl) (by kernel_rfl) (fun _ _ _ h => h) (Or.inl ⟨by kernel_rfl, by intro w hSw; (try dsimp only at hSw); obtain ⟨s1, s2⟩ := hSw; go_simp; try with_reducible rfl⟩) hHeld ?_
    go_simp
    refine wpAnyH_take (i := 28) (v := ?_) rfl (by kernel_rfl) (by kernel_rfl) (by kernel_rfl) (fun _ _ _ h => h) (Or.inl ⟨by kernel_rfl, by intro w hSw; (try dsimp only at hSw); obtain ⟨s1, s2⟩ := hSw; go_simp; try with_reducible rfl⟩) hHeld ?_
    go_simp
    refine wpAnyH_ready (rs := [27]) (by kernel_rfl) (by simp) ?_
    refine AllReadyH.cons rfl (fun K hK => ?_) AllReadyH.nil
    clear hHeld
    go_simp
    refine (HC6.out _ sb.out).mono ?_; rintro e whb ⟨rfl, hb, tb⟩
    go_simp
    refine hK.out _ _ (hb) (fun hHeld => ?_)
    clear hK K
    refine wpAnyH_ready (rs := [29]) (by kernel_rfl) (by simp) ?_
    refine AllReadyH.cons rfl (fun K hK => ?_) AllReadyH.nil
    clear hHeld
    go_simp
    refine (HD6.out _ tb.out).mono ?_; rintro e whc ⟨rfl, hc, ub⟩
    go_simp
    refine hK.out _ _ (hc) (fun hHeld => ?_)
    clear hK K
    refine wpAnyH_take (i := 30) (v := ?_) rfl (by kernel_rfl) (by kernel_rfl) (by kernel_rfl) (fun _ _ _ h => h) (Or.inl ⟨by kernel_rfl, by intro w _; go_simp; try with_reducible rfl⟩) hHeld ?_
    go_simp
    refine wpAnyH_take (i := 31) (v := ?_) rfl (by kernel_rfl) (by kernel_rfl) (by kernel_rfl) (fun _ _ _ h => h) (Or.inl ⟨by kernel_rfl, by intro w _; go_simp; try with_reducible rfl⟩) hHeld ?_
    go_simp
    refine wpAnyH_take (i := 32) (v := ?_) rfl (by kernel_rfl) (by kernel_rfl) (by kernel_rfl) (fun _ _ _ h => h) (Or.inl ⟨by kernel_rfl, by intro w _; go_simp; try with_reducible rfl⟩) hHeld ?_
    go_simp
    refine wpAnyH_take (i := 33) (v := ?_) rfl (by kernel_rfl) (by kernel_rfl) (by kernel_rfl) (fun _ _ _ h => h) (Or.inl ⟨by kernel_rfl, by intro w _; go_simp; try with_reducible rfl⟩) hHeld ?_
    go_simp
    refine wpAnyH_take (i := 34) (v := ?_) rfl (by kernel_rfl) (by kernel_rfl) (by kernel_rfl) (fun _ _ _ h => h) (Or.inl ⟨by kernel_rfl, by intro w _; go_simp; try with_reducible rfl⟩) hHeld ?_
    go_simp
    refine wpAnyH_take (i := 35) (v := ?_) rfl (by kernel_rfl) (by kernel_rfl) (by kernel_rfl) (fun _ _ _ h => h) (Or.inl ⟨by kernel_rfl, by intro w hSw; (try dsimp only at hSw); obtain ⟨s1, s2⟩ := hSw; go_simp; try with_reducible rfl⟩) hHeld ?_
    go_simp
    refine wpAnyH_ready (rs := [36]) (by kernel_rfl) (by simp) ?_
    refine AllReadyH.cons rfl (fun K hK => ?_) AllReadyH.nil
    clear hHeld
    go_simp
    refine (HT6.out _ ub.out).mono ?_; rintro e whd ⟨rfl, hd, vb⟩
    go_simp
    refine hK.out _ _ (hd) (fun hHeld => ?_)
    clear hK K
    refine wpAnyH_take (i := 37) (v := ?_) rfl (by kernel_rfl) (by kernel_rfl) (by kernel_rfl) (fun _ _ _ h => h) (Or.inl ⟨by kernel_rfl, by intro w _; go_simp; try with_reducible rfl⟩) hHeld ?_
    go_simp
    refine wpAnyH_take (i := 38) (v := ?_) rfl (by kernel_rfl) (by kernel_rfl) (by kernel_rfl) (fun _ _ _ h => h) (Or.inl ⟨by kernel_rfl, by intro w _; go_simp; try with_reducible rfl⟩) hHeld ?_
    go_simp
    refine wpAnyH_done (by kernel_rfl) ?_ _
    have HB7 := Lib.hid (HB6.out.trans (vb.out.mono HB6.out.size))
    have HX7 := Lib.hid ((vb.out.block w.heap.size (by omega)).trans HX6.out)
    have hz7 := vb.out.size
    have hbk8 := bk_start whd
    obtain ⟨W8, hW8⟩ : ∃ W8, whd.alloc (Obj.cells #[Value.slice none 0 0, Value.slice none 0 0, Value.slice none 0 0, Value.slice none 0 0, Value.slice none 0 0, Value.slice none 0 0, Value.slice none 0 0, Value.slice none 0 0, Value.slice none 0 0, Value.slice none 0 0, Value.slice none 0 0, Value.slice none 0 0, Value.slice none 0 0, Value.slice none 0 0, Value.slice none 0 0, Value.slice none 0 0, Value.slice none 0 0, Value.slice none 0 0, Value.slice none 0 0, Value.slice none 0 0] 49) = W8 := ⟨_, rfl⟩
    rw [hW8] at hbk8
    have hz8 : W8.heap.size = whd.heap.size + 1 := by rw [← hW8]; exact Array.size_push _
    have HF8 := Lib.hid (show Below whd.heap.size whd W8 by rw [← hW8]; exact (Below.refl _ _).alloc (Nat.le_refl _) _)
    have HW8 := Lib.hid hW8
    have HK8 := Lib.hid hbk8
    clear hW8 hbk8 hd vb r1 r2 HB6 HX6 HC6 HD6 HT6 HLT6
    go_wp2_with fail
    rw [HW8.out]
    refine (HGE.out _).mono ?_
    rintro e w9 ⟨⟨oX, cX, rfl, hOX⟩, b9⟩
    have HG9 := Lib.hid b9
    have HO9 := Lib.hid hOX
    have hz9 := b9.size
    clear hOX b9
    obtain ⟨W10, hW10⟩ : ∃ W10, w9.alloc (Obj.cells #[Value.slice oX ng cX, Value.int .i64 vg] 24) = W10 := ⟨_, rfl⟩
    have hz10 : W10.heap.size = w9.heap.size + 1 := by rw [← hW10]; exact Array.size_push _
    have HA10 := Lib.hid (show Below w9.heap.size w9 W10 by rw [← hW10]; exact (Below.refl _ _).alloc (Nat.le_refl _) _)
    have HX10 := Lib.hid (show W10.heap[w9.heap.size]? = some (.cells #[.slice oX ng cX, .int .i64 vg] 24 (0, 0)) by rw [← hW10]; exact box_row w9 _ _ _)
    have HW10 := Lib.hid hW10
    clear hW10
    go_wp2_with fail
    rw [HW10.out]
    refine (HDG.out _).mono ?_
    rintro e w11 ⟨⟨oY, cY, rfl, hOY⟩, b11⟩
    obtain ⟨W12, hW12⟩ : ∃ W12, w11.alloc (Obj.cells #[Value.slice oY ng cY, Value.int .i64 vg] 24) = W12 := ⟨_, rfl⟩
    have hz12 : W12.heap.size = w11.heap.size + 1 := by rw [← hW12]; exact Array.size_push _
    have hA12 : Below w11.heap.size w11 W12 := by rw [← hW12]; exact (Below.refl _ _).alloc (Nat.le_refl _) _
    have hX12 := (hA12.block w9.heap.size (by have := b11.size; omega)).trans ((b11.block w9.heap.size (by omega)).trans HX10.out)
    have HX12 := Lib.hid hX12
    have HY12 := Lib.hid (show W12.heap[w11.heap.size]? = some (.cells #[.slice oY ng cY, .int .i64 vg] 24 (0, 0)) by rw [← hW12]; exact box_row w11 _ _ _)
    have h912 := HA10.out.trans ((b11.trans (hA12.mono b11.size)).mono HA10.out.size)
    have HG12 := Lib.hid (HG9.out.trans (h912.mono hz9))
    have HO12 := Lib.hid (own_grown HO9.out h912)
    have HP12 := Lib.hid (own_mono (base' := whd.heap.size) (own_grown hOY hA12) (by omega))
    have HW12 := Lib.hid hW12
    have hz11 := b11.size
    have HKS := Lib.hid (HK8.out.before (Nat.le_refl _) HG12.out)
    have hzz := HG12.out.size
    have c0 : (w11.alloc (Obj.cells #[Value.slice oY ng cY, Value.int .i64 vg] 24)).cell? ⟨w9.heap.size, 0, none⟩ = some (.slice oX ng cX) := by rw [hW12]; exact (box_two hX12).1
    clear hW12 hA12 hX12 h912 hOY b11
    go_wp2_with fail
    rw [HW12.out]
    refine (book_keep (s := W8.heap.size) (s2 := W12.heap.size) HNG.out HKS.out (by omega) (by omega) (by rw [show flatL xg = flatL xg from rfl]; exact HO12.out) (by omega) (by omega) hzz (fun b hb => (HO12.out.lt b hb).2)).mono ?_
    rintro e w13 ⟨rfl, hk13, b13, ho13, hn13⟩
    have HF13 := Lib.hid ((HF8.out.trans (HG12.out.mono (by omega))).trans b13)
    have HX13 := Lib.hid ((hn13 w9.heap.size _ _ HX12.out (by decide) (by omega)).trans HX12.out)
    have HY13 := Lib.hid ((hn13 w11.heap.size _ _ HY12.out (by decide) (by omega)).trans HY12.out)
    have hoX := ho13 _ _ _ (own_mono (base' := whd.heap.size) HO12.out (by omega))
    have hoY := ho13 _ _ _ HP12.out
    have HSX := Lib.hid (sees_own HNG.out hoX)
    have HSY := Lib.hid (sees_own HNG.out hoY)
    have HK13 := Lib.hid (hk13.to b13.size)
    have hz13 := b13.size
    obtain ⟨d0, d1⟩ := box_two HX13.out
    obtain ⟨d2, d3⟩ := box_two HY13.out
    clear c0 hk13 b13 ho13 hn13 hoX hoY HKS
    cases ig with
    | true =>
      obtain rfl : 0 = fg := HFG.out
      go_wp2_with fail
      refine (HSG.out _ _ _ _ _ HSX.out HSY.out).mono ?_
      rintro e w14 ⟨rfl, b14⟩
      have HF14 := Lib.hid (HF13.out.trans (b14.mono HF13.out.size))
      have HK14 := Lib.hid (HK13.out.below b14)
      have hz14 := b14.size
      clear b14 d0 d1 d2 d3 HX12 HY12 HX10

      have HF14s := HF14.out.size
      go_wp2_with fail
      refine (HGZ.out _).mono ?_
      rintro e w16 ⟨⟨oZ, cZ, rfl, hOZ⟩, b16⟩
      obtain ⟨W17, hW17⟩ : ∃ W17, w16.alloc (Obj.cells #[Value.slice oZ n cZ, Value.int .i64 v] 24) = W17 := ⟨_, rfl⟩
      have hz17 : W17.heap.size = w16.heap.size + 1 := by rw [← hW17]; exact Array.size_push _
      have hA17 : Below w16.heap.size w16 W17 := by rw [← hW17]; exact (Below.refl _ _).alloc (Nat.le_refl _) _
      have HX17 := Lib.hid (show W17.heap[w16.heap.size]? = some (.cells #[.slice oZ n cZ, .int .i64 v] 24 (0, 0)) by rw [← hW17]; exact box_row w16 _ _ _)
      have hz16 := b16.size
      have HG17 := Lib.hid (b16.trans (hA17.mono b16.size))
      have HO17 := Lib.hid (own_grown hOZ hA17)
      have HW17 := Lib.hid hW17
      have HKT := Lib.hid (HK14.out.before (Nat.le_refl _) HG17.out)
      clear hW17 hA17 hOZ b16
      go_wp2_with fail
      rw [HW17.out]
      refine (book_keep (s := w14.heap.size) (s2 := W17.heap.size) HXN.out HKT.out (by omega) (by omega) HO17.out (by omega) (by omega) (by omega) (fun b hb => (HO17.out.lt b hb).2)).mono ?_
      rintro e w18 ⟨rfl, hk18, b18, ho18, hn18⟩
      have HF18 := Lib.hid ((HF14.out.trans (HG17.out.mono (by omega))).trans b18)
      have HX18 := Lib.hid ((hn18 w16.heap.size _ _ HX17.out (by decide) (by omega)).trans HX17.out)
      have hoZ := ho18 _ _ _ (own_mono (base' := whd.heap.size) HO17.out (by omega))
      have HSZ := Lib.hid (sees_own HXN.out hoZ)
      have HK18 := Lib.hid (hk18.to b18.size)
      have HR18 := Lib.hid ((HF18.out.block w.heap.size (by omega)).trans HX7.out)
      have HB18 := Lib.hid (HB7.out.trans (HF18.out.mono HB7.out.size))
      obtain ⟨d0, d1⟩ := box_two HX18.out
      obtain ⟨d2, d3⟩ := box_two HR18.out
      clear hk18 b18 ho18 hn18 hoZ HKT
      go_wp2_with fail
      refine (HSx.out _ _ _ _ xs HXN.out (by unfold maxLen; omega) HB18.out HSZ.out).mono ?_
      rintro e w19 ⟨rfl, b19⟩
      have HF19 := Lib.hid (HF18.out.trans (b19.mono HF18.out.size))
      have HK19 := Lib.hid (HK18.out.below b19)
      clear b19 d0 d1 d2 d3
      rw [HSLX.out]
      have HB19 := Lib.hid (HB7.out.trans (HF19.out.mono HB7.out.size))
      go_wp2_with fail
      refine (HSA.out _ HB19.out).mono ?_
      rintro e w20 ⟨rfl, b20⟩
      have HF20 := Lib.hid (HF19.out.trans (b20.mono HF19.out.size))
      have HK20 := Lib.hid (HK19.out.below b20)
      have HB20 := Lib.hid (HB7.out.trans (HF20.out.mono HB7.out.size))
      clear b20
      rw [HSL.out]
      go_wp2_with fail
      refine (HSN.out _ HB20.out).mono ?_
      rintro e w21 ⟨rfl, b21⟩
      have HF21 := Lib.hid (HF20.out.trans (b21.mono HF20.out.size))
      have HK21 := Lib.hid (HK20.out.below b21)
      clear b21
      rw [hzb]
      go_wp2_with fail
      refine (book_apart HK21.out HF21.out (Nat.le_refl _)).mono ?_
      rintro e w22 ⟨rfl, b22⟩
      have HB22 := Lib.hid (HB7.out.trans (b22.mono HB7.out.size))
      clear b22
      go_wp2
      go_ret
      exact ⟨rfl, HB22.out⟩
    | false =>
      obtain rfl : 2 = fg := HFG.out
      go_wp2_with fail
      refine (HSG.out _ _ _ _ _ HSX.out HSY.out).mono ?_
      rintro e w14 ⟨rfl, b14⟩
      have HF14 := Lib.hid (HF13.out.trans (b14.mono HF13.out.size))
      have HK14 := Lib.hid (HK13.out.below b14)
      have hz14 := b14.size
      clear b14 d0 d1 d2 d3 HX12 HY12 HX10

      have HF14s := HF14.out.size
      go_wp2_with fail
      refine (HGZ.out _).mono ?_
      rintro e w16 ⟨⟨oZ, cZ, rfl, hOZ⟩, b16⟩
      obtain ⟨W17, hW17⟩ : ∃ W17, w16.alloc (Obj.cells #[Value.slice oZ n cZ, Value.int .i64 v] 24) = W17 := ⟨_, rfl⟩
      have hz17 : W17.heap.size = w16.heap.size + 1 := by rw [← hW17]; exact Array.size_push _
      have hA17 : Below w16.heap.size w16 W17 := by rw [← hW17]; exact (Below.refl _ _).alloc (Nat.le_refl _) _
      have HX17 := Lib.hid (show W17.heap[w16.heap.size]? = some (.cells #[.slice oZ n cZ, .int .i64 v] 24 (0, 0)) by rw [← hW17]; exact box_row w16 _ _ _)
      have hz16 := b16.size
      have HG17 := Lib.hid (b16.trans (hA17.mono b16.size))
      have HO17 := Lib.hid (own_grown hOZ hA17)
      have HW17 := Lib.hid hW17
      have HKT := Lib.hid (HK14.out.before (Nat.le_refl _) HG17.out)
      clear hW17 hA17 hOZ b16
      go_wp2_with fail
      rw [HW17.out]
      refine (book_keep (s := w14.heap.size) (s2 := W17.heap.size) HXN.out HKT.out (by omega) (by omega) HO17.out (by omega) (by omega) (by omega) (fun b hb => (HO17.out.lt b hb).2)).mono ?_
      rintro e w18 ⟨rfl, hk18, b18, ho18, hn18⟩
      have HF18 := Lib.hid ((HF14.out.trans (HG17.out.mono (by omega))).trans b18)
      have HX18 := Lib.hid ((hn18 w16.heap.size _ _ HX17.out (by decide) (by omega)).trans HX17.out)
      have hoZ := ho18 _ _ _ (own_mono (base' := whd.heap.size) HO17.out (by omega))
      have HSZ := Lib.hid (sees_own HXN.out hoZ)
      have HK18 := Lib.hid (hk18.to b18.size)
      have HR18 := Lib.hid ((HF18.out.block w.heap.size (by omega)).trans HX7.out)
      have HB18 := Lib.hid (HB7.out.trans (HF18.out.mono HB7.out.size))
      obtain ⟨d0, d1⟩ := box_two HX18.out
      obtain ⟨d2, d3⟩ := box_two HR18.out
      clear hk18 b18 ho18 hn18 hoZ HKT
      go_wp2_with fail
      refine (HSx.out _ _ _ _ xs HXN.out (by unfold maxLen; omega) HB18.out HSZ.out).mono ?_
      rintro e w19 ⟨rfl, b19⟩
      have HF19 := Lib.hid (HF18.out.trans (b19.mono HF18.out.size))
      have HK19 := Lib.hid (HK18.out.below b19)
      clear b19 d0 d1 d2 d3
      rw [HSLX.out]
      have HB19 := Lib.hid (HB7.out.trans (HF19.out.mono HB7.out.size))
      go_wp2_with fail
      refine (HSA.out _ HB19.out).mono ?_
      rintro e w20 ⟨rfl, b20⟩
      have HF20 := Lib.hid (HF19.out.trans (b20.mono HF19.out.size))
      have HK20 := Lib.hid (HK19.out.below b20)
      have HB20 := Lib.hid (HB7.out.trans (HF20.out.mono HB7.out.size))
      clear b20
      rw [HSL.out]
      go_wp2_with fail
      refine (HSN.out _ HB20.out).mono ?_
      rintro e w21 ⟨rfl, b21⟩
      have HF21 := Lib.hid (HF20.out.trans (b21.mono HF20.out.size))
      have HK21 := Lib.hid (HK20.out.below b21)
      clear b21
      rw [hzb]
      go_wp2_with fail
      refine (book_apart HK21.out HF21.out (Nat.le_refl _)).mono ?_
      rintro e w22 ⟨rfl, b22⟩
      have HB22 := Lib.hid (HB7.out.trans (b22.mono HB7.out.size))
      clear b22
      go_wp2
      go_ret
      exact ⟨rfl, HB22.out⟩
  | false =>
    have hpe : putE xs v = 1 := by unfold putE; rw [hok]; rfl
    have hps : putS xs v = ⟨#[]⟩ := by unfold putS; rw [hok]; rfl
    rw [hpe, hps]
    clear hpe hps hok hS6 HCO HDC HDP HST HLL HPU HDR HL1 HL2 HAL
    go_wp2_with fail
    refine wp_region_held_drew (S := (fun V => V.cell? ⟨w.heap.size, 0, none⟩ = some (.slice o n c) ∧ V.cell? ⟨w.heap.size, 1, none⟩ = some (.int .i64 v))) (by kernel_rfl) (⟨r1, r2⟩) (fun hHeld => ?_)
    refine wpAnyH_take (i := 0) (v := ?_) rfl (by kernel_rfl) (by kernel_rfl) (by kernel_rfl) (fun _ _ _ h => h) (Or.inl ⟨by kernel_rfl, by intro w _; go_simp; try with_reducible rfl⟩) hHeld ?_
    go_simp
    refine wpAnyH_take (i := 1) (v := ?_) rfl (by kernel_rfl) (by kernel_rfl) (by kernel_rfl) (fun _ _ _ h => h) (Or.inl ⟨by kernel_rfl, by intro w _; go_simp; try with_reducible rfl⟩) hHeld ?_
    go_simp
    refine wpAnyH_take (i := 2) (v := ?_) rfl (by kernel_rfl) (by kernel_rfl) (by kernel_rfl) (fun _ _ _ h => h) (Or.inl ⟨by kernel_rfl, by intro w _; go_simp; try with_reducible rfl⟩) hHeld ?_
    go_simp
    refine wpAnyH_take (i := 3) (v := ?_) rfl (by kernel_rfl) (by kernel_rfl) (by kernel_rfl) (fun _ _ _ h => h) (Or.inl ⟨by kernel_rfl, by intro w _; go_simp; try with_reducible rfl⟩) hHeld ?_
    go_simp
    refine wpAnyH_take (i := 4) (v := ?_) rfl (by kernel_rfl) (by kernel_rfl) (by kernel_rfl) (fun _ _ _ h => h) (Or.inl ⟨by kernel_rfl, by intro w _; go_simp; try with_reducible rfl⟩) hHeld ?_
    go_simp
    refine wpAnyH_take (i := 5) (v := ?_) rfl (by kernel_rfl) (by kernel_rfl) (by kernel_rfl) (fun _ _ _ h => h) (Or.inl ⟨by kernel_rfl, by intro w _; go_simp; try with_reducible rfl⟩) hHeld ?_
    go_simp
    refine wpAnyH_take (i := 6) (v := ?_) rfl (by kernel_rfl) (by kernel_rfl) (by kernel_rfl) (fun _ _ _ h => h) (Or.inl ⟨by kernel_rfl, by intro w _; go_simp; try with_reducible rfl⟩) hHeld ?_
    go_simp
    refine wpAnyH_take (i := 7) (v := undef) rfl (by kernel_rfl) (by kernel_rfl) (by kernel_rfl) (fun _ _ _ h => h) (Or.inr ⟨by kernel_rfl, rfl⟩) hHeld ?_
    go_simp
    refine wpAnyH_take (i := 8) (v := undef) rfl (by kernel_rfl) (by kernel_rfl) (by kernel_rfl) (fun _ _ _ h => h) (Or.inr ⟨by kernel_rfl, rfl⟩) hHeld ?_
    go_simp
    refine wpAnyH_take (i := 9) (v := undef) rfl (by kernel_rfl) (by kernel_rfl) (by kernel_rfl) (fun _ _ _ h => h) (Or.inr ⟨by kernel_rfl, rfl⟩) hHeld ?_
    go_simp
    refine wpAnyH_take (i := 10) (v := undef) rfl (by kernel_rfl) (by kernel_rfl) (by kernel_rfl) (fun _ _ _ h => h) (Or.inr ⟨by kernel_rfl, rfl⟩) hHeld ?_
    go_simp
    refine wpAnyH_take (i := 11) (v := ?_) rfl (by kernel_rfl) (by kernel_rfl) (by kernel_rfl) (fun _ _ _ h => h) (Or.inl ⟨by kernel_rfl, by intro w _; go_simp; try with_reducible rfl⟩) hHeld ?_
    go_simp
    refine wpAnyH_take (i := 12) (v := ?_) rfl (by kernel_rfl) (by kernel_rfl) (by kernel_rfl) (fun _ _ _ h => h) (Or.inl ⟨by kernel_rfl, by intro w _; go_simp; try with_reducible rfl⟩) hHeld ?_
    go_simp
    refine wpAnyH_take (i := 13) (v := ?_) rfl (by kernel_rfl) (by kernel_rfl) (by kernel_rfl) (fun _ _ _ h => h) (Or.inl ⟨by kernel_rfl, by intro w _; go_simp; try with_reducible rfl⟩) hHeld ?_
    go_simp
    refine wpAnyH_take (i := 14) (v := ?_) rfl (by kernel_rfl) (by kernel_rfl) (by kernel_rfl) (fun _ _ _ h => h) (Or.inl ⟨by kernel_rfl, by intro w _; go_simp; try with_reducible rfl⟩) hHeld ?_
    go_simp
    refine wpAnyH_take (i := 15) (v := ?_) rfl (by kernel_rfl) (by kernel_rfl) (by kernel_rfl) (fun _ _ _ h => h) (Or.inl ⟨by kernel_rfl, by intro w _; go_simp; try with_reducible rfl⟩) hHeld ?_
    go_simp
    refine wpAnyH_take (i := 16) (v := ?_) rfl (by kernel_rfl) (by kernel_rfl) (by kernel_rfl) (fun _ _ _ h => h) (Or.inl ⟨by kernel_rfl, by intro w _; go_simp; try with_reducible rfl⟩) hHeld ?_
    go_simp
    refine wpAnyH_take (i := 17) (v := ?_) rfl (by kernel_rfl) (by kernel_rfl) (by kernel_rfl) (fun _ _ _ h => h) (Or.inl ⟨by kernel_rfl, by intro w _; go_simp; try with_reducible rfl⟩) hHeld ?_
    go_simp
    refine wpAnyH_take (i := 18) (v := ?_) rfl (by kernel_rfl) (by kernel_rfl) (by kernel_rfl) (fun _ _ _ h => h) (Or.inl ⟨by kernel_rfl, by intro w _; go_simp; try with_reducible rfl⟩) hHeld ?_
    go_simp
    refine wpAnyH_take (i := 19) (v := ?_) rfl (by kernel_rfl) (by kernel_rfl) (by kernel_rfl) (fun _ _ _ h => h) (Or.inl ⟨by kernel_rfl, by intro w _; go_simp; try with_reducible rfl⟩) hHeld ?_
    go_simp
    refine wpAnyH_take (i := 20) (v := ?_) rfl (by kernel_rfl) (by kernel_rfl) (by kernel_rfl) (fun _ _ _ h => h) (Or.inl ⟨by kernel_rfl, by intro w _; go_simp; try with_reducible rfl⟩) hHeld ?_
    go_simp
    refine wpAnyH_take (i := 21) (v := ?_) rfl (by kernel_rfl) (by kernel_rfl) (by kernel_rfl) (fun _ _ _ h => h) (Or.inl ⟨by kernel_rfl, by intro w _; go_simp; try with_reducible rfl⟩) hHeld ?_
    go_simp
    refine wpAnyH_take (i := 22) (v := ?_) rfl (by kernel_rfl) (by kernel_rfl) (by kernel_rfl) (fun _ _ _ h => h) (Or.inl ⟨by kernel_rfl, by intro w _; go_simp; try with_reducible rfl⟩) hHeld ?_
    go_simp
    refine wpAnyH_take (i := 23) (v := ?_) rfl (by kernel_rfl) (by kernel_rfl) (by kernel_rfl) (fun _ _ _ h => h) (Or.inl ⟨by kernel_rfl, by intro w _; go_simp; try with_reducible rfl⟩) hHeld ?_
    go_simp
    refine wpAnyH_take (i := 24) (v := ?_) rfl (by kernel_rfl) (by kernel_rfl) (by kernel_rfl) (fun _ _ _ h => h) (Or.inl ⟨by kernel_rfl, by intro w _; go_simp; try with_reducible rfl⟩) hHeld ?_
    go_simp
    refine wpAnyH_take (i := 25) (v := ?_) rfl (by kernel_rfl) (by kernel_rfl) (by kernel_rfl) (fun _ _ _ h => h) (Or.inl ⟨by kernel_rfl, by intro w _; go_simp; try with_reducible rfl⟩) hHeld ?_
    go_simp
    refine wpAnyH_take (i := 26) (v := ?_) rfl (by kernel_rfl) (by kernel_rfl) (by kernel_rfl) (fun _ _ _ h => h) (Or.inl ⟨by kernel_rfl, by intro w hSw; (try dsimp only at hSw); obtain ⟨s1, s2⟩ := hSw; go_simp; try with_reducible rfl⟩) hHeld ?_
    go_simp
    refine wpAnyH_take (i := 28) (v := ?_) rfl (by kernel_rfl) (by kernel_rfl) (by kernel_rfl) (fun _ _ _ h => h) (Or.inl ⟨by kernel_rfl, by intro w hSw; (try dsimp only at hSw); obtain ⟨s1, s2⟩ := hSw; go_simp; try with_reducible rfl⟩) hHeld ?_
    go_simp
    refine wpAnyH_ready (rs := [27]) (by kernel_rfl) (by simp) ?_
    refine AllReadyH.cons rfl (fun K hK => ?_) AllReadyH.nil
    clear hHeld
    go_simp
    refine (HC6.out _ rb.out).mono ?_; rintro e whb ⟨rfl, hb, tb⟩
    go_simp
    refine hK.out _ _ (hb) (fun hHeld => ?_)
    clear hK K
    refine wpAnyH_ready (rs := [29]) (by kernel_rfl) (by simp) ?_
    refine AllReadyH.cons rfl (fun K hK => ?_) AllReadyH.nil
    clear hHeld
    go_simp
    refine (HD6.out _ tb.out).mono ?_; rintro e whc ⟨rfl, hc, ub⟩
    go_simp
    refine hK.out _ _ (hc) (fun hHeld => ?_)
    clear hK K
    refine wpAnyH_take (i := 30) (v := ?_) rfl (by kernel_rfl) (by kernel_rfl) (by kernel_rfl) (fun _ _ _ h => h) (Or.inl ⟨by kernel_rfl, by intro w _; go_simp; try with_reducible rfl⟩) hHeld ?_
    go_simp
    refine wpAnyH_take (i := 31) (v := ?_) rfl (by kernel_rfl) (by kernel_rfl) (by kernel_rfl) (fun _ _ _ h => h) (Or.inl ⟨by kernel_rfl, by intro w _; go_simp; try with_reducible rfl⟩) hHeld ?_
    go_simp
    refine wpAnyH_take (i := 32) (v := ?_) rfl (by kernel_rfl) (by kernel_rfl) (by kernel_rfl) (fun _ _ _ h => h) (Or.inl ⟨by kernel_rfl, by intro w _; go_simp; try with_reducible rfl⟩) hHeld ?_
    go_simp
    refine wpAnyH_take (i := 33) (v := ?_) rfl (by kernel_rfl) (by kernel_rfl) (by kernel_rfl) (fun _ _ _ h => h) (Or.inl ⟨by kernel_rfl, by intro w _; go_simp; try with_reducible rfl⟩) hHeld ?_
    go_simp
    refine wpAnyH_take (i := 34) (v := ?_) rfl (by kernel_rfl) (by kernel_rfl) (by kernel_rfl) (fun _ _ _ h => h) (Or.inl ⟨by kernel_rfl, by intro w _; go_simp; try with_reducible rfl⟩) hHeld ?_
    go_simp
    refine wpAnyH_take (i := 35) (v := ?_) rfl (by kernel_rfl) (by kernel_rfl) (by kernel_rfl) (fun _ _ _ h => h) (Or.inl ⟨by kernel_rfl, by intro w hSw; (try dsimp only at hSw); obtain ⟨s1, s2⟩ := hSw; go_simp; try with_reducible rfl⟩) hHeld ?_
    go_simp
    refine wpAnyH_ready (rs := [36]) (by kernel_rfl) (by simp) ?_
    refine AllReadyH.cons rfl (fun K hK => ?_) AllReadyH.nil
    clear hHeld
    go_simp
    refine (HT6.out _ ub.out).mono ?_; rintro e whd ⟨rfl, hd, vb⟩
    go_simp
    refine hK.out _ _ (hd) (fun hHeld => ?_)
    clear hK K
    refine wpAnyH_take (i := 37) (v := ?_) rfl (by kernel_rfl) (by kernel_rfl) (by kernel_rfl) (fun _ _ _ h => h) (Or.inl ⟨by kernel_rfl, by intro w _; go_simp; try with_reducible rfl⟩) hHeld ?_
    go_simp
    refine wpAnyH_take (i := 38) (v := ?_) rfl (by kernel_rfl) (by kernel_rfl) (by kernel_rfl) (fun _ _ _ h => h) (Or.inl ⟨by kernel_rfl, by intro w _; go_simp; try with_reducible rfl⟩) hHeld ?_
    go_simp
    refine wpAnyH_done (by kernel_rfl) ?_ _
    have HB7 := Lib.hid (HB6.out.trans (vb.out.mono HB6.out.size))
    have HX7 := Lib.hid ((vb.out.block w.heap.size (by omega)).trans HX6.out)
    have hz7 := vb.out.size
    have hbk8 := bk_start whd
    obtain ⟨W8, hW8⟩ : ∃ W8, whd.alloc (Obj.cells #[Value.slice none 0 0, Value.slice none 0 0, Value.slice none 0 0, Value.slice none 0 0, Value.slice none 0 0, Value.slice none 0 0, Value.slice none 0 0, Value.slice none 0 0, Value.slice none 0 0, Value.slice none 0 0, Value.slice none 0 0, Value.slice none 0 0, Value.slice none 0 0, Value.slice none 0 0, Value.slice none 0 0, Value.slice none 0 0, Value.slice none 0 0, Value.slice none 0 0, Value.slice none 0 0, Value.slice none 0 0] 49) = W8 := ⟨_, rfl⟩
    rw [hW8] at hbk8
    have hz8 : W8.heap.size = whd.heap.size + 1 := by rw [← hW8]; exact Array.size_push _
    have HF8 := Lib.hid (show Below whd.heap.size whd W8 by rw [← hW8]; exact (Below.refl _ _).alloc (Nat.le_refl _) _)
    have HW8 := Lib.hid hW8
    have HK8 := Lib.hid hbk8
    clear hW8 hbk8 hd vb r1 r2 HB6 HX6 HC6 HD6 HT6 HLT6
    go_wp2_with fail
    rw [HW8.out]
    refine (HGE.out _).mono ?_
    rintro e w9 ⟨⟨oX, cX, rfl, hOX⟩, b9⟩
    have HG9 := Lib.hid b9
    have HO9 := Lib.hid hOX
    have hz9 := b9.size
    clear hOX b9
    obtain ⟨W10, hW10⟩ : ∃ W10, w9.alloc (Obj.cells #[Value.slice oX ng cX, Value.int .i64 vg] 24) = W10 := ⟨_, rfl⟩
    have hz10 : W10.heap.size = w9.heap.size + 1 := by rw [← hW10]; exact Array.size_push _
    have HA10 := Lib.hid (show Below w9.heap.size w9 W10 by rw [← hW10]; exact (Below.refl _ _).alloc (Nat.le_refl _) _)
    have HX10 := Lib.hid (show W10.heap[w9.heap.size]? = some (.cells #[.slice oX ng cX, .int .i64 vg] 24 (0, 0)) by rw [← hW10]; exact box_row w9 _ _ _)
    have HW10 := Lib.hid hW10
    clear hW10
    go_wp2_with fail
    rw [HW10.out]
    refine (HDG.out _).mono ?_
    rintro e w11 ⟨⟨oY, cY, rfl, hOY⟩, b11⟩
    obtain ⟨W12, hW12⟩ : ∃ W12, w11.alloc (Obj.cells #[Value.slice oY ng cY, Value.int .i64 vg] 24) = W12 := ⟨_, rfl⟩
    have hz12 : W12.heap.size = w11.heap.size + 1 := by rw [← hW12]; exact Array.size_push _
    have hA12 : Below w11.heap.size w11 W12 := by rw [← hW12]; exact (Below.refl _ _).alloc (Nat.le_refl _) _
    have hX12 := (hA12.block w9.heap.size (by have := b11.size; omega)).trans ((b11.block w9.heap.size (by omega)).trans HX10.out)
    have HX12 := Lib.hid hX12
    have HY12 := Lib.hid (show W12.heap[w11.heap.size]? = some (.cells #[.slice oY ng cY, .int .i64 vg] 24 (0, 0)) by rw [← hW12]; exact box_row w11 _ _ _)
    have h912 := HA10.out.trans ((b11.trans (hA12.mono b11.size)).mono HA10.out.size)
    have HG12 := Lib.hid (HG9.out.trans (h912.mono hz9))
    have HO12 := Lib.hid (own_grown HO9.out h912)
    have HP12 := Lib.hid (own_mono (base' := whd.heap.size) (own_grown hOY hA12) (by omega))
    have HW12 := Lib.hid hW12
    have hz11 := b11.size
    have HKS := Lib.hid (HK8.out.before (Nat.le_refl _) HG12.out)
    have hzz := HG12.out.size
    have c0 : (w11.alloc (Obj.cells #[Value.slice oY ng cY, Value.int .i64 vg] 24)).cell? ⟨w9.heap.size, 0, none⟩ = some (.slice oX ng cX) := by rw [hW12]; exact (box_two hX12).1
    clear hW12 hA12 hX12 h912 hOY b11
    go_wp2_with fail
    rw [HW12.out]
    refine (book_keep (s := W8.heap.size) (s2 := W12.heap.size) HNG.out HKS.out (by omega) (by omega) (by rw [show flatL xg = flatL xg from rfl]; exact HO12.out) (by omega) (by omega) hzz (fun b hb => (HO12.out.lt b hb).2)).mono ?_
    rintro e w13 ⟨rfl, hk13, b13, ho13, hn13⟩
    have HF13 := Lib.hid ((HF8.out.trans (HG12.out.mono (by omega))).trans b13)
    have HX13 := Lib.hid ((hn13 w9.heap.size _ _ HX12.out (by decide) (by omega)).trans HX12.out)
    have HY13 := Lib.hid ((hn13 w11.heap.size _ _ HY12.out (by decide) (by omega)).trans HY12.out)
    have hoX := ho13 _ _ _ (own_mono (base' := whd.heap.size) HO12.out (by omega))
    have hoY := ho13 _ _ _ HP12.out
    have HSX := Lib.hid (sees_own HNG.out hoX)
    have HSY := Lib.hid (sees_own HNG.out hoY)
    have HK13 := Lib.hid (hk13.to b13.size)
    have hz13 := b13.size
    obtain ⟨d0, d1⟩ := box_two HX13.out
    obtain ⟨d2, d3⟩ := box_two HY13.out
    clear c0 hk13 b13 ho13 hn13 hoX hoY HKS
    cases ig with
    | true =>
      obtain rfl : 0 = fg := HFG.out
      go_wp2_with fail
      refine (HSG.out _ _ _ _ _ HSX.out HSY.out).mono ?_
      rintro e w14 ⟨rfl, b14⟩
      have HF14 := Lib.hid (HF13.out.trans (b14.mono HF13.out.size))
      have HK14 := Lib.hid (HK13.out.below b14)
      have hz14 := b14.size
      clear b14 d0 d1 d2 d3 HX12 HY12 HX10
      have HB19 := Lib.hid (HB7.out.trans (HF14.out.mono HB7.out.size))
      go_wp2_with fail
      refine (HSA.out _ HB19.out).mono ?_
      rintro e w20 ⟨rfl, b20⟩
      have HF20 := Lib.hid (HF14.out.trans (b20.mono HF14.out.size))
      have HK20 := Lib.hid (HK14.out.below b20)
      have HB20 := Lib.hid (HB7.out.trans (HF20.out.mono HB7.out.size))
      clear b20
      rw [HSL.out]
      go_wp2_with fail
      refine (HSN.out _ HB20.out).mono ?_
      rintro e w21 ⟨rfl, b21⟩
      have HF21 := Lib.hid (HF20.out.trans (b21.mono HF20.out.size))
      have HK21 := Lib.hid (HK20.out.below b21)
      clear b21
      rw [hzb]
      go_wp2_with fail
      refine (book_apart HK21.out HF21.out (Nat.le_refl _)).mono ?_
      rintro e w22 ⟨rfl, b22⟩
      have HB22 := Lib.hid (HB7.out.trans (b22.mono HB7.out.size))
      clear b22
      go_wp2
      go_ret
      exact ⟨rfl, HB22.out⟩
    | false =>
      obtain rfl : 2 = fg := HFG.out
      go_wp2_with fail
      refine (HSG.out _ _ _ _ _ HSX.out HSY.out).mono ?_
      rintro e w14 ⟨rfl, b14⟩
      have HF14 := Lib.hid (HF13.out.trans (b14.mono HF13.out.size))
      have HK14 := Lib.hid (HK13.out.below b14)
      have hz14 := b14.size
      clear b14 d0 d1 d2 d3 HX12 HY12 HX10
      have HB19 := Lib.hid (HB7.out.trans (HF14.out.mono HB7.out.size))
      go_wp2_with fail
      refine (HSA.out _ HB19.out).mono ?_
      rintro e w20 ⟨rfl, b20⟩
      have HF20 := Lib.hid (HF14.out.trans (b20.mono HF14.out.size))
      have HK20 := Lib.hid (HK14.out.below b20)
      have HB20 := Lib.hid (HB7.out.trans (HF20.out.mono HB7.out.size))
      clear b20
      rw [HSL.out]
      go_wp2_with fail
      refine (HSN.out _ HB20.out).mono ?_
      rintro e w21 ⟨rfl, b21⟩
      have HF21 := Lib.hid (HF20.out.trans (b21.mono HF20.out.size))
      have HK21 := Lib.hid (HK20.out.below b21)
      clear b21
      rw [hzb]
      go_wp2_with fail
      refine (book_apart HK21.out HF21.out (Nat.le_refl _)).mono ?_
      rintro e w22 ⟨rfl, b22⟩
      have HB22 := Lib.hid (HB7.out.trans (b22.mono HB7.out.size))
      clear b22
      go_wp2
      go_ret
      exact ⟨rfl, HB22.out⟩
end Go.Proofs.YthjifpdiekoomaaGreat.Row
