/- The walk of the statement on matchers and their contraries. -/
import Derived.Test.YtmidpekkomhogaaSmp
import Derived.Test.YtmidpekkomhogaaUc
import Derived.Deep.RegionWith
namespace Go.Proofs.Ytmidpekkomhogaa.Sto
open Go.RowKit

theorem box_three (w : World) (a c : ByteArray) (b : Int) (W : World) (h : Below (w.alloc (Obj.cells #[.string a, .int .i64 b, .string c] 24)).heap.size (w.alloc (Obj.cells #[.string a, .int .i64 b, .string c] 24)) W) : W.cell? ⟨w.heap.size, 0, none⟩ = some (.string a) ∧ W.cell? ⟨w.heap.size, 1, none⟩ = some (.int .i64 b) ∧ W.cell? ⟨w.heap.size, 2, none⟩ = some (.string c) := by
  have hb : W.heap[w.heap.size]? = some (.cells #[.string a, .int .i64 b, .string c] 24 (0, 0)) := (h.block _ (by simp)).trans Array.getElem?_push_size
  exact ⟨by unfold World.cell?; simp only [hb]; rfl, by unfold World.cell?; simp only [hb]; rfl, by unfold World.cell?; simp only [hb]; rfl⟩

set_option maxHeartbeats 32000000 in
set_option maxRecDepth 100000 in
theorem matches_any (o1 : Option Addr) (n1 c1 : Nat) (l : List OpT) (mn mv pn pv : ByteArray) (mo po : Int) (w : World) (h1 : l.length = n1) (hm1 : n1 ≤ maxLen) (hS1 : SeesP w o1 l) (hmn : mn.size ≤ 1099511627776) (hpn : pn.size ≤ 1099511627776) :
    Calls Try.prog 3 #[.slice o1 n1 c1, .agg #[.string mn, .int .i64 mo, .string mv], .agg #[.string pn, .int .i64 po, .string pv]] w fun e w' => e = .returned (.bool true) ∧ Below w.heap.size w w' := by
  have HAl := Lib.hid (fun W => alive_any W)
  obtain ⟨W0, hW0⟩ : ∃ W0, (w.alloc (Obj.cells #[.string mn, .int .i64 mo, .string mv] 24)).alloc (Obj.cells #[.string pn, .int .i64 po, .string pv] 24) = W0 := ⟨_, rfl⟩
  have hb1 : Below w.heap.size w (w.alloc (Obj.cells #[.string mn, .int .i64 mo, .string mv] 24)) := (Below.refl _ _).alloc (Nat.le_refl _) _
  have hb0 : Below w.heap.size w W0 := by rw [← hW0]; exact hb1.alloc hb1.size _
  have hz0 : W0.heap.size = w.heap.size + 2 := by rw [← hW0]; simp
  have HX1 := Lib.hid (fun W (h : Below W0.heap.size W0 W) => box_three w mn mv mo W (by
    rw [← hW0] at h
    exact ((Below.refl _ _).alloc (Nat.le_refl _) _).trans (h.mono (by simp))))
  have HX2 := Lib.hid (fun W (h : Below W0.heap.size W0 W) => (show W.cell? ⟨w.heap.size + 1, 0, none⟩ = some (.string pn) ∧ W.cell? ⟨w.heap.size + 1, 1, none⟩ = some (.int .i64 po) ∧ W.cell? ⟨w.heap.size + 1, 2, none⟩ = some (.string pv) from by
    have e : (w.alloc (Obj.cells #[.string mn, .int .i64 mo, .string mv] 24)).heap.size = w.heap.size + 1 := by simp
    rw [← e]
    exact box_three (w.alloc (Obj.cells #[.string mn, .int .i64 mo, .string mv] 24)) pn pv po W (by rw [← hW0] at h; exact h)))
  have HW0 := Lib.hid hW0
  have HB0 := Lib.hid hb0
  have HL1 := Lib.hid (lightP_any o1 n1 c1 l W0 h1 hm1 (hS1.below hb0))
  have HMm := Lib.hid (fun W (h : mv.size ≤ 100) => rmatcher_any mn mv mo W hmn (by omega))
  have HMo := Lib.hid (fun W (h : pv.size ≤ 100) => rmatcher_any pn pv po W hpn (by omega))
  have HS1 := Lib.hid hS1
  have HN1 := Lib.hid h1
  unfold maxLen at hm1
  clear hS1 h1 hmn hpn hb1 hb0 hW0
  cases hl1 : lightP l with
  | false =>
    rw [hl1] at HL1
    clear hl1 HMm HMo
    go_enter Try.func3, Try.ntmps3
    go_wp2_with fail
    rw [HW0.out]
    refine HL1.out.mono ?_
    rintro e w1 ⟨rfl, b1⟩
    have HBo := Lib.hid b1
    clear b1
    go_wp2_with fail
    refine (HAl.out _).mono ?_
    rintro e w4 ⟨rfl, b4⟩
    go_wp2
    go_ret
    exact ⟨rfl, HB0.out.trans ((HBo.out.trans (b4.mono HBo.out.size)).mono HB0.out.size)⟩
  | true =>
  have HSm1 := Lib.hid (lightP_small hl1)
  rw [hl1] at HL1
  clear hl1
  by_cases g1 : 100 < mv.size
  · have i1 : (100 : Int) < mv.size := by omega
    clear HMm HMo
    go_enter Try.func3, Try.ntmps3
    go_wp2_with fail
    rw [HW0.out]
    refine HL1.out.mono ?_
    rintro e w1 ⟨rfl, b1⟩
    have HBo := Lib.hid b1
    clear b1
    obtain ⟨x0, x1, x2⟩ := HX1.out w1 HBo.out
    obtain ⟨y0, y1, y2⟩ := HX2.out w1 HBo.out
    go_wp2_with fail
    refine (HAl.out _).mono ?_
    rintro e w4 ⟨rfl, b4⟩
    go_wp2
    go_ret
    exact ⟨rfl, HB0.out.trans ((HBo.out.trans (b4.mono HBo.out.size)).mono HB0.out.size)⟩
  have i1 : ¬ (100 : Int) < mv.size := by omega
  by_cases g2 : 100 < pv.size
  · have i2 : (100 : Int) < pv.size := by omega
    clear HMm HMo
    go_enter Try.func3, Try.ntmps3
    go_wp2_with fail
    rw [HW0.out]
    refine HL1.out.mono ?_
    rintro e w1 ⟨rfl, b1⟩
    have HBo := Lib.hid b1
    clear b1
    obtain ⟨x0, x1, x2⟩ := HX1.out w1 HBo.out
    obtain ⟨y0, y1, y2⟩ := HX2.out w1 HBo.out
    go_wp2_with fail
    refine (HAl.out _).mono ?_
    rintro e w4 ⟨rfl, b4⟩
    go_wp2
    go_ret
    exact ⟨rfl, HB0.out.trans ((HBo.out.trans (b4.mono HBo.out.size)).mono HB0.out.size)⟩
  have i2 : ¬ (100 : Int) < pv.size := by omega
  cases hmm : matB (mn, mo, mv) with
  | false =>
    rw [hmm] at HMm
    clear hmm HMo
    go_enter Try.func3, Try.ntmps3
    go_wp2_with fail
    rw [HW0.out]
    refine HL1.out.mono ?_
    rintro e w1 ⟨rfl, b1⟩
    have HBo := Lib.hid b1
    clear b1
    obtain ⟨x0, x1, x2⟩ := HX1.out w1 HBo.out
    obtain ⟨y0, y1, y2⟩ := HX2.out w1 HBo.out
    go_wp2_with fail
    refine (HMm.out _ (by omega)).mono ?_
    rintro e w2 ⟨rfl, b2⟩
    have HBm := Lib.hid (HBo.out.trans (b2.mono HBo.out.size))
    clear b2 HBo x0 x1 x2 y0 y1 y2
    have HBo := HBm
    clear HBm
    obtain ⟨y0, y1, y2⟩ := HX2.out w2 HBo.out
    go_wp2_with fail
    refine (HAl.out _).mono ?_
    rintro e w4 ⟨rfl, b4⟩
    go_wp2
    go_ret
    exact ⟨rfl, HB0.out.trans ((HBo.out.trans (b4.mono HBo.out.size)).mono HB0.out.size)⟩
  | true =>
  rw [hmm] at HMm
  cases hmo : matB (pn, po, pv) with
  | false =>
    rw [hmo] at HMo
    clear hmm hmo
    go_enter Try.func3, Try.ntmps3
    go_wp2_with fail
    rw [HW0.out]
    refine HL1.out.mono ?_
    rintro e w1 ⟨rfl, b1⟩
    have HBo := Lib.hid b1
    clear b1
    obtain ⟨x0, x1, x2⟩ := HX1.out w1 HBo.out
    obtain ⟨y0, y1, y2⟩ := HX2.out w1 HBo.out
    go_wp2_with fail
    refine (HMm.out _ (by omega)).mono ?_
    rintro e w2 ⟨rfl, b2⟩
    have HBm := Lib.hid (HBo.out.trans (b2.mono HBo.out.size))
    clear b2 HBo x0 x1 x2 y0 y1 y2
    have HBo := HBm
    clear HBm
    obtain ⟨y0, y1, y2⟩ := HX2.out w2 HBo.out
    go_wp2_with fail
    refine (HMo.out _ (by omega)).mono ?_
    rintro e w3 ⟨rfl, b3⟩
    have HBm := Lib.hid (HBo.out.trans (b3.mono HBo.out.size))
    clear b3 HBo y0 y1 y2
    have HBo := HBm
    clear HBm
    obtain ⟨y0, y1, y2⟩ := HX2.out w3 HBo.out
    go_wp2_with fail
    refine (HAl.out _).mono ?_
    rintro e w4 ⟨rfl, b4⟩
    go_wp2
    go_ret
    exact ⟨rfl, HB0.out.trans ((HBo.out.trans (b4.mono HBo.out.size)).mono HB0.out.size)⟩
  | true =>
  rw [hmo] at HMo
  have hmv : mv.size ≤ 100 := by omega
  have hpv : pv.size ≤ 100 := by omega
  obtain ⟨nt, hnt⟩ : ∃ nt, notOp mo = nt := ⟨_, rfl⟩
  have hcase := not_cases hmm
  rw [hnt] at hcase
  have hmn : matB (mn, nt, mv) = true := by rw [← hnt]; exact mat_not hmm
  have hsz := mat_name hmm
  have hsp := mat_name hmo
  have HOk := Lib.hid (show Mat.Ok (mn, mo, mv) ∧ Mat.Ok (mn, nt, mv) ∧ Mat.Ok (pn, po, pv) from ⟨⟨by show mn.size ≤ _; omega, by show mv.size ≤ _; omega⟩, ⟨by show mn.size ≤ _; omega, by show mv.size ≤ _; omega⟩, ⟨by show pn.size ≤ _; omega, by show pv.size ≤ _; omega⟩⟩)
  have HOK := Lib.hid (show matsB [(mn, mo, mv)] = true ∧ matsB [(mn, nt, mv)] = true ∧ matsB [(mn, mo, mv), (pn, po, pv)] = true ∧ matsB [(mn, mo, mv), (mn, nt, mv)] = true from ⟨mats_one hmm, mats_one hmn, mats_two hmm hmo, mats_two hmm hmn⟩)
  have HSum := Lib.hid (fun xs => (show (selC xs [(mn, mo, mv)]).length + (selC xs [(mn, nt, mv)]).length = xs.length from by rw [← hnt]; exact sel_sum hmm xs))
  have HNon := Lib.hid (fun xs => (show selC xs [(mn, mo, mv), (mn, nt, mv)] = [] from by rw [← hnt]; exact sel_none hmm xs))
  clear hmm hmo hnt hmn hsz hsp
  go_enter Try.func3, Try.ntmps3
  go_wp2_with fail
  rw [HW0.out]
  refine HL1.out.mono ?_
  rintro e w1 ⟨rfl, b1⟩
  have HBo := Lib.hid b1
  clear b1
  obtain ⟨x0, x1, x2⟩ := HX1.out w1 HBo.out
  obtain ⟨y0, y1, y2⟩ := HX2.out w1 HBo.out
  go_wp2_with fail
  refine (HMm.out _ (by omega)).mono ?_
  rintro e w2 ⟨rfl, b2⟩
  have HBm := Lib.hid (HBo.out.trans (b2.mono HBo.out.size))
  clear b2 HBo x0 x1 x2 y0 y1 y2
  have HBo := HBm
  clear HBm
  obtain ⟨y0, y1, y2⟩ := HX2.out w2 HBo.out
  go_wp2_with fail
  refine (HMo.out _ (by omega)).mono ?_
  rintro e w3 ⟨rfl, b3⟩
  have HBm := Lib.hid (HBo.out.trans (b3.mono HBo.out.size))
  clear b3 HBo y0 y1 y2
  have HBo := HBm
  clear HBm
  obtain ⟨y0, y1, y2⟩ := HX2.out w3 HBo.out
  go_wp2_with fail
  refine (HAl.out _).mono ?_
  rintro e w5 ⟨rfl, b5⟩
  have HB5 := Lib.hid (HBo.out.trans (b5.mono HBo.out.size))
  clear b5 HBo HL1 HAl HMm HMo y0 y1 y2
  have hz5 := HB5.out.size
  go_wp2_with fail
  go_loopw [8] (fun v8 wr => ∃ k : Nat, v8 = .int .i64 k ∧ k ≤ n1 ∧ Hid (Own w5.heap.size wr w5.heap.size (putsC [] (l.take k))) ∧ Hid (Below w5.heap.size w5 wr)) (fun v8 _ => n1 - (Go.RowKit.intOf v8).toNat)
  case atStart => exact ⟨0, rfl, Nat.zero_le _, own_new w5 _ _ (Nat.le_refl _) (Below.refl _ _), (Below.refl _ _).alloc (Nat.le_refl _) _⟩
  case round =>
    obtain ⟨k, rfl, hk, HO, HB⟩ := hrel
    by_cases hkn : k < n1
    · have j1 : (k : Int) < n1 := by omega
      obtain ⟨x, hx⟩ : ∃ x, l[k]? = some x := ⟨_, List.getElem?_eq_getElem (by rw [HN1.out]; exact hkn)⟩
      have hBw : Below w.heap.size w wr := HB0.out.trans ((HB5.out.trans (HB.out.mono hz5)).mono HB0.out.size)
      obtain ⟨b, off, rfl, oL, cL, a1, a2, a3, a4, a5, a6⟩ := (HS1.out.below hBw).at hx
      have hfk : Fine (putsC [] (l.take k)) := fine_puts _ fine_nil fun y hy => HSm1.out y (List.mem_of_mem_take hy)
      have HC := Lib.hid (put_own w5.heap.size wr.drew w5.heap.size x.2.1.length cL (putsC [] (l.take k)) oL x.2.1 x.2.2.1 x.2.2.2 (HO.out.on (Below.refl _ _).drew) hfk rfl (HSm1.out x (List.mem_of_getElem? hx)) (a3.below (Below.refl _ _).drew))
      have HST := Lib.hid (puts_step (xs := []) hx)
      clear hBw a1 a3 a4 hfk hx
      generalize x.2.1.length = nL at a2 HC
      generalize (putC (putsC [] (l.take k)) x.2.1 x.2.2.1 x.2.2.2).2 = er at HC
      go_wp2_with fail
      go_region_with (go_at_call 7; refine HC.out.mono ?_; rintro e w4 ⟨rfl, b4, q4⟩)
      all_goals
        have HB4 := Lib.hid (HB.out.trans ((Below.refl _ _).drew.trans b4))
        have HO4 := Lib.hid (show Own w5.heap.size w4 w5.heap.size (putsC [] (l.take (k + 1))) by rw [HST.out]; exact q4)
        clear b4 q4
        go_wp2
        go_roundw
        case rel => exact ⟨k + 1, by go_num, by omega, HO4, HB4⟩
        case measure => simp [Go.RowKit.intOf]; omega
    · have j1 : ¬ (k : Int) < n1 := by omega
      have HZ := Lib.hid (show l.take k = l from List.take_of_length_le (by rw [HN1.out]; omega))
      rw [HZ.out] at HO
      obtain ⟨wo, hwo⟩ : ∃ wo : World, wr = wo := ⟨wr, rfl⟩
      subst wr
      obtain ⟨xs, hxs⟩ : ∃ xs, putsC [] l = xs := ⟨_, rfl⟩
      have hf : Fine xs := by rw [← hxs]; exact fine_puts _ fine_nil HSm1.out
      rw [hxs] at HO
      have HF := Lib.hid hf
      have hx40 := hf.1
      have HBo := Lib.hid (HB5.out.trans (HB.out.mono hz5))
      have HSu := Lib.hid (HSum.out xs)
      have HNo := Lib.hid (HNon.out xs)
      have HLe := Lib.hid (sel_two_le (mn, mo, mv) (pn, po, pv) xs)
      obtain ⟨ya, hya⟩ : ∃ ya, selC xs [(mn, mo, mv)] = ya := ⟨_, rfl⟩
      obtain ⟨yb, hyb⟩ : ∃ yb, selC xs [(mn, nt, mv)] = yb := ⟨_, rfl⟩
      obtain ⟨yc, hyc⟩ : ∃ yc, selC xs [(mn, mo, mv), (pn, po, pv)] = yc := ⟨_, rfl⟩
      obtain ⟨nA, hnA⟩ : ∃ n, ya.length = n := ⟨_, rfl⟩
      obtain ⟨nB, hnB⟩ : ∃ n, yb.length = n := ⟨_, rfl⟩
      obtain ⟨nC, hnC⟩ : ∃ n, yc.length = n := ⟨_, rfl⟩
      obtain ⟨nx, hnx⟩ : ∃ n, xs.length = n := ⟨_, rfl⟩
      have hsu : nA + nB = nx := by have := HSu.out; rw [hya, hyb, hnA, hnB, hnx] at this; exact this
      have hle : nC ≤ nA := by have := HLe.out; rw [hya, hyc, hnA, hnC] at this; exact this
      have hnx9 : nx ≤ 1000 := by rw [← hnx]; omega
      have k0 : IntKind.i64.wrap ((nA : Int) + nB) = (nx : Int) := by rw [IntKind.wrap_i64]; omega
      have j3 : (nC : Int) ≤ nA := by omega
      have HS_1 := Lib.hid (fun W (h : Own w5.heap.size W w5.heap.size xs) => sel_gen w5.heap.size w5.heap.size xs ya nA 1 [(mn, mo, mv)] _ W h hf rfl (by decide) (fun m hm => by simp at hm; subst hm; exact HOk.out.1) HOK.out.1 hya hnA (one_sees W mn mv mo))
      have HS_2 := Lib.hid (fun W (h : Own w5.heap.size W w5.heap.size xs) => sel_gen w5.heap.size w5.heap.size xs yb nB 1 [(mn, nt, mv)] _ W h hf rfl (by decide) (fun m hm => by simp at hm; subst hm; exact HOk.out.2.1) HOK.out.2.1 hyb hnB (one_sees W mn mv nt))
      have HS_3 := Lib.hid (fun W (h : Own w5.heap.size W w5.heap.size xs) => sel_gen w5.heap.size w5.heap.size xs yc nC 2 [(mn, mo, mv), (pn, po, pv)] _ W h hf rfl (by decide) (fun m hm => by simp at hm; rcases hm with rfl | rfl <;> first | exact HOk.out.1 | exact HOk.out.2.2) HOK.out.2.2.1 hyc hnC (two_sees W mn mv pn pv mo po))
      have HS_4 := Lib.hid (fun W (h : Own w5.heap.size W w5.heap.size xs) => sel_gen w5.heap.size w5.heap.size xs [] 0 2 [(mn, mo, mv), (mn, nt, mv)] _ W h hf rfl (by decide) (fun m hm => by simp at hm; rcases hm with rfl | rfl <;> first | exact HOk.out.1 | exact HOk.out.2.1) HOK.out.2.2.2 HNo.out rfl (two_sees W mn mv mn mv mo nt))
      have HNX := Lib.hid hnx
      obtain ⟨x0, x1, x2⟩ := HX1.out wo HBo.out
      have hba : Below W0.heap.size W0 (wo.alloc (Obj.cells #[.string mn, .int .i64 mo, .string mv] 24)) := HBo.out.alloc HBo.out.size _
      obtain ⟨v0, v1, v2⟩ := HX1.out ((wo.alloc (Obj.cells #[.string mn, .int .i64 mo, .string mv] 24)).alloc (Obj.cells #[.int .i64 0, .int .i64 2, .int .i64 1, .int .i64 4, .int .i64 3] 3)) (hba.alloc hba.size _)
      clear hba
      obtain ⟨wz, hwz⟩ : ∃ wz, (wo.alloc (Obj.cells #[.string mn, .int .i64 nt, .string mv] 24)).alloc (Obj.cells #[.int .i64 0, .int .i64 2, .int .i64 1, .int .i64 4, .int .i64 3] 3) = wz := ⟨_, rfl⟩
      have hzz : wz.heap.size = wo.heap.size + 2 := by rw [← hwz]; simp
      have hbz : Below wo.heap.size wo wz := by rw [← hwz]; exact ((Below.refl _ _).alloc (Nat.le_refl _) _).alloc (by simp) _
      have HX3 := Lib.hid (fun W (h : Below wz.heap.size wz W) => box_three wo mn mv nt W (by
        rw [← hwz] at h
        exact ((Below.refl _ _).alloc (Nat.le_refl _) _).trans (h.mono (by simp))))
      have HWZ := Lib.hid hwz
      have HBz := Lib.hid (HBo.out.trans (hbz.mono HBo.out.size))
      have HOz := Lib.hid (HO.out.on hbz)
      obtain ⟨s0, s1, s2⟩ := HX1.out wz HBz.out
      rw [← hwz] at s0 s1 s2
      clear hf hxs hya hyb hyc hnA hnB hnC hnx HZ HB HO hwz hbz HSum HNon HSu HNo HLe HOK HOk HB5
      rcases hcase with ⟨rfl, rfl⟩ | ⟨rfl, rfl⟩ | ⟨rfl, rfl⟩ | ⟨rfl, rfl⟩
      all_goals
        go_wp2_with fail
        rw [HWZ.out, ← hzz]
        refine (HS_1.out wz HOz.out).mono ?_
        rintro e w6 ⟨⟨oa, ca, rfl⟩, b6⟩
        have HO6 := Lib.hid (HOz.out.on b6)
        have HB6 := Lib.hid (HBz.out.trans (b6.mono HBz.out.size))
        have HE6 := Lib.hid b6
        obtain ⟨z0, z1, z2⟩ := HX3.out w6 b6
        clear b6 HS_1 x0 x1 x2 v0 v1 v2 s0 s1 s2
        go_wp2_with fail
        refine (HS_2.out w6 HO6.out).mono ?_
        rintro e w7 ⟨⟨ob, cb, rfl⟩, b7⟩
        have HO7 := Lib.hid (HO6.out.on b7)
        have HB7 := Lib.hid (HB6.out.trans (b7.mono HB6.out.size))
        have HE7 := Lib.hid (HE6.out.trans (b7.mono HE6.out.size))
        clear b7 HS_2 z0 z1 z2 HB6 HO6
        obtain ⟨x0, x1, x2⟩ := HX1.out w7 HB7.out
        obtain ⟨y0, y1, y2⟩ := HX2.out w7 HB7.out
        go_wp2_with fail
        refine (HS_3.out w7 HO7.out).mono ?_
        rintro e w8 ⟨⟨oc, cc, rfl⟩, b8⟩
        have HO8 := Lib.hid (HO7.out.on b8)
        have HB8 := Lib.hid (HB7.out.trans (b8.mono HB7.out.size))
        have HE8 := Lib.hid (HE7.out.trans (b8.mono HE7.out.size))
        clear b8 HS_3 x0 x1 x2 y0 y1 y2 HB7 HO7
        obtain ⟨x0, x1, x2⟩ := HX1.out w8 HB8.out
        obtain ⟨z0, z1, z2⟩ := HX3.out w8 HE8.out
        go_wp2_with fail
        refine (HS_4.out w8 HO8.out).mono ?_
        rintro e w9 ⟨⟨od, cd, rfl⟩, b9⟩
        have HO9 := Lib.hid (HO8.out.on b9)
        have HB9 := Lib.hid (HB8.out.trans (b9.mono HB8.out.size))
        have HA9 := Lib.hid (all_any _ w5.heap.size xs w9 HO9.out HF.out)
        clear b9 HS_4 x0 x1 x2 z0 z1 z2 HB8 HO8
        go_wp2_with fail
        refine HA9.out.mono ?_
        rintro e w10 ⟨⟨v, us, rfl, hA⟩, b10⟩
        obtain ⟨oe, ce, rfl, _, _⟩ := hA.sees
        rw [HNX.out]
        have HB10 := Lib.hid (HB9.out.trans (b10.mono HB9.out.size))
        clear b10 hA
        go_wp2
        go_ret
        exact ⟨rfl, HB0.out.trans (HB10.out.mono HB0.out.size)⟩
end Go.Proofs.Ytmidpekkomhogaa.Sto
