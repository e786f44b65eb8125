/- Vectors: which rows the document calls right. -/
import Derived.Test.YtbdnonphkobkoaaGreatGk
import Derived.Test.YtbdnonphkobkoaaGreatVdp
import Derived.Deep.QuietTactic
namespace Go.Proofs.YtbdnonphkobkoaaGreat.Vec
open Go.RowKit Go.Lib

theorem labsB_at {t xs : List Rw} {i : Nat} {y x : Rw} (hy : t[i]? = some y) (hx : xs[i]? = some x) : labsB (t.drop i) (xs.drop i) = (decide (cmpL y.1 x.1 = 0) && labsB (t.drop (i + 1)) (xs.drop (i + 1))) := by
  rw [drop_atG hy, drop_atG hx]
  rfl
set_option maxHeartbeats 4000000 in
set_option maxRecDepth 100000 in
theorem rrightR_any (o : Option Addr) (n c : Nat) (xs : List Rw) (w : World) (B : Nat) (hB : B ≤ w.heap.size) (hn : xs.length = n) (hm : n ≤ maxLen) (hl : SmR xs) (hS : RowsS w B o xs) :
    Calls Tryz.prog 25 #[.slice o n c] w fun e w' => e = .returned (.bool (rightR xs)) ∧ Below w.heap.size w w' := by
  have HT := Lib.hid (rtidyR_any o n c xs w B hB hn hm hl hS)
  have HS := Lib.hid hS
  have HN := Lib.hid hn
  obtain ⟨er, her⟩ : ∃ er, (tidyR xs).2 = er := ⟨_, rfl⟩
  obtain ⟨t, ht⟩ : ∃ t, (tidyR xs).1 = t := ⟨_, rfl⟩
  have HTO := Lib.hid (show OutB B w.heap.size (tidyR xs) = OutB B w.heap.size (t, er) from by rw [← her, ← ht])
  rw [HTO.out] at HT
  have hm2 : n ≤ 9223372036854775807 := Nat.le_trans hm (by unfold maxLen; omega)
  by_cases h0 : er = 0
  · subst h0
    obtain ⟨hlen, hrt⟩ := rightD_ok her
    rw [ht] at hlen hrt
    have HR := Lib.hid hrt
    have HTN := Lib.hid (show t.length = n from by rw [hlen, hn])
    clear her ht hlen hrt hS hn hl HTO hm
    go_enter Tryz.func25, Tryz.ntmps25
    go_wp2_with fail
    refine HT.out.mono ?_
    rintro e w1 ⟨⟨v, rfl, us, ho⟩, hb⟩
    obtain ⟨oT, cT, rfl, hsT, _⟩ := ho.sees (frow (B := B))
    rw [HTN.out]
    have HST := Lib.hid hsT
    have HS1 := Lib.hid (HS.out.below frow hb)
    have HB := Lib.hid hb
    clear ho hsT hb HT HS
    go_wp2
    go_loopw [5] (fun v5 wr => ∃ i : Nat, v5 = .int .i64 i ∧ i ≤ n ∧ Hid (rightR xs = labsB (t.drop i) (xs.drop i)) ∧ Hid (∃ q, wr = w1.drewN q)) (fun v5 _ => n - (Go.RowKit.intOf v5).toNat)
    case atStart => exact ⟨0, rfl, Nat.zero_le _, HR, Lib.hid ⟨0, rfl⟩⟩
    case round =>
      obtain ⟨i, rfl, hi, HL, HQ⟩ := hrel
      by_cases hin : i < n
      · have j1 : (i : Int) < n := by omega
        obtain ⟨y, hy⟩ := get_ltG HTN.out hin
        obtain ⟨x, hx⟩ := get_ltG HN.out hin
        obtain ⟨b1, f1, rfl, hR1⟩ := (HST.out.below frow (quietB HQ.out)).at hy
        obtain ⟨b2, f2, rfl, hR2⟩ := (HS1.out.below frow (quietB HQ.out)).at hx
        obtain ⟨oY, cY, a0, _, hY, lY⟩ := row_at hR1 hy
        obtain ⟨oX, cX, a1, _, hX, lX⟩ := row_at hR2 hx
        have HAt := Lib.hid (labsB_at hy hx)
        have HCQ := Lib.hid (fun q => rcompare_quiet oY oX cY cX y.1 x.1 (wr.drewN q) lY lX (hY.sees.below (quietB ⟨q, rfl⟩)) (hX.sees.below (quietB ⟨q, rfl⟩)))
        obtain ⟨cc, hcc⟩ : ∃ cc, cmpL y.1 x.1 = cc := ⟨_, rfl⟩
        rw [hcc] at HCQ HAt
        clear hy hx hR1 hR2 hY hX lY lX hcc
        generalize y.1.length = nY at *
        generalize x.1.length = nX at *
        by_cases hc0 : cc = 0
        · have t0 : (cc != 0) = false := by rw [hc0]; rfl
          have H2 := Lib.hid (show rightR xs = labsB (t.drop (i + 1)) (xs.drop (i + 1)) from by rw [HL.out, HAt.out, hc0]; rfl)
          clear hc0
          go_wp2_with fail
          go_quiet (first | (go_at_call 51; exact Calls.quiet_of (HCQ.out _)))
          have HQ2 := Lib.hid (quietQ HQ.out nq)
          go_wp2
          go_roundw
          case rel => exact ⟨i + 1, by go_num, by omega, H2, HQ2⟩
          case measure => simp [Go.RowKit.intOf]; omega
        · have t0 : (cc != 0) = true := by rw [bne_iff_ne]; exact hc0
          have H2 := Lib.hid (show rightR xs = false from by rw [HL.out, HAt.out, decide_eq_false hc0]; rfl)
          clear hc0
          go_wp2_with fail
          go_quiet (first | (go_at_call 51; exact Calls.quiet_of (HCQ.out _)))
          have HQ2 := Lib.hid (quietQ HQ.out nq)
          go_wp2
          go_ret
          exact ⟨by rw [H2.out]; rfl, HB.out.trans ((quietB HQ2.out).mono HB.out.size)⟩
      · have j1 : ¬ (i : Int) < n := by omega
        have H2 := Lib.hid (show rightR xs = true from by rw [HL.out, List.drop_of_length_le (by rw [HTN.out]; omega), List.drop_of_length_le (by rw [HN.out]; omega)]; rfl)
        go_wp2
        go_ret
        exact ⟨by rw [H2.out]; rfl, HB.out.trans ((quietB HQ.out).mono HB.out.size)⟩
  · have H2 := Lib.hid (rightD_err (xs := xs) (by rw [her]; exact h0))
    have t0 : (er != 0) = true := by rw [bne_iff_ne]; exact h0
    clear her ht hS hn hl h0 hm hm2
    go_enter Tryz.func25, Tryz.ntmps25
    go_wp2_with fail
    refine HT.out.mono ?_
    rintro e w1 ⟨⟨v, rfl, us, ho⟩, hb⟩
    clear ho
    go_wp2
    go_ret
    exact ⟨by rw [H2.out]; rfl, hb⟩
end Go.Proofs.YtbdnonphkobkoaaGreat.Vec
