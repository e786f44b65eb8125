/- The document's Heads. -/
import Derived.Test.YtlnlbahggbbaeaaGreatMma
import Derived.Test.YtlnlbahggbbaeaaGreatMle
import Derived.Test.YtlnlbahggbbaeaaGreatMll
import Derived.Deep.RegionHeld3
import Derived.Deep.QuietTactic
import Derived.Deep.AppendLies
import Derived.Maps.AppendAt
namespace Go.Proofs.YtlnlbahggbbaeaaGreat.Mrg
open Go.RowKit Go.Lib Go.Proofs.YtlnlbahggbbaeaaGreat Go.Proofs.YtlnlbahggbbaeaaGreat.Vec Go.Proofs.YtlnlbahggbbaeaaGreat.Stb

def lenV : Value → Nat
  | .slice _ n _ => n
  | _ => 0
theorem row_head {w : World} {B : Nat} {m : Ls} {j : Nat} {y : Rw} (h : LsS w B m) (hy : m.xs[j]? = some y) : ∃ b off oL cL, m.o = some ⟨b, off, none⟩ ∧ b < w.heap.size ∧ w.cell? ⟨b, off + j * 2, none⟩ = some (.slice oL y.1.length cL) ∧ w.cell? ⟨b, off + j * 2 + 1, none⟩ = some (.int .i64 y.2) ∧ Go.Proofs.YtlnlbahggbbaeaaGreat.SeesO w oL y.1 ∧ y.1.length ≤ maxLen := by
  obtain ⟨b, off, e, hR⟩ := (show SeeG (ERow B) 2 w m.o m.xs from h.rows).at hy
  obtain ⟨oL, cL, r1, r2, hL, lL⟩ := row_at hR hy
  exact ⟨b, off, oL, cL, e, hR.low, r1, r2, hL.sees, lL⟩

set_option maxHeartbeats 16000000 in
set_option maxRecDepth 100000 in
theorem dheads_any (by_ : Int) (o : Option Addr) (n c B : Nat) (ms : List Ls) (w : World) (hn : ms.length = n) (hn20 : n ≤ 20) (hS : ListS w B o ms) (hsum : (lsx ms).flatten.length ≤ 200) :
    Calls Tryz.prog 14 #[.int .i64 by_, .slice o n c] w fun e w' => (∃ v, e = .returned v ∧ w'.ownsRow w.heap.size 3 1 v (mergeN (lessR by_) (lsx ms).flatten.length (lsx ms)).length ((mergeN (lessR by_) (lsx ms).flatten.length (lsx ms)).map fun p => .int .i64 (p.1 : Nat))) ∧ Below w.heap.size w w' := by
  obtain ⟨i0, hi, hz0, hz1, hz2⟩ := info_parts infoInt
  have HN := Lib.hid hn
  have HS := Lib.hid hS
  obtain ⟨all, hall⟩ : ∃ all, mergeN (lessR by_) (lsx ms).flatten.length (lsx ms) = all := ⟨_, rfl⟩
  rw [hall]
  have HALL := Lib.hid hall
  obtain ⟨N, hN⟩ : ∃ N, all.length = N := ⟨_, rfl⟩
  have hN200 : N ≤ 200 := by rw [← hN, ← hall, mergeN_len (swo_less by_) _ _ (Nat.le_refl _)]; exact hsum
  rw [hN]
  have HNN := Lib.hid hN
  obtain ⟨r, hr⟩ : ∃ r, w.heap.size = r := ⟨_, rfl⟩
  have HRR := Lib.hid hr
  rw [hr]
  clear hn hS hsum hall hN hr
  go_enter Tryz.func14, Tryz.ntmps14
  go_wp2_with (first | (at_make; refine wpList_make_row _ rfl _ _ 40 rfl 3 i0 (.int .i64 0) Tryz.underlying40 hi hz0 hz1 rfl .i64 .i64 n rfl rfl (by rw [hz2]; omega) (by omega) ?_) | fail)
  have hw3 := World.rowIs_made w (.int .i64 0) n 3
  have hb3 := (Below.refl r w).alloc (by rw [HRR.out]; exact Nat.le_refl _) (.cells (madeCells #[.int .i64 0] n) 3)
  have hz3 : (w.alloc (.cells (madeCells #[.int .i64 0] n) 3)).heap.size = r + 1 := by rw [World.size_alloc, HRR.out]
  rw [HRR.out] at hw3 ⊢
  obtain ⟨w3, hw⟩ : ∃ w3, w.alloc (.cells (madeCells #[.int .i64 0] n) 3) = w3 := ⟨_, rfl⟩
  rw [hw] at hw3 hb3 hz3 ⊢
  have HW3 := Lib.hid hw3
  have HB3 := Lib.hid hb3
  clear hw hw3 hb3
  go_wp2
  go_loopw [6, 7, 8] (fun v6 _ _ wr => ∃ (j : Nat) (at_ : Nat → Nat) (oh : Option Addr) (ch : Nat), v6 = .slice oh j ch ∧ j ≤ N ∧ Hid (∀ i, at_ i ≤ j) ∧ Hid (wr.rowIs r 3 n (fun i => .int .i64 (at_ i : Nat))) ∧ Hid (wr.ownsRow (r + 1) 3 1 (.slice oh j ch) j ((all.take j).map fun p => .int .i64 (p.1 : Nat))) ∧ Hid (mergeN (lessR by_) (rem (lsx ms) at_).flatten.length (rem (lsx ms) at_) = all.drop j) ∧ Hid (Below r w wr ∧ r + 1 ≤ wr.heap.size)) (fun v6 _ _ _ => N - lenV v6)
  case atStart => exact ⟨0, fun _ => 0, none, 0, rfl, Nat.zero_le _, Lib.hid (fun _ => Nat.le_refl _), Lib.hid (HW3.out.congr (fun i _ => rfl)), Lib.hid (World.ownsRow_nil _ _ _ _), Lib.hid (by rw [rem_zero, HALL.out]; rfl), Lib.hid ⟨HB3.out, by omega⟩⟩
  case round =>
    obtain ⟨j, at_, oh, ch, rfl, hj, HAT, HR, HO, HM, HB⟩ := hrel
    obtain ⟨R, hRm⟩ : ∃ R, rem (lsx ms) at_ = R := ⟨_, rfl⟩
    have HRL := Lib.hid (show R.length = n by rw [← hRm, rem_len]; unfold lsx; rw [List.length_map, HN.out])
    have HREM := Lib.hid hRm
    rw [hRm] at HM
    obtain ⟨wo, hwo⟩ : ∃ wo : World, wr = wo := ⟨_, rfl⟩
    subst wr
    clear hRm
    go_wp2_with fail
    go_loopw [7, 8] (fun v7 v8 wr => ∃ i : Nat, v7 = .int .i64 (kI (pick (lessR by_) (R.take i))) ∧ v8 = .int .i64 (i : Nat) ∧ i ≤ n ∧ Hid (Below wo.heap.size wo wr)) (fun _ v8 _ => n - (Go.RowKit.intOf v8).toNat)
    case atStart => exact ⟨0, rfl, rfl, Nat.zero_le _, Below.refl _ _⟩
    case round =>
      obtain ⟨i, rfl, rfl, hin, HBi⟩ := hrel
      have i0' : (0 : Int) ≤ i := by omega
      obtain ⟨q0, hq0⟩ : ∃ q, pick (lessR by_) (R.take i) = q := ⟨_, rfl⟩
      by_cases hlt : i < n
      · obtain ⟨m, hm⟩ := get_ltG HN.out hlt
        obtain ⟨b, off, rfl, hlow, hcs⟩ : ∃ b off, o = some ⟨b, off, none⟩ ∧ b < w.heap.size ∧ ∀ (j : Nat) (m : Ls), ms[j]? = some m → w.cell? ⟨b, off + j, none⟩ = some (.slice m.o m.xs.length m.c) ∧ LsS w B m := by
          rcases HS.out with h | h
          · have := HN.out; rw [h] at this; simp at this; omega
          · exact h
        rw [HRR.out] at hlow
        have HBw := Lib.hid (HB.out.1.trans (HBi.out.mono (show r ≤ wo.heap.size from by have := HB.out.2; omega)))
        have HRw := Lib.hid (HR.out.of_block (HBi.out.block r (by have := HB.out.2; omega)))
        obtain ⟨hc, hLm⟩ := hcs i m hm
        rw [← HBw.out.cell (p := ⟨b, off + i, none⟩) hlow] at hc
        have hri := HRw.out.cell hlt
        have hls : (lsx ms)[i]? = some m.xs := by unfold lsx; rw [List.getElem?_map, hm]; rfl
        have hlen : (R.take i).length = i := by rw [List.length_take, HRL.out]; omega
        have HSN := Lib.hid (fun Ri (h : R[i]? = some Ri) => show pick (lessR by_) (R.take (i + 1)) = snocP (lessR by_) q0 i Ri by
          rw [take_atG h, pick_snoc (swo_less by_), hq0, hlen])
        have hhd := rem_head (at_ := at_) hls
        rw [HREM.out] at hhd
        have HHD := Lib.hid hhd
        obtain ⟨mo, hmo⟩ : ∃ mo, m.o = mo := ⟨_, rfl⟩
        obtain ⟨mn, hmn⟩ : ∃ mn, m.xs.length = mn := ⟨_, rfl⟩
        obtain ⟨mc, hmc⟩ : ∃ mc, m.c = mc := ⟨_, rfl⟩
        obtain ⟨qi, hqi⟩ : ∃ qi, at_ i = qi := ⟨_, rfl⟩
        rw [hmo, hmn, hmc] at hc
        rw [hqi] at hri
        have i2 : (i : Int) < n := by omega
        have wk : IntKind.i64.wrap ((i : Int) + 1) = ((i + 1 : Nat) : Int) := by rw [IntKind.wrap_i64]; omega
        rw [hq0]
        by_cases hA : mn ≤ qi
        · have HS1 := Lib.hid (show pick (lessR by_) (R.take (i + 1)) = q0 by rw [HSN.out [] (hhd.2 (by rw [hmn, hqi]; exact hA))]; rfl)
          obtain ⟨kq, hkq⟩ : ∃ kq, kI q0 = kq := ⟨_, rfl⟩
          have HKQ := Lib.hid hkq
          rw [hkq]
          have i4 : (mn : Int) ≤ qi := by omega
          have i5 : ¬ qi < mn := by omega
          have i6 : decide (qi < mn) = false := decide_eq_false i5
          clear hhd hls hm hLm hcs hmo hmn hmc hqi hkq hq0 HSN HHD hlen
          go_wp2_with fail
          go_quiet (fail)
          go_wp2
          go_roundw
          case measure => simp [Go.RowKit.intOf]; omega
          case rel => exact ⟨i + 1, by rw [HS1.out, HKQ.out], by simp, by omega, HBi.out.trans ((quietB ⟨_, rfl⟩).mono HBi.out.size)⟩
        · have hA2 : qi < mn := by omega
          have i4 : (qi : Int) < mn := by omega
          obtain ⟨y, t, hy, hRi⟩ := hhd.1 (by rw [hmn, hqi]; exact hA2)
          cases q0 with
          | none =>
            have HS1 := Lib.hid (HSN.out _ hRi)
            rw [show kI (none : Option (Nat × Rw)) = -1 from rfl]
            clear hhd hls hm hLm hcs hmo hmn hmc hqi hq0 HSN HHD hlen hy hRi
            go_wp2_with fail
            go_quiet (fail)
            go_wp2
            go_roundw
            case measure => simp [Go.RowKit.intOf]; omega
            case rel => exact ⟨i + 1, by rw [HS1.out]; rfl, by simp, by omega, HBi.out.trans ((quietB ⟨_, rfl⟩).mono HBi.out.size)⟩
          | some p =>
            obtain ⟨hpi, t2, hRk⟩ := pick_get (swo_less by_) hq0
            rw [hlen] at hpi
            have hRk2 : R[p.1]? = some (p.2 :: t2) := by rw [List.getElem?_take, if_pos hpi] at hRk; exact hRk
            obtain ⟨l2, hl2, hl3⟩ := rem_get (ls := lsx ms) (at_ := at_) (by rw [HREM.out]; exact hRk2)
            obtain ⟨m2, hm2, rfl⟩ : ∃ m2, ms[p.1]? = some m2 ∧ m2.xs = l2 := by
              unfold lsx at hl2
              rw [List.getElem?_map] at hl2
              cases h9 : ms[p.1]? with
              | none => rw [h9] at hl2; cases hl2
              | some m2 => rw [h9] at hl2; cases hl2; exact ⟨m2, rfl, rfl⟩
            obtain ⟨hc2, hLm2⟩ := hcs p.1 m2 hm2
            rw [← HBw.out.cell (p := ⟨b, off + p.1, none⟩) hlow] at hc2
            have hrk := HRw.out.cell (show p.1 < n by omega)
            have hBww : Below w.heap.size w wr := by rw [HRR.out]; exact HBw.out
            obtain ⟨b1, f1, oL, cL, e1, hb1, r1, r2, hL, lL⟩ := row_head (hLm.below hBww) hy
            obtain ⟨b2, f2, oM, cM, e2, hb2, r3, r4, hM, lM⟩ := row_head (hLm2.below hBww) hl3
            have hl4 := (List.getElem?_eq_some_iff.1 hl3).1
            rw [hqi] at r1 r2
            have e3 := hmo.symm.trans e1
            subst e3
            rw [e2] at hc2
            obtain ⟨cc, hcc⟩ : ∃ cc, lessR by_ y p.2 = cc := ⟨_, rfl⟩
            have HS1 := Lib.hid (show pick (lessR by_) (R.take (i + 1)) = if cc = true then some (i, y) else some p by rw [HSN.out _ hRi, ← hcc]; rfl)
            have HCC := Lib.hid hcc
            have HP := Lib.hid (show kI (some p) = ((p.1 : Nat) : Int) from rfl)
            obtain ⟨nL, hnL⟩ : ∃ nL, y.1.length = nL := ⟨_, rfl⟩
            obtain ⟨nM, hnM⟩ : ∃ nM, p.2.1.length = nM := ⟨_, rfl⟩
            obtain ⟨k, hk⟩ : ∃ k, p.1 = k := ⟨_, rfl⟩
            obtain ⟨qk, hqk⟩ : ∃ qk, at_ p.1 = qk := ⟨_, rfl⟩
            obtain ⟨mk, hmk⟩ : ∃ mk, m2.xs.length = mk := ⟨_, rfl⟩
            obtain ⟨ck, hck⟩ : ∃ ck, m2.c = ck := ⟨_, rfl⟩
            obtain ⟨vy, hvy⟩ : ∃ vy, y.2 = vy := ⟨_, rfl⟩
            obtain ⟨vp, hvp⟩ : ∃ vp, p.2.2 = vp := ⟨_, rfl⟩
            rw [hnL] at r1
            rw [hqk, hnM] at r3
            rw [hqk] at r4 hrk hl4
            rw [hmk] at hl4
            rw [hk] at hrk
            rw [hk, hmk, hck] at hc2
            rw [hvy] at r2
            rw [hvp] at r4
            have HC := Lib.hid (fun W (hb : Hid (Below wr.heap.size wr W)) => (rless_any by_ oL oM nL cL nM cM y p.2 W hnL hnM lL lM (hL.below hb.out) (hM.below hb.out)).mono (fun e w' q => show e = .returned (.bool cc) ∧ (w'.cell? ⟨b, off + i, none⟩ = some (.slice (some ⟨b1, f1, none⟩) mn mc) ∧ w'.cell? ⟨r, i, none⟩ = some (.int .i64 (qi : Nat)) ∧ w'.cell? ⟨b1, f1 + qi * 2, none⟩ = some (.slice oL nL cL) ∧ w'.cell? ⟨b1, f1 + qi * 2 + 1, none⟩ = some (.int .i64 vy) ∧ w'.cell? ⟨b, off + k, none⟩ = some (.slice (some ⟨b2, f2, none⟩) mk ck) ∧ w'.cell? ⟨r, k, none⟩ = some (.int .i64 (qk : Nat)) ∧ w'.cell? ⟨b2, f2 + qk * 2, none⟩ = some (.slice oM nM cM) ∧ w'.cell? ⟨b2, f2 + qk * 2 + 1, none⟩ = some (.int .i64 vp)) ∧ Hid (Below wr.heap.size wr w') from
              have h2 := hb.out.trans (q.2.mono hb.out.size)
              have hz : r + 1 ≤ wr.heap.size := Nat.le_trans HB.out.2 HBi.out.size
              ⟨by rw [q.1, hcc], ⟨(h2.cell (p := ⟨b, _, none⟩) (show b < _ by omega)).trans hc, (h2.cell (p := ⟨r, _, none⟩) (show r < _ by omega)).trans hri, (h2.cell (p := ⟨b1, _, none⟩) hb1).trans r1, (h2.cell (p := ⟨b1, _, none⟩) hb1).trans r2, (h2.cell (p := ⟨b, _, none⟩) (show b < _ by omega)).trans hc2, (h2.cell (p := ⟨r, _, none⟩) (show r < _ by omega)).trans hrk, (h2.cell (p := ⟨b2, _, none⟩) hb2).trans r3, (h2.cell (p := ⟨b2, _, none⟩) hb2).trans r4⟩, h2⟩))
            rw [hvy, hvp] at HC
            rw [HP.out, hk]
            have HPK := Lib.hid hk
            have k2 : (k : Int) < n := by omega
            have k3 : (0 : Int) ≤ k := by omega
            have k4 : ¬ ((k : Int) < 0) := by omega
            have k5 : (qk : Int) < mk := by omega
            have q1 : (0 : Int) ≤ qi := by omega
            have q2 : (0 : Int) ≤ qk := by omega
            have rb := Lib.hid (Below.refl wr.heap.size wr).drew
            clear hhd hls hm hLm hcs hmo hmn hmc hqi hq0 HSN HHD hlen hy hRi hRk hRk2 hl2 hl3 hm2 hLm2 hBww hL lL hM lM e1 e2 hcc hnL hnM hk hqk hmk hck hvy hvp HP
            go_wp2_with fail
            go_region_held3 (fun w' => w'.cell? ⟨b, off + i, none⟩ = some (.slice (some ⟨b1, f1, none⟩) mn mc) ∧ w'.cell? ⟨r, i, none⟩ = some (.int .i64 (qi : Nat)) ∧ w'.cell? ⟨b1, f1 + qi * 2, none⟩ = some (.slice oL nL cL) ∧ w'.cell? ⟨b1, f1 + qi * 2 + 1, none⟩ = some (.int .i64 vy) ∧ w'.cell? ⟨b, off + k, none⟩ = some (.slice (some ⟨b2, f2, none⟩) mk ck) ∧ w'.cell? ⟨r, k, none⟩ = some (.int .i64 (qk : Nat)) ∧ w'.cell? ⟨b2, f2 + qk * 2, none⟩ = some (.slice oM nM cM) ∧ w'.cell? ⟨b2, f2 + qk * 2 + 1, none⟩ = some (.int .i64 vp)) (first | exact ⟨s1, s2, s3, s4, s5, s6, s7, s8⟩ | exact ⟨hc, hri, r1, r2, hc2, hrk, r3, r4⟩) (first | (go_at_call 15; go_fit (HC.out _ rb); rintro e wq ⟨rfl, ⟨s1, s2, s3, s4, s5, s6, s7, s8⟩, sb⟩; dsimp only))
            have HBq := Lib.hid (HBi.out.trans (sb.out.mono HBi.out.size))
            clear HC r1 r2 r3 r4 s1 s2 s3 s4 s5 s6 s7 s8 rb sb hc hri hc2 hrk
            cases cc with
            | true =>
              go_wp2
              all_goals first | (exfalso; rename_i h; revert h; simp [k3]; done) | skip
              go_roundw
              case measure => simp [Go.RowKit.intOf]; omega
              case rel => exact ⟨i + 1, by rw [HS1.out]; rfl, by simp, by omega, HBq⟩
            | false =>
              go_wp2
              all_goals first | (exfalso; rename_i h; revert h; simp [k3]; done) | skip
              go_roundw
              case measure => simp [Go.RowKit.intOf]; omega
              case rel => exact ⟨i + 1, by rw [HS1.out]; show _ = Value.int .i64 (kI (some p)); rw [← HPK.out]; rfl, by simp, by omega, HBq⟩
      · have hin2 : i = n := by omega
        subst hin2
        have i1 : (i : Int) ≤ i := by omega
        have hq1 : pick (lessR by_) R = q0 := by rw [← hq0, List.take_of_length_le (by rw [HRL.out]; exact Nat.le_refl _)]
        obtain ⟨hnone, hsome⟩ := merge_step (swo_less by_) HM.out
        rw [hq1] at hnone hsome
        rw [hq0]
        cases q0 with
        | none =>
          have HD := Lib.hid (hnone rfl)
          clear hnone hsome hq0 hq1
          rw [show kI (none : Option (Nat × Rw)) = -1 from rfl]
          go_wp2
          go_ret
          have hjN : j = N := by
            have h1 := congrArg List.length HD.out
            rw [List.length_drop, HNN.out] at h1
            simp at h1
            omega
          subst hjN
          rw [List.take_of_length_le (by rw [HNN.out]; exact Nat.le_refl _)] at HO
          exact ⟨⟨_, rfl, own_mono (own_grown HO.out HBi.out) (by omega)⟩, HB.out.1.trans (HBi.out.mono (by have := HB.out.2; omega))⟩
        | some p =>
          obtain ⟨t, hRt, hdr⟩ := hsome p rfl
          have hjN : j < N := by
            have h1 := congrArg List.length hdr
            rw [List.length_drop, HNN.out, List.length_cons] at h1
            omega
          have hpj : all[j]? = some p := by
            have h1 : (all.drop j)[0]? = some p := by rw [hdr]; rfl
            rw [List.getElem?_drop] at h1
            exact h1
          have hkn : p.1 < i := by have := (List.getElem?_eq_some_iff.1 hRt).1; rw [HRL.out] at this; exact this
          have HM2 := Lib.hid (show mergeN (lessR by_) (rem (lsx ms) (fun x => if x = p.1 then at_ p.1 + 1 else at_ x)).flatten.length (rem (lsx ms) (fun x => if x = p.1 then at_ p.1 + 1 else at_ x)) = all.drop (j + 1) by
            rw [← rem_step (t := t) (x := p.2) (by rw [HREM.out]; exact hRt), HREM.out, ← List.drop_drop, hdr]; rfl)
          have HTK := Lib.hid (show (all.take (j + 1)).map (fun p => (.int .i64 (p.1 : Nat) : Value)) = (all.take j).map (fun p => .int .i64 (p.1 : Nat)) ++ [.int .i64 (p.1 : Nat)] by rw [take_atG hpj, List.map_append]; rfl)
          rw [show kI (some p) = ((p.1 : Nat) : Int) from rfl]
          obtain ⟨k, hk⟩ : ∃ k, p.1 = k := ⟨_, rfl⟩
          rw [hk] at hkn HM2 HTK ⊢
          obtain ⟨q, hq⟩ : ∃ q, at_ k = q := ⟨_, rfl⟩
          have HQ := Lib.hid hq
          have hqj : q ≤ 200 := by have := HAT.out k; omega
          have i2 : (k : Int) < i := by omega
          have i3 : (0 : Int) ≤ k := by omega
          have i4 : ¬ ((k : Int) < 0) := by omega
          have wk : IntKind.i64.wrap ((q : Int) + 1) = ((q + 1 : Nat) : Int) := by rw [IntKind.wrap_i64]; omega
          have hzr : r + 1 ≤ wr.heap.size := Nat.le_trans HB.out.2 HBi.out.size
          have HO2 := Lib.hid (own_grown HO.out HBi.out)
          have HRw := Lib.hid (HR.out.of_block (HBi.out.block r (by have := HB.out.2; omega)))
          have HBw := Lib.hid (HB.out.1.trans (HBi.out.mono (show r ≤ wo.heap.size from by have := HB.out.2; omega)))
          clear hnone hsome hq0 hq1 hdr hRt hpj hk hq HR HO HB HBi
          go_wp2_with (first | (at_builtin; refine wpList_append_lies _ rfl _ _ 40 rfl (r + 1) 3 i0 (.int .i64 0) 1 8 Tryz.underlying40 hi hz0 hz1 hz2 rfl (by decide) _ _ _ rfl (HO2.out.alloc _) ⟨wr.heap.size, 0, none⟩ 1 1 [.int .i64 (k : Nat)] rfl rfl (cell_one _ _ _) (by simp [Value.oneCell']) (by decide) (by unfold maxLen; omega) (by omega) (by simp; omega) _ rfl ?_; intro g8 c8 w6 ho6 hg6 hl6 hz6; have hB6 := ((Below.refl r wr).alloc (by omega) _).grown hg6 (by simp; omega) (fun x e => by have := (HO2.out.lt x e).1; omega); have hR6 := (HRw.out.of_block (Below.heap_alloc _ _ _ (by omega))).of_block (hg6.block r (by simp; omega) (fun e => by have := (HO2.out.lt r e.symm).1; omega)); have hc6 := hR6.cell hkn; have hf6 := hR6.frozen k; rw [HQ.out] at hc6; have HO6 := Lib.hid ho6; have HB6 := Lib.hid hB6; have HR6 := Lib.hid hR6; have hz7 : r + 1 ≤ w6.heap.size := (by have := hg6.size; simp at this; omega); clear ho6 hg6 hl6 hB6 hR6) | fail)
          go_roundw
          case measure => simp [lenV]; omega
          case rel =>
            refine ⟨j + 1, (fun x => if x = k then at_ k + 1 else at_ x), some ⟨g8, 0, none⟩, c8, rfl, by omega, Lib.hid (fun x => ?_), Lib.hid ((HR6.out.set k _).congr (fun x _ => ?_)), Lib.hid (by rw [HTK.out]; exact ownsRow_setCell_below HO6.out (show r < r + 1 by omega) _), HM2, Lib.hid ⟨(HBw.out.trans HB6.out).setCell (Nat.le_refl r) _, by simp [World.setCell]; exact hz7⟩⟩
            · show (if x = k then at_ k + 1 else at_ x) ≤ j + 1
              split
              · have := HAT.out k; omega
              · have := HAT.out x; omega
            · show (if x = k then Value.int .i64 ((q + 1 : Nat) : Int) else Value.int .i64 (at_ x : Nat)) = Value.int .i64 ((if x = k then at_ k + 1 else at_ x : Nat) : Int)
              by_cases e : x = k
              · subst e; rw [if_pos rfl, if_pos rfl, HQ.out]
              · rw [if_neg e, if_neg e]
end Go.Proofs.YtlnlbahggbbaeaaGreat.Mrg
