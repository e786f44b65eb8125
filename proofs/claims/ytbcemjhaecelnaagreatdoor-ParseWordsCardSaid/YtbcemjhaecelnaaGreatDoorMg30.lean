import Derived.Test.YtbcemjhaecelnaaGreatDoorMg29
import Derived.Deep.RegionLaw
import Derived.Deep.AppendLies
import Derived.Deep.CutRange
import Derived.Deep.QuietTactic
section
set_option maxHeartbeats 16000000
set_option maxRecDepth 100000
namespace Go.Proofs.YtbcemjhaecelnaaGreatDoor.Dpt
open Go.RowKit Go.Lib
open Go.Proofs.YtbcemjhaecelnaaGreatDoor.Pat
theorem infoI : (Tryz.prog.info? 21).map (fun i => (i.zero, i.size, i.bytes)) = some (some (.int .i32 0), 1, 4) := by kernel_rfl
theorem itNone {rs : List Int} {a a2 : Nat} {y : Int} (h : itR (rs.drop a) = none) (ha : a < rs.length) (h2 : a < a2) (hy : hd (rs.drop a2) = y) : y = -1 := by
 have hl : (rs.drop a).length = 1 := by
  rcases zbS (rs.drop a) with e | e | ⟨x, t, e⟩ | ⟨r, t, hr, e⟩
  ·have := congrArg List.length e
   rw [List.length_drop] at this
   simp at this; omega
  ·rw [e]; rfl
  ·rw [e] at h; cases h
  ·rw [e] at h
   unfold itR at h
   dsimp only at h
   rw [if_neg hr] at h
   cases h
 rw [List.length_drop] at hl
 rw [zfv (by omega)] at hy
 exact hy.symm
theorem zdZ : ∀ (n m : Nat) (rs : List Int) (acc : List (Int × Int)), rs.length < n -> rs.length < m -> itsR n rs acc = itsR m rs acc
 | 0, _, _, _, h, _ => by omega
 | _ + 1, 0, _, _, _, h => by omega
 | n + 1, m + 1, rs, acc, hn, hm => by
   rw [itsR, itsR]
   by_cases h1 : hd rs = 93 /\ acc ≠ []
   ·rw [if_pos h1, if_pos h1]
   rw [if_neg h1, if_neg h1]
   by_cases h2 : hd rs = 93 \/ rs = []
   ·rw [if_pos h2, if_pos h2]
   rw [if_neg h2, if_neg h2]
   cases h3 : itR rs with
   | none => rfl
   | some p =>
     obtain ⟨lo, t⟩ := p
     have l1 := (zdK h3).2.2
     dsimp only
     by_cases h4 : hd t = 45 /\ 1 < t.length /\ hd t.tail ≠ 93
     ·rw [if_pos h4, if_pos h4]
      cases h5 : itR t.tail with
      | none => rfl
      | some q =>
        obtain ⟨h, u⟩ := q
        have l2 := (zdK h5).2.2
        rw [List.length_tail] at l2
        dsimp only
        by_cases h6 : h < lo
        ·rw [if_pos h6, if_pos h6]
        ·rw [if_neg h6, if_neg h6]
         exact zdZ n m u _ (by omega) (by omega)
     ·rw [if_neg h4, if_neg h4]
      exact zdZ n m t _ (by omega) (by omega)
theorem class_ok (bp : Nat) (rs : List Int) (hl : rs.length <= 1000) (hpos : ∀ r ∈ rs, 0 <= r) : ClOK bp rs := by
 intro a k w h hk ha
 obtain ⟨i1, hi1, hy0, hy1, hy2⟩ := info_parts infoI
 have HNX := zh (fun a' b' k' W (h : DP W bp rs a' b' k') (ha : a' <= 1000000) => next_any bp rs a' b' k' W h (by omega) ha)
 have HITM := zh (fun a' k' W (h : DP W bp rs a' false k') (ha : a' < rs.length) => item_any bp rs a' k' W h hl ha hpos)
 obtain ⟨nt, R, hres, hR⟩ := cl_res rs a
 have HCR := zh hres
 obtain ⟨L, hL⟩ : ∃ L, rs.length = L := ⟨_, rfl⟩
 have HL := zh hL
 have HR := zh hR
 rw [hL] at hl ha
 obtain ⟨pb, hpb⟩ : ∃ pb, w.heap.size = pb := ⟨_, rfl⟩
 have HPBE := zh hpb
 obtain ⟨W1, hW1⟩ : ∃ W1, w.alloc (Obj.cells #[.int .i64 3, .int .i32 0, .slice none 0 0, .slice none 0 0, .bool false, .int .i64 0, .int .i64 0, .int .i64 0, .bool false] 213) = W1 := ⟨_, rfl⟩
 have HS1 := zh (show St w W1 bp pb rs a false k 0 false by rw [<- hW1, <- hpb]; exact St.start h)
 have HW1 := zh hW1
 obtain ⟨x0, hx0⟩ : ∃ x, hd (rs.drop a) = x := ⟨_, rfl⟩
 have HX0 := zh hx0
 have HN0 := zh (HNX.out a false k W1 HS1.out.dp (by omega))
 rw [hx0] at HN0
 clear h hpos hres hR hL hW1 hx0 nt
 go_enter Tryz.func184, Tryz.ntmps184
 go_wp2_with fail
 rw [show w.alloc (Obj.cells #[.int .i64 3, .int .i32 0, .slice none 0 0, .slice none 0 0, .bool false, .int .i64 0, .int .i64 0, .int .i64 0, .bool false] 213) = W1 from HW1.out]
 refine HN0.out.mono ?_
 rintro e w2 ⟨rfl, q2, hq2⟩
 have HS2 := zh (show St w w2 bp pb rs a false k 0 false by rw [hq2]; exact HS1.out.drewN q2)
 clear hq2 HN0
 go_upto_if 9 with fail
 go_cut [] from 6 to 127 (fun wx => ∃ NT, Hid (∃ (a1 : Nat) (b1 : Bool) (n : Nat), St w wx bp pb rs a1 b1 k n NT /\ a <= a1 /\ a1 <= L + 1 /\ n <= a1 /\ ClI rs R (rs.length + 1) a1 b1 n))
 case first =>
  by_cases h94 : x0 = 94
  ·subst h94
   have HRe := zh (HR.out.resolve_right (fun h => h.1 HX0.out)).2
   have ha1 : a < L := by rw [<- HL.out]; exact zh1 (by rw [HX0.out]; decide)
   obtain ⟨ol0, cl0, oh0, ch0, xs0, ys0, hpb0, -⟩ := HS2.out.cp
   have fz4 := zah (i := 4) hpb0
   obtain ⟨-, -, -, -, p4, -⟩ := zaq hpb0
   have HSn := zh HS2.out.not
   obtain ⟨vp, root, o, c, N, xv, h1, -⟩ := HSn.out.dp
   rw [HL.out] at h1
   obtain ⟨⟨c0, c1, c2, c3, c4⟩, f0, f1, f2, f3, f4⟩ := zaG h1
   clear h1 hpb0
   go_wp2_with fail
   go_meet
   exact ⟨true, zh ⟨a + 1, false, 0, HSn.out.at (a + 1) ((a : Int) + 1) (by omega), by omega, by omega, by omega, .inr ⟨rfl, by rw [HL.out]; omega, by omega, [], rfl, by rw [HRe.out]; exact zdZ _ _ _ _ (by rw [List.length_drop, List.length_drop]; omega) (by rw [List.length_drop]; omega)⟩⟩⟩
  ·have e94 : (x0 == 94) = false := by simp [h94]
   have HRe := zh (HR.out.resolve_left (fun h => h94 (HX0.out.symm.trans h.1))).2
   go_wp2_with fail
   go_meet
   exact ⟨false, zh ⟨a, false, 0, HS2.out, by omega, by omega, by omega, .inr ⟨rfl, by rw [HL.out]; omega, by omega, [], rfl, by rw [HRe.out]; exact zdZ _ _ _ _ (by rw [List.length_drop]; omega) (by rw [List.length_drop]; omega)⟩⟩⟩
 case rest =>
 rename World => wx
 obtain ⟨NT, HSTART⟩ := hcut
 clear HX0 HS1 HS2 HW1 HR
 go_wp2_with fail
 all_goals
  go_loopg [4] (rs.length + 1) (fun kx v wr => ∃ (a1 : Nat) (b1 : Bool) (n : Nat), St w wr bp pb rs a1 b1 k n NT /\ a <= a1 /\ a1 <= L + 1 /\ n <= a1 /\ ClI rs R kx a1 b1 n)
  case atStart => exact HSTART.out
  case round =>
   clear HSTART
   obtain ⟨a1, b1, n, hst, hlo, htop, hn, HI⟩ := hrel
   have HS := zh hst
   have HII := zh HI
   clear hst HI
   obtain ⟨vp, root, o, c, N, xv, h1, -⟩ := HS.out.dp
   rw [HL.out] at h1
   obtain ⟨⟨c0, c1, c2, c3, c4⟩, f0, f1, f2, f3, f4⟩ := zaG h1
   clear h1
   cases b1 with
   | true =>
     have HRN := zh (clI_bad HII.out)
     clear HNX HITM
     clear c0 c1 c2 c3 c4 f0 f1 f2 f3 f4
     have HSA := zh (HS.out.at (a1 + 1) ((a1 : Int) + 1) (by omega))
     obtain ⟨ol, cl, oh, ch, xs, ys, hpb, -⟩ := HS.out.cp
     obtain ⟨u0, u1, u2, u3, u4, u5, u6, u7, u8⟩ := zaq hpb
     obtain ⟨p0, p1, p2, p3, p4, p5, p6, p7, p8⟩ := zaq (show (wr.setCell ⟨bp, 3, none⟩ (.int .i64 ((a1 : Int) + 1))).heap[pb]? = _ from (heap_setCell_other _ ⟨bp, 3, none⟩ pb _ (fun e => by have e2 : pb = bp := e; have := HS.out.lt; omega)).trans hpb)
     clear hpb
     obtain ⟨vp, root, o, c, N, xv, h1, -⟩ := HS.out.dp
     rw [HL.out] at h1
     obtain ⟨⟨c0, c1, c2, c3, c4⟩, f0, f1, f2, f3, f4⟩ := zaG h1
     clear h1
     have HAD := zh (zcl bp rs (a1 + 1) true k _ HSA.out.dp (by omega) 3 0 ol oh n cl n ch NT 0 0 0 false)
     go_wp2_with fail
     refine HAD.out.mono ?_
     rintro e w9 ⟨⟨z9, rfl⟩, hd9, hb9⟩
     have HF := zh (And.intro hd9 (HSA.out.below.trans hb9))
     clear hd9 hb9 p0 p1 p2 p3 p4 p5 p6 p7 p8 u0 u1 u2 u3 u4 u5 u6 u7 u8 c0 c1 c2 c3 c4 f0 f1 f2 f3 f4
     go_wp2
     go_ret
     exact ⟨z9, a1 + 1, true, k + 1, rfl, HF.out.1, HF.out.2, by omega, by rw [HL.out]; omega, by omega, by rw [HCR.out]; exact (by rw [HRN.out]; rfl)⟩
   | false =>
     obtain ⟨x, hx⟩ : ∃ x, hd (rs.drop a1) = x := ⟨_, rfl⟩
     have HX := zh hx
     have HN1 := zh (HNX.out a1 false k wr HS.out.dp (by omega))
     rw [hx] at HN1
     clear hx
     go_wp2_with fail
     refine HN1.out.mono ?_
     rintro e w3 ⟨rfl, q3, hq3⟩
     have HS3 := zh (show St w w3 bp pb rs a1 false k n NT by rw [hq3]; exact HS.out.drewN q3)
     clear hq3 c0 c1 c2 c3 c4 f0 f1 f2 f3 f4
     obtain ⟨vp, root, o, c, N, xv, h1, -⟩ := HS3.out.dp
     rw [HL.out] at h1
     obtain ⟨⟨c0, c1, c2, c3, c4⟩, f0, f1, f2, f3, f4⟩ := zaG h1
     clear h1
     obtain ⟨ol0, cl0, oh0, ch0, xs0, ys0, hpb0, -⟩ := HS3.out.cp
     obtain ⟨-, -, p2, p3, -⟩ := zaq hpb0
     clear hpb0
     by_cases h93 : x = 93
     ·subst h93
      by_cases hn0 : n = 0
      ·subst hn0
       have HLN := zh (zh2 HII.out (.inl ⟨rfl, HX.out⟩))
       have C := zh (fun m => HNX.out a1 false k (w3.drewN m) (HS3.out.drewN m).dp (by omega))
       rw [HX.out] at C
       go_wp2_with fail
       go_quiet ((go_at_call 170; exact Calls.quiet_of (C.out _)))
       obtain ⟨w4, hw4⟩ : ∃ w4, w3.drewN nq = w4 := ⟨_, rfl⟩
       rw [hw4]
       have HS4 := zh (show St w w4 bp pb rs a1 false k 0 NT by rw [<- hw4]; exact HS3.out.drewN nq)
       have HS5 := zh (HS4.out.bad true)
       clear hw4 c0 c1 c2 c3 c4 f0 f1 f2 f3 f4 p2 p3
       have HSA := zh (HS5.out.at (a1 + 1) ((a1 : Int) + 1) (by omega))
       obtain ⟨ol, cl, oh, ch, xs, ys, hpb, -⟩ := HS4.out.cp
       obtain ⟨u0, u1, u2, u3, u4, u5, u6, u7, u8⟩ := zaq hpb
       obtain ⟨p0, p1, p2, p3, p4, p5, p6, p7, p8⟩ := zaq (show ((w4.setCell ⟨bp, 4, none⟩ (.bool true)).setCell ⟨bp, 3, none⟩ (.int .i64 ((a1 : Int) + 1))).heap[pb]? = _ from (heap_setCell_other _ ⟨bp, 3, none⟩ pb _ (fun e => by have e2 : pb = bp := e; have := HS4.out.lt; omega)).trans ((heap_setCell_other _ ⟨bp, 4, none⟩ pb _ (fun e => by have e2 : pb = bp := e; have := HS4.out.lt; omega)).trans hpb))
       clear hpb
       obtain ⟨vp, root, o, c, N, xv, h1, -⟩ := HS4.out.dp
       rw [HL.out] at h1
       obtain ⟨⟨c0, c1, c2, c3, c4⟩, f0, f1, f2, f3, f4⟩ := zaG h1
       clear h1
       have HAD := zh (zcl bp rs (a1 + 1) true k _ HSA.out.dp (by omega) 3 0 ol oh 0 cl 0 ch NT 0 0 0 false)
       go_wp2_with fail
       refine HAD.out.mono ?_
       rintro e w9 ⟨⟨z9, rfl⟩, hd9, hb9⟩
       have HF := zh (And.intro hd9 (HSA.out.below.trans hb9))
       clear hd9 hb9 p0 p1 p2 p3 p4 p5 p6 p7 p8 u0 u1 u2 u3 u4 u5 u6 u7 u8 c0 c1 c2 c3 c4 f0 f1 f2 f3 f4
       go_wp2
       go_ret
       exact ⟨z9, a1 + 1, true, k + 1, rfl, HF.out.1, HF.out.2, by omega, by rw [HL.out]; omega, by omega, by rw [HCR.out]; exact HLN.out⟩
      ·have hn1 : ((n : Int) == 0) = false := by simp; omega
       have hn2 : ¬ (n : Int) = 0 := by omega
       have HLE := zh (cl_end HII.out hn0 HX.out)
       clear HNX HITM
       clear p2 p3 c0 c1 c2 c3 c4 f0 f1 f2 f3 f4
       have HSA := zh (HS3.out.at (a1 + 1) ((a1 : Int) + 1) (by omega))
       obtain ⟨ol, cl, oh, ch, xs, ys, hpb, -⟩ := HS3.out.cp
       obtain ⟨u0, u1, u2, u3, u4, u5, u6, u7, u8⟩ := zaq hpb
       obtain ⟨p0, p1, p2, p3, p4, p5, p6, p7, p8⟩ := zaq (show (w3.setCell ⟨bp, 3, none⟩ (.int .i64 ((a1 : Int) + 1))).heap[pb]? = _ from (heap_setCell_other _ ⟨bp, 3, none⟩ pb _ (fun e => by have e2 : pb = bp := e; have := HS3.out.lt; omega)).trans hpb)
       clear hpb
       obtain ⟨vp, root, o, c, N, xv, h1, -⟩ := HS3.out.dp
       rw [HL.out] at h1
       obtain ⟨⟨c0, c1, c2, c3, c4⟩, f0, f1, f2, f3, f4⟩ := zaG h1
       clear h1
       have HAD := zh (zcl bp rs (a1 + 1) false k _ HSA.out.dp (by omega) 3 0 ol oh n cl n ch NT 0 0 0 false)
       go_wp2_with fail
       refine HAD.out.mono ?_
       rintro e w9 ⟨⟨z9, rfl⟩, hd9, hb9⟩
       have HF := zh (And.intro hd9 (HSA.out.below.trans hb9))
       clear hd9 hb9 p0 p1 p2 p3 p4 p5 p6 p7 p8 u0 u1 u2 u3 u4 u5 u6 u7 u8 c0 c1 c2 c3 c4 f0 f1 f2 f3 f4
       go_wp2
       go_ret
       exact ⟨z9, a1 + 1, false, k + 1, rfl, HF.out.1, HF.out.2, by omega, by rw [HL.out]; omega, by omega, by rw [HCR.out]; exact HLE.out⟩
     ·have e93 : (x != 93) = true := by simp [h93]
      have e93' : (x == 93) = false := by simp [h93]
      have HX93 := zh (show hd (rs.drop a1) ≠ 93 by rw [HX.out]; exact h93)
      have C := zh (fun m => HNX.out a1 false k (w3.drewN m) (HS3.out.drewN m).dp (by omega))
      rw [HX.out] at C
      by_cases hlt : a1 < L
      rotate_left
      ·have j1 : (a1 : Int) >= L := by omega
       have j2 : (L : Int) <= a1 := by omega
       have HLN := zh (zh2 HII.out (.inr ⟨HX93.out, List.drop_eq_nil_of_le (by rw [HL.out]; omega)⟩))
       go_wp2_with fail
       go_quiet ((go_at_call 170; exact Calls.quiet_of (C.out _)))
       obtain ⟨w4, hw4⟩ : ∃ w4, w3.drewN nq = w4 := ⟨_, rfl⟩
       rw [hw4]
       have HS4 := zh (show St w w4 bp pb rs a1 false k n NT by rw [<- hw4]; exact HS3.out.drewN nq)
       have HS5 := zh (HS4.out.bad true)
       clear hw4 c0 c1 c2 c3 c4 f0 f1 f2 f3 f4 p2 p3
       have HSA := zh (HS5.out.at (a1 + 1) ((a1 : Int) + 1) (by omega))
       obtain ⟨ol, cl, oh, ch, xs, ys, hpb, -⟩ := HS4.out.cp
       obtain ⟨u0, u1, u2, u3, u4, u5, u6, u7, u8⟩ := zaq hpb
       obtain ⟨p0, p1, p2, p3, p4, p5, p6, p7, p8⟩ := zaq (show ((w4.setCell ⟨bp, 4, none⟩ (.bool true)).setCell ⟨bp, 3, none⟩ (.int .i64 ((a1 : Int) + 1))).heap[pb]? = _ from (heap_setCell_other _ ⟨bp, 3, none⟩ pb _ (fun e => by have e2 : pb = bp := e; have := HS4.out.lt; omega)).trans ((heap_setCell_other _ ⟨bp, 4, none⟩ pb _ (fun e => by have e2 : pb = bp := e; have := HS4.out.lt; omega)).trans hpb))
       clear hpb
       obtain ⟨vp, root, o, c, N, xv, h1, -⟩ := HS4.out.dp
       rw [HL.out] at h1
       obtain ⟨⟨c0, c1, c2, c3, c4⟩, f0, f1, f2, f3, f4⟩ := zaG h1
       clear h1
       have HAD := zh (zcl bp rs (a1 + 1) true k _ HSA.out.dp (by omega) 3 0 ol oh n cl n ch NT 0 0 0 false)
       go_wp2_with fail
       refine HAD.out.mono ?_
       rintro e w9 ⟨⟨z9, rfl⟩, hd9, hb9⟩
       have HF := zh (And.intro hd9 (HSA.out.below.trans hb9))
       clear hd9 hb9 p0 p1 p2 p3 p4 p5 p6 p7 p8 u0 u1 u2 u3 u4 u5 u6 u7 u8 c0 c1 c2 c3 c4 f0 f1 f2 f3 f4
       go_wp2
       go_ret
       exact ⟨z9, a1 + 1, true, k + 1, rfl, HF.out.1, HF.out.2, by omega, by rw [HL.out]; omega, by omega, by rw [HCR.out]; exact HLN.out⟩
      ·have j1 : ¬ (a1 : Int) >= L := by omega
       have j2 : ¬ (L : Int) <= a1 := by omega
       obtain ⟨g, rfl⟩ : ∃ g, gk = g + 1 := ⟨gk - 1, by have := (clI_open HII.out).2.1; omega⟩
       have HOP := zh (And.intro (clI_open HII.out).1 (clI_open HII.out).2.1)
       obtain ⟨acc, hacc, hRR⟩ := cl_item HII.out HX93.out (by rw [HL.out]; exact hlt)
       have HRR := zh (And.intro hacc hRR)
       clear hacc hRR
       go_wp2_with fail
       go_quiet ((go_at_call 170; exact Calls.quiet_of (C.out _)))
       obtain ⟨w4, hw4⟩ : ∃ w4, w3.drewN nq = w4 := ⟨_, rfl⟩
       rw [hw4]
       have HS4 := zh (show St w w4 bp pb rs a1 false k n NT by rw [<- hw4]; exact HS3.out.drewN nq)
       clear hw4 c0 c1 c2 c3 c4 f0 f1 f2 f3 f4 p2 p3
       have HI1 := zh (HITM.out a1 k w4 HS4.out.dp (by rw [HL.out]; exact hlt))
       go_wp2_with fail
       refine HI1.out.mono ?_
       rintro e w5 ⟨lo, a2, b2, rfl, hd5, hb5, hk5, hlo5, hhi5, hit⟩
       have HS5 := zh (HS4.out.moved hd5 hb5 hk5)
       have HIT := zh hit
       clear hd5 hb5 hk5 hit
       obtain ⟨y, hy⟩ : ∃ y, hd (rs.drop a2) = y := ⟨_, rfl⟩
       have HY := zh hy
       have C5 := zh (fun m => HNX.out a2 b2 k (w5.drewN m) (HS5.out.drewN m).dp (by omega))
       rw [hy] at C5
       clear hy
       go_wp2_with fail
       go_cut [84] from 55 to 84 (fun u84 wx => ∃ q : Bool, u84 = .bool q /\ Hid (St w wx bp pb rs a2 b2 k n NT) /\ Hid (ziD rs a1 a2 lo b2 q))
       case first =>
        obtain ⟨vp, root, o, c, N, xv, h1, -⟩ := HS5.out.dp
        rw [HL.out] at h1
        obtain ⟨⟨c0, c1, c2, c3, c4⟩, f0, f1, f2, f3, f4⟩ := zaG h1
        clear h1
        cases b2 with
        | true =>
          have hnil : itR (rs.drop a1) = none := by
           cases hq : itR (rs.drop a1) with
           | some p => have h := HIT.out; rw [hq] at h; cases h.1
           | none => rfl
          have hy1 : (y == 45) = false := by rw [itNone hnil (by rw [HL.out]; exact hlt) hlo5 HY.out]; decide
          have HNIL := zh hnil
          clear hnil
          go_quiet ((go_at_call 170; exact Calls.quiet_of (C5.out _)))
          go_wp2_with fail
          go_meet
          exact ⟨false, rfl, HS5.out.drewN _, .inl ⟨rfl, trivial, HNIL.out⟩⟩
        | false =>
          obtain ⟨t, ht⟩ : ∃ t, itR (rs.drop a1) = some (lo, t) /\ rs.drop a2 = t /\ a2 <= rs.length := by
           cases hq : itR (rs.drop a1) with
           | none => have h := HIT.out; rw [hq] at h; cases h
           | some p => have h := HIT.out; rw [hq] at h; exact ⟨p.2, by rw [h.2.1], h.2.2.1, h.2.2.2⟩
          have HT := zh ht
          have hyt : hd t = y := by rw [<- ht.2.1]; exact HY.out
          have HYT := zh hyt
          have htl : t.length = L - a2 := by rw [<- ht.2.1, List.length_drop, HL.out]
          have HTL := zh htl
          have htt : t.tail = rs.drop (a2 + 1) := by rw [zbg, ht.2.1]
          have HTT2 := zh htt
          clear ht hyt htl htt
          by_cases h45 : y = 45
          rotate_left
          ·have hy1 : (y == 45) = false := by simp [h45]
           have HNO := zh (fun (h : hd t = 45 /\ 1 < t.length /\ hd t.tail ≠ 93) => h45 (HYT.out.symm.trans h.1))
           clear h45
           go_quiet ((go_at_call 170; exact Calls.quiet_of (C5.out _)))
           go_wp2_with fail
           go_meet
           exact ⟨false, rfl, HS5.out.drewN _, .inr ⟨rfl, trivial, t, HT.out.1, HT.out.2.1, HNO.out, HT.out.2.2⟩⟩
          ·subst h45
           by_cases hlt2 : a2 + 1 < L
           rotate_left
           ·have j5 : ¬ ((a2 : Int) + 1) < L := by omega
            have HNO := zh (fun (h : hd t = 45 /\ 1 < t.length /\ hd t.tail ≠ 93) => hlt2 (by have := h.2.1; rw [HTL.out] at this; omega))
            go_quiet ((go_at_call 170; exact Calls.quiet_of (C5.out _)))
            go_wp2_with fail
            go_meet
            exact ⟨false, rfl, HS5.out.drewN _, .inr ⟨rfl, trivial, t, HT.out.1, HT.out.2.1, HNO.out, HT.out.2.2⟩⟩
           ·have j5 : ((a2 : Int) + 1) < L := by omega
            obtain ⟨zz, hzz⟩ : ∃ z, rs[a2 + 1]? = some z := ⟨_, List.getElem?_eq_getElem (by rw [HL.out]; exact hlt2)⟩
            have HZZ := zh (zeo hzz)
            clear c0 c1 c2 c3 c4 f0 f1 f2 f3 f4
            obtain ⟨vp, root, o, c, N, xv, h1, hro, -⟩ := HS5.out.dp
            rw [HL.out] at h1
            obtain ⟨⟨c0, c1, c2, c3, c4⟩, f0, f1, f2, f3, f4⟩ := zaG h1
            obtain ⟨rb, roff, rfl, hrb, hrc⟩ := hro.resolve_left (fun e => by rw [e] at hzz; simp at hzz)
            have cz := hrc _ _ hzz
            have czz : w5.cell? ⟨rb, roff + (a2 + 1), none⟩ = some (.int .i32 zz) := cz
            clear h1 hro hrc hzz
            by_cases hz93 : zz = 93
            ·subst hz93
             have HNO := zh (fun (h : hd t = 45 /\ 1 < t.length /\ hd t.tail ≠ 93) => h.2.2 (by rw [HTT2.out]; exact HZZ.out))
             go_quiet ((go_at_call 170; exact Calls.quiet_of (C5.out _)))
             go_wp2_with fail
             go_meet
             exact ⟨false, rfl, HS5.out.drewN _, .inr ⟨rfl, trivial, t, HT.out.1, HT.out.2.1, HNO.out, HT.out.2.2⟩⟩
            ·have e93z : (zz != 93) = true := by simp [hz93]
             have HYES := zh (show hd t = 45 /\ 1 < t.length /\ hd t.tail ≠ 93 from ⟨HYT.out, by rw [HTL.out]; omega, by rw [HTT2.out, HZZ.out]; exact hz93⟩)
             go_quiet ((go_at_call 170; exact Calls.quiet_of (C5.out _)))
             go_wp2_with fail
             go_meet
             exact ⟨true, rfl, HS5.out.drewN _, ⟨rfl, t, HT.out.1, HT.out.2.1, HYES.out, HT.out.2.2⟩⟩
       case rest =>
       rename World => wv
       obtain ⟨q, rfl, HSV, HQV⟩ := hcut
       clear HS HS3 HS4 HS5 HIT HY C5 HI1 C HN1 HNX HX HX93
       cases q with
       | false =>
         have ha12 : a1 < a2 := hlo5
         have ha2t : a2 <= L + 1 := by omega
         have HTT := zh (clT_one HRR.out.1 HRR.out.2 HQV.out ha12 HOP.out.2 (by rw [HL.out]; exact hlt))
         clear HQV HRR HITM
         -- behind the item: bad or not, one more
         have HBX := zh (HSV.out.bad (b2 || decide (lo < lo)))
         obtain ⟨wd, hwd⟩ : ∃ wd, wv.setCell ⟨bp, 4, none⟩ (.bool (b2 || decide (lo < lo))) = wd := ⟨_, rfl⟩
         have HWD := zh hwd
         rw [hwd] at HBX
         clear hwd
         have hpb3 : pb + 1 <= wd.heap.size /\ pb < wd.heap.size := by
          obtain ⟨_, _, _, _, _, _, hh, _⟩ := HBX.out.cp
          have := (Array.getElem?_eq_some_iff.1 hh).1; omega
         obtain ⟨hpbs, hpbl⟩ := hpb3
         obtain ⟨ol, cl, oh, ch, xs, ys, hpb, hl1, hl2, hne⟩ := HBX.out.cp
         have HPB := zh hpb
         have HL1 := zh hl1
         have HL2 := zh hl2
         have HNE := zh hne
         obtain ⟨-, -, p2, p3, -⟩ := zaq hpb
         clear hpb hl1 hl2 hne
         have HXY := zh (show (((wd.alloc (Obj.cells #[.int .i32 lo] 21)).alloc (Obj.cells #[.int .i32 lo] 21)).drew).heap[wd.heap.size]? = some (Obj.cells #[.int .i32 lo] 21 (0, 0)) from (Below.heap_alloc _ _ _ (by simp)).trans Array.getElem?_push_size)
         have HXY2 := zh (show (((wd.alloc (Obj.cells #[.int .i32 lo] 21)).alloc (Obj.cells #[.int .i32 lo] 21)).drew).heap[wd.heap.size + 1]? = some (Obj.cells #[.int .i32 lo] 21 (0, 0)) from by
          have e : (wd.alloc (Obj.cells #[.int .i32 lo] 21)).heap.size = wd.heap.size + 1 := by simp
          rw [<- e]; exact Array.getElem?_push_size)
         have HYX := zh (show (((wd.alloc (Obj.cells #[.int .i32 lo] 21)).alloc (Obj.cells #[.int .i32 lo] 21)).drew).heap[wd.heap.size]? = some (Obj.cells #[.int .i32 lo] 21 (0, 0)) from (Below.heap_alloc _ _ _ (by simp)).trans Array.getElem?_push_size)
         have HYX2 := zh (show (((wd.alloc (Obj.cells #[.int .i32 lo] 21)).alloc (Obj.cells #[.int .i32 lo] 21)).drew).heap[wd.heap.size + 1]? = some (Obj.cells #[.int .i32 lo] 21 (0, 0)) from by
          have e : (wd.alloc (Obj.cells #[.int .i32 lo] 21)).heap.size = wd.heap.size + 1 := by simp
          rw [<- e]; exact Array.getElem?_push_size)
         have HNX2 := zh (zgM HTT.out)
         obtain ⟨vp, root, o, c, N, xv, h1, -⟩ := HSV.out.dp
         rw [HL.out] at h1
         obtain ⟨⟨c0, c1, c2, c3, c4⟩, f0, f1, f2, f3, f4⟩ := zaG h1
         clear h1
         have HGT := zh (show decide (lo > lo) = decide (lo < lo) from rfl)
         cases b2 with
         | true =>
           have hbt : (true || decide (lo < lo)) = true := rfl
           rw [hbt] at HWD HNX2 HBX
           go_wp2_with fail
           rw [show wv.setCell ⟨bp, 4, none⟩ (.bool true) = wd from HWD.out]
           clear c0 c1 c2 c3 c4 f0 f1 f2 f3 f4
           as_aux_lemma =>
           go_region_law (first
            | (refine step_append_lies _ rfl _ _ 74 rfl (pb + 1) 21 i1 (.int .i32 0) 1 4 Tryz.underlying74 hi1 hy0 hy1 hy2 rfl (by decide) _ _ _ rfl (show ((wd.alloc (Obj.cells #[.int .i32 lo] 21)).drew).ownsRow _ _ _ _ _ _ from World.ownsRow.alloc (w := wd) HL1.out _) ⟨wd.heap.size, 0, none⟩ 1 1 [.int .i32 lo] rfl rfl (zbB Array.getElem?_push_size) (by intro u hu; simp at hu; subst hu; rfl) (by decide) (by unfold maxLen; omega) (by omega) (by simp; omega) _ rfl ?_
               intro g1 d1 w1 hown1 hgrow1 hat1 hlt1
               have hbW : Below wd.heap.size wd ((wd.alloc (Obj.cells #[.int .i32 lo] 21)).drew) := ((Below.refl _ _).alloc (Nat.le_refl _) _).drew
               have hg1 : ((wd.alloc (Obj.cells #[.int .i32 lo] 21)).drew).grownBy w1 (Value.slice ol n cl).ownBlock := hgrow1
               have hpb1 : w1.heap[pb]? = some (.cells #[.int .i64 3, .int .i32 0, .slice ol n cl, .slice oh n ch, .bool NT, .int .i64 0, .int .i64 0, .int .i64 0, .bool false] 213 (0, 0)) := (zae HL1.out hbW hg1 hpbl (Nat.le_refl _)).trans HPB.out
               obtain ⟨-, -, m2, m3, -⟩ := zaq hpb1
               have fz2 := zah (i := 2) hpb1
               have fz3 := zah (i := 3) hpb1
               have HH1 := zh (zbl HL2.out HNE.out hbW hg1)
               have hs1 : wd.heap.size <= w1.heap.size := Nat.le_trans hbW.size hg1.size
               have hpw1 : pb < w1.heap.size := Nat.lt_of_lt_of_le hpbl hs1
               have HFA := zh (show ∃ Wb, Below wd.heap.size wd Wb /\ Wb.grownBy w1 (Value.slice ol n cl).ownBlock /\ w1.ownsRow (pb + 1) 21 1 (.slice (some ⟨g1, 0, none⟩) (n + 1) d1) (n + 1) (xs ++ [.int .i32 lo]) /\ ((Value.slice ol n cl).ownBlock = some g1 \/ g1 = Wb.heap.size) /\ g1 < w1.heap.size from ⟨_, hbW, hg1, hown1, hat1, hlt1⟩)
               skip
               clear hown1 hgrow1 hat1 hbW hg1 hpb1)
            | (refine step_append_lies _ rfl _ _ 74 rfl (pb + 1) 21 i1 (.int .i32 0) 1 4 Tryz.underlying74 hi1 hy0 hy1 hy2 rfl (by decide) _ _ _ rfl (show (((wd.alloc (Obj.cells #[.int .i32 lo] 21)).alloc (Obj.cells #[.int .i32 lo] 21)).drew).ownsRow _ _ _ _ _ _ from World.ownsRow.alloc (w := wd.alloc (Obj.cells #[.int .i32 lo] 21)) (World.ownsRow.alloc (w := wd) HL1.out _) _) ⟨wd.heap.size, 0, none⟩ 1 1 [.int .i32 lo] rfl rfl (zbB HXY.out) (by intro u hu; simp at hu; subst hu; rfl) (by decide) (by unfold maxLen; omega) (by omega) (by simp; omega) _ rfl ?_
               intro g1 d1 w1 hown1 hgrow1 hat1 hlt1
               have hbW : Below wd.heap.size wd (((wd.alloc (Obj.cells #[.int .i32 lo] 21)).alloc (Obj.cells #[.int .i32 lo] 21)).drew) := (((Below.refl _ _).alloc (Nat.le_refl _) _).alloc (by simp) _).drew
               have hg1 : (((wd.alloc (Obj.cells #[.int .i32 lo] 21)).alloc (Obj.cells #[.int .i32 lo] 21)).drew).grownBy w1 (Value.slice ol n cl).ownBlock := hgrow1
               have hpb1 : w1.heap[pb]? = some (.cells #[.int .i64 3, .int .i32 0, .slice ol n cl, .slice oh n ch, .bool NT, .int .i64 0, .int .i64 0, .int .i64 0, .bool false] 213 (0, 0)) := (zae HL1.out hbW hg1 hpbl (Nat.le_refl _)).trans HPB.out
               obtain ⟨-, -, m2, m3, -⟩ := zaq hpb1
               have fz2 := zah (i := 2) hpb1
               have fz3 := zah (i := 3) hpb1
               have HH1 := zh (zbl HL2.out HNE.out hbW hg1)
               have hs1 : wd.heap.size <= w1.heap.size := Nat.le_trans hbW.size hg1.size
               have hpw1 : pb < w1.heap.size := Nat.lt_of_lt_of_le hpbl hs1
               have HFA := zh (show ∃ Wb, Below wd.heap.size wd Wb /\ Wb.grownBy w1 (Value.slice ol n cl).ownBlock /\ w1.ownsRow (pb + 1) 21 1 (.slice (some ⟨g1, 0, none⟩) (n + 1) d1) (n + 1) (xs ++ [.int .i32 lo]) /\ ((Value.slice ol n cl).ownBlock = some g1 \/ g1 = Wb.heap.size) /\ g1 < w1.heap.size from ⟨_, hbW, hg1, hown1, hat1, hlt1⟩)
               have HCW := zh (zb3 (k := wd.heap.size + 1) (show (((wd.alloc (Obj.cells #[.int .i32 lo] 21)).alloc (Obj.cells #[.int .i32 lo] 21)).drew).ownsRow _ _ _ _ _ _ from World.ownsRow.alloc (w := wd.alloc (Obj.cells #[.int .i32 lo] 21)) (World.ownsRow.alloc (w := wd) HL1.out (Obj.cells #[.int .i32 lo] 21)) (Obj.cells #[.int .i32 lo] 21)) hg1 (fun e => by have := (HL1.out.lt _ e).2; omega) HXY2.out)
               clear hown1 hgrow1 hat1 hbW hg1 hpb1)
            | (refine step_append_lies _ rfl _ _ 74 rfl (pb + 1) 21 i1 (.int .i32 0) 1 4 Tryz.underlying74 hi1 hy0 hy1 hy2 rfl (by decide) _ _ _ rfl (show (((wd.alloc (Obj.cells #[.int .i32 lo] 21)).alloc (Obj.cells #[.int .i32 lo] 21)).drew).ownsRow _ _ _ _ _ _ from World.ownsRow.alloc (w := wd.alloc (Obj.cells #[.int .i32 lo] 21)) (World.ownsRow.alloc (w := wd) HL1.out _) _) ⟨wd.heap.size + 1, 0, none⟩ 1 1 [.int .i32 lo] rfl rfl (zbB HYX2.out) (by intro u hu; simp at hu; subst hu; rfl) (by decide) (by unfold maxLen; omega) (by omega) (by simp; omega) _ rfl ?_
               intro g1 d1 w1 hown1 hgrow1 hat1 hlt1
               have hbW : Below wd.heap.size wd (((wd.alloc (Obj.cells #[.int .i32 lo] 21)).alloc (Obj.cells #[.int .i32 lo] 21)).drew) := (((Below.refl _ _).alloc (Nat.le_refl _) _).alloc (by simp) _).drew
               have hg1 : (((wd.alloc (Obj.cells #[.int .i32 lo] 21)).alloc (Obj.cells #[.int .i32 lo] 21)).drew).grownBy w1 (Value.slice ol n cl).ownBlock := hgrow1
               have hpb1 : w1.heap[pb]? = some (.cells #[.int .i64 3, .int .i32 0, .slice ol n cl, .slice oh n ch, .bool NT, .int .i64 0, .int .i64 0, .int .i64 0, .bool false] 213 (0, 0)) := (zae HL1.out hbW hg1 hpbl (Nat.le_refl _)).trans HPB.out
               obtain ⟨-, -, m2, m3, -⟩ := zaq hpb1
               have fz2 := zah (i := 2) hpb1
               have fz3 := zah (i := 3) hpb1
               have HH1 := zh (zbl HL2.out HNE.out hbW hg1)
               have hs1 : wd.heap.size <= w1.heap.size := Nat.le_trans hbW.size hg1.size
               have hpw1 : pb < w1.heap.size := Nat.lt_of_lt_of_le hpbl hs1
               have HFA := zh (show ∃ Wb, Below wd.heap.size wd Wb /\ Wb.grownBy w1 (Value.slice ol n cl).ownBlock /\ w1.ownsRow (pb + 1) 21 1 (.slice (some ⟨g1, 0, none⟩) (n + 1) d1) (n + 1) (xs ++ [.int .i32 lo]) /\ ((Value.slice ol n cl).ownBlock = some g1 \/ g1 = Wb.heap.size) /\ g1 < w1.heap.size from ⟨_, hbW, hg1, hown1, hat1, hlt1⟩)
               have HCW := zh (zb3 (k := wd.heap.size) (show (((wd.alloc (Obj.cells #[.int .i32 lo] 21)).alloc (Obj.cells #[.int .i32 lo] 21)).drew).ownsRow _ _ _ _ _ _ from World.ownsRow.alloc (w := wd.alloc (Obj.cells #[.int .i32 lo] 21)) (World.ownsRow.alloc (w := wd) HL1.out (Obj.cells #[.int .i32 lo] 21)) (Obj.cells #[.int .i32 lo] 21)) hg1 (fun e => by have := (HL1.out.lt _ e).2; omega) HYX.out)
               clear hown1 hgrow1 hat1 hbW hg1 hpb1)
            | (refine step_append_lies _ rfl _ _ 74 rfl (pb + 1) 21 i1 (.int .i32 0) 1 4 Tryz.underlying74 hi1 hy0 hy1 hy2 rfl (by decide) _ _ _ rfl (HH1.out.alloc _) ⟨w1.heap.size, 0, none⟩ 1 1 [.int .i32 lo] rfl rfl (zbB Array.getElem?_push_size) (by intro u hu; simp at hu; subst hu; rfl) (by decide) (by unfold maxLen; omega) (by omega) (by (try simp); omega) _ rfl ?_
               intro g2 d2 w2 hown2 hgrow2 hat2 hlt2
               have hg2 : (w1.alloc (Obj.cells #[.int .i32 lo] 21)).grownBy w2 (Value.slice oh n ch).ownBlock := hgrow2
               have hpb2 : w2.heap[pb]? = some (.cells #[.int .i64 3, .int .i32 0, .slice ol n cl, .slice oh n ch, .bool NT, .int .i64 0, .int .i64 0, .int .i64 0, .bool false] 213 (0, 0)) := by
                obtain ⟨Wb, q1, q2, -⟩ := HFA.out
                have hbW : Below w1.heap.size w1 (w1.alloc (Obj.cells #[.int .i32 lo] 21)) := ((Below.refl _ _).alloc (Nat.le_refl _) _)
                exact (zae HH1.out hbW hg2 (by omega) (Nat.le_refl _)).trans ((zae HL1.out q1 q2 hpbl (Nat.le_refl _)).trans HPB.out)
               obtain ⟨-, -, m2, m3, -⟩ := zaq hpb2
               have fz2 := zah (i := 2) hpb2
               have fz3 := zah (i := 3) hpb2
               have HFB := zh (show ∃ Wb2, Below w1.heap.size w1 Wb2 /\ Wb2.grownBy w2 (Value.slice oh n ch).ownBlock /\ w2.ownsRow (pb + 1) 21 1 (.slice (some ⟨g2, 0, none⟩) (n + 1) d2) (n + 1) (ys ++ [.int .i32 lo]) /\ ((Value.slice oh n ch).ownBlock = some g2 \/ g2 = Wb2.heap.size) from ⟨w1.alloc (Obj.cells #[.int .i32 lo] 21), ((Below.refl _ _).alloc (Nat.le_refl _) _), hg2, hown2, hat2⟩)
               clear hown2 hgrow2 hat2 hg2 hpb2)
            | (refine step_append_lies _ rfl _ _ 74 rfl (pb + 1) 21 i1 (.int .i32 0) 1 4 Tryz.underlying74 hi1 hy0 hy1 hy2 rfl (by decide) _ _ _ rfl HH1.out ⟨wd.heap.size + 1, 0, none⟩ 1 1 [.int .i32 lo] rfl rfl HCW.out (by intro u hu; simp at hu; subst hu; rfl) (by decide) (by unfold maxLen; omega) (by omega) (by (try simp); omega) _ rfl ?_
               intro g2 d2 w2 hown2 hgrow2 hat2 hlt2
               have hg2 : (w1).grownBy w2 (Value.slice oh n ch).ownBlock := hgrow2
               have hpb2 : w2.heap[pb]? = some (.cells #[.int .i64 3, .int .i32 0, .slice ol n cl, .slice oh n ch, .bool NT, .int .i64 0, .int .i64 0, .int .i64 0, .bool false] 213 (0, 0)) := by
                obtain ⟨Wb, q1, q2, -⟩ := HFA.out
                have hbW : Below w1.heap.size w1 (w1) := (Below.refl _ _)
                exact (zae HH1.out hbW hg2 (by omega) (Nat.le_refl _)).trans ((zae HL1.out q1 q2 hpbl (Nat.le_refl _)).trans HPB.out)
               obtain ⟨-, -, m2, m3, -⟩ := zaq hpb2
               have fz2 := zah (i := 2) hpb2
               have fz3 := zah (i := 3) hpb2
               have HFB := zh (show ∃ Wb2, Below w1.heap.size w1 Wb2 /\ Wb2.grownBy w2 (Value.slice oh n ch).ownBlock /\ w2.ownsRow (pb + 1) 21 1 (.slice (some ⟨g2, 0, none⟩) (n + 1) d2) (n + 1) (ys ++ [.int .i32 lo]) /\ ((Value.slice oh n ch).ownBlock = some g2 \/ g2 = Wb2.heap.size) from ⟨w1, (Below.refl _ _), hg2, hown2, hat2⟩)
               clear hown2 hgrow2 hat2 hg2 hpb2)
            | (refine step_append_lies _ rfl _ _ 74 rfl (pb + 1) 21 i1 (.int .i32 0) 1 4 Tryz.underlying74 hi1 hy0 hy1 hy2 rfl (by decide) _ _ _ rfl HH1.out ⟨wd.heap.size, 0, none⟩ 1 1 [.int .i32 lo] rfl rfl HCW.out (by intro u hu; simp at hu; subst hu; rfl) (by decide) (by unfold maxLen; omega) (by omega) (by (try simp); omega) _ rfl ?_
               intro g2 d2 w2 hown2 hgrow2 hat2 hlt2
               have hg2 : (w1).grownBy w2 (Value.slice oh n ch).ownBlock := hgrow2
               have hpb2 : w2.heap[pb]? = some (.cells #[.int .i64 3, .int .i32 0, .slice ol n cl, .slice oh n ch, .bool NT, .int .i64 0, .int .i64 0, .int .i64 0, .bool false] 213 (0, 0)) := by
                obtain ⟨Wb, q1, q2, -⟩ := HFA.out
                have hbW : Below w1.heap.size w1 (w1) := (Below.refl _ _)
                exact (zae HH1.out hbW hg2 (by omega) (Nat.le_refl _)).trans ((zae HL1.out q1 q2 hpbl (Nat.le_refl _)).trans HPB.out)
               obtain ⟨-, -, m2, m3, -⟩ := zaq hpb2
               have fz2 := zah (i := 2) hpb2
               have fz3 := zah (i := 3) hpb2
               have HFB := zh (show ∃ Wb2, Below w1.heap.size w1 Wb2 /\ Wb2.grownBy w2 (Value.slice oh n ch).ownBlock /\ w2.ownsRow (pb + 1) 21 1 (.slice (some ⟨g2, 0, none⟩) (n + 1) d2) (n + 1) (ys ++ [.int .i32 lo]) /\ ((Value.slice oh n ch).ownBlock = some g2 \/ g2 = Wb2.heap.size) from ⟨w1, (Below.refl _ _), hg2, hown2, hat2⟩)
               clear hown2 hgrow2 hat2 hg2 hpb2))
           all_goals
            as_aux_lemma =>
            go_wp2_with fail
            go_roundg g
            case measure => omega
            case rel =>
             obtain ⟨Wb, q1, q2, q3, q4, q5⟩ := HFA.out
             obtain ⟨Wb2, q6, q7, q8, q9⟩ := HFB.out
             exact ⟨a2, _, n + 1, HBX.out.two HPB.out HL1.out HL2.out HNE.out q1 q2 q3 q4 q5 q6 q7 q8 q9, by omega, by omega, by omega, HNX2.out⟩
         | false =>
           have hbt : (false || decide (lo < lo)) = false := by simp
           rw [hbt] at HWD HNX2 HBX
           go_wp2_with fail
           rw [show wv.setCell ⟨bp, 4, none⟩ (.bool false) = wd from HWD.out]
           clear c0 c1 c2 c3 c4 f0 f1 f2 f3 f4
           as_aux_lemma =>
           go_region_law (first
            | (refine step_append_lies _ rfl _ _ 74 rfl (pb + 1) 21 i1 (.int .i32 0) 1 4 Tryz.underlying74 hi1 hy0 hy1 hy2 rfl (by decide) _ _ _ rfl (show ((wd.alloc (Obj.cells #[.int .i32 lo] 21)).drew).ownsRow _ _ _ _ _ _ from World.ownsRow.alloc (w := wd) HL1.out _) ⟨wd.heap.size, 0, none⟩ 1 1 [.int .i32 lo] rfl rfl (zbB Array.getElem?_push_size) (by intro u hu; simp at hu; subst hu; rfl) (by decide) (by unfold maxLen; omega) (by omega) (by simp; omega) _ rfl ?_
               intro g1 d1 w1 hown1 hgrow1 hat1 hlt1
               have hbW : Below wd.heap.size wd ((wd.alloc (Obj.cells #[.int .i32 lo] 21)).drew) := ((Below.refl _ _).alloc (Nat.le_refl _) _).drew
               have hg1 : ((wd.alloc (Obj.cells #[.int .i32 lo] 21)).drew).grownBy w1 (Value.slice ol n cl).ownBlock := hgrow1
               have hpb1 : w1.heap[pb]? = some (.cells #[.int .i64 3, .int .i32 0, .slice ol n cl, .slice oh n ch, .bool NT, .int .i64 0, .int .i64 0, .int .i64 0, .bool false] 213 (0, 0)) := (zae HL1.out hbW hg1 hpbl (Nat.le_refl _)).trans HPB.out
               obtain ⟨-, -, m2, m3, -⟩ := zaq hpb1
               have fz2 := zah (i := 2) hpb1
               have fz3 := zah (i := 3) hpb1
               have HH1 := zh (zbl HL2.out HNE.out hbW hg1)
               have hs1 : wd.heap.size <= w1.heap.size := Nat.le_trans hbW.size hg1.size
               have hpw1 : pb < w1.heap.size := Nat.lt_of_lt_of_le hpbl hs1
               have HFA := zh (show ∃ Wb, Below wd.heap.size wd Wb /\ Wb.grownBy w1 (Value.slice ol n cl).ownBlock /\ w1.ownsRow (pb + 1) 21 1 (.slice (some ⟨g1, 0, none⟩) (n + 1) d1) (n + 1) (xs ++ [.int .i32 lo]) /\ ((Value.slice ol n cl).ownBlock = some g1 \/ g1 = Wb.heap.size) /\ g1 < w1.heap.size from ⟨_, hbW, hg1, hown1, hat1, hlt1⟩)
               skip
               clear hown1 hgrow1 hat1 hbW hg1 hpb1)
            | (refine step_append_lies _ rfl _ _ 74 rfl (pb + 1) 21 i1 (.int .i32 0) 1 4 Tryz.underlying74 hi1 hy0 hy1 hy2 rfl (by decide) _ _ _ rfl (show (((wd.alloc (Obj.cells #[.int .i32 lo] 21)).alloc (Obj.cells #[.int .i32 lo] 21)).drew).ownsRow _ _ _ _ _ _ from World.ownsRow.alloc (w := wd.alloc (Obj.cells #[.int .i32 lo] 21)) (World.ownsRow.alloc (w := wd) HL1.out _) _) ⟨wd.heap.size, 0, none⟩ 1 1 [.int .i32 lo] rfl rfl (zbB HXY.out) (by intro u hu; simp at hu; subst hu; rfl) (by decide) (by unfold maxLen; omega) (by omega) (by simp; omega) _ rfl ?_
               intro g1 d1 w1 hown1 hgrow1 hat1 hlt1
               have hbW : Below wd.heap.size wd (((wd.alloc (Obj.cells #[.int .i32 lo] 21)).alloc (Obj.cells #[.int .i32 lo] 21)).drew) := (((Below.refl _ _).alloc (Nat.le_refl _) _).alloc (by simp) _).drew
               have hg1 : (((wd.alloc (Obj.cells #[.int .i32 lo] 21)).alloc (Obj.cells #[.int .i32 lo] 21)).drew).grownBy w1 (Value.slice ol n cl).ownBlock := hgrow1
               have hpb1 : w1.heap[pb]? = some (.cells #[.int .i64 3, .int .i32 0, .slice ol n cl, .slice oh n ch, .bool NT, .int .i64 0, .int .i64 0, .int .i64 0, .bool false] 213 (0, 0)) := (zae HL1.out hbW hg1 hpbl (Nat.le_refl _)).trans HPB.out
               obtain ⟨-, -, m2, m3, -⟩ := zaq hpb1
               have fz2 := zah (i := 2) hpb1
               have fz3 := zah (i := 3) hpb1
               have HH1 := zh (zbl HL2.out HNE.out hbW hg1)
               have hs1 : wd.heap.size <= w1.heap.size := Nat.le_trans hbW.size hg1.size
               have hpw1 : pb < w1.heap.size := Nat.lt_of_lt_of_le hpbl hs1
               have HFA := zh (show ∃ Wb, Below wd.heap.size wd Wb /\ Wb.grownBy w1 (Value.slice ol n cl).ownBlock /\ w1.ownsRow (pb + 1) 21 1 (.slice (some ⟨g1, 0, none⟩) (n + 1) d1) (n + 1) (xs ++ [.int .i32 lo]) /\ ((Value.slice ol n cl).ownBlock = some g1 \/ g1 = Wb.heap.size) /\ g1 < w1.heap.size from ⟨_, hbW, hg1, hown1, hat1, hlt1⟩)
               have HCW := zh (zb3 (k := wd.heap.size + 1) (show (((wd.alloc (Obj.cells #[.int .i32 lo] 21)).alloc (Obj.cells #[.int .i32 lo] 21)).drew).ownsRow _ _ _ _ _ _ from World.ownsRow.alloc (w := wd.alloc (Obj.cells #[.int .i32 lo] 21)) (World.ownsRow.alloc (w := wd) HL1.out (Obj.cells #[.int .i32 lo] 21)) (Obj.cells #[.int .i32 lo] 21)) hg1 (fun e => by have := (HL1.out.lt _ e).2; omega) HXY2.out)
               clear hown1 hgrow1 hat1 hbW hg1 hpb1)
            | (refine step_append_lies _ rfl _ _ 74 rfl (pb + 1) 21 i1 (.int .i32 0) 1 4 Tryz.underlying74 hi1 hy0 hy1 hy2 rfl (by decide) _ _ _ rfl (show (((wd.alloc (Obj.cells #[.int .i32 lo] 21)).alloc (Obj.cells #[.int .i32 lo] 21)).drew).ownsRow _ _ _ _ _ _ from World.ownsRow.alloc (w := wd.alloc (Obj.cells #[.int .i32 lo] 21)) (World.ownsRow.alloc (w := wd) HL1.out _) _) ⟨wd.heap.size + 1, 0, none⟩ 1 1 [.int .i32 lo] rfl rfl (zbB HYX2.out) (by intro u hu; simp at hu; subst hu; rfl) (by decide) (by unfold maxLen; omega) (by omega) (by simp; omega) _ rfl ?_
               intro g1 d1 w1 hown1 hgrow1 hat1 hlt1
               have hbW : Below wd.heap.size wd (((wd.alloc (Obj.cells #[.int .i32 lo] 21)).alloc (Obj.cells #[.int .i32 lo] 21)).drew) := (((Below.refl _ _).alloc (Nat.le_refl _) _).alloc (by simp) _).drew
               have hg1 : (((wd.alloc (Obj.cells #[.int .i32 lo] 21)).alloc (Obj.cells #[.int .i32 lo] 21)).drew).grownBy w1 (Value.slice ol n cl).ownBlock := hgrow1
               have hpb1 : w1.heap[pb]? = some (.cells #[.int .i64 3, .int .i32 0, .slice ol n cl, .slice oh n ch, .bool NT, .int .i64 0, .int .i64 0, .int .i64 0, .bool false] 213 (0, 0)) := (zae HL1.out hbW hg1 hpbl (Nat.le_refl _)).trans HPB.out
               obtain ⟨-, -, m2, m3, -⟩ := zaq hpb1
               have fz2 := zah (i := 2) hpb1
               have fz3 := zah (i := 3) hpb1
               have HH1 := zh (zbl HL2.out HNE.out hbW hg1)
               have hs1 : wd.heap.size <= w1.heap.size := Nat.le_trans hbW.size hg1.size
               have hpw1 : pb < w1.heap.size := Nat.lt_of_lt_of_le hpbl hs1
               have HFA := zh (show ∃ Wb, Below wd.heap.size wd Wb /\ Wb.grownBy w1 (Value.slice ol n cl).ownBlock /\ w1.ownsRow (pb + 1) 21 1 (.slice (some ⟨g1, 0, none⟩) (n + 1) d1) (n + 1) (xs ++ [.int .i32 lo]) /\ ((Value.slice ol n cl).ownBlock = some g1 \/ g1 = Wb.heap.size) /\ g1 < w1.heap.size from ⟨_, hbW, hg1, hown1, hat1, hlt1⟩)
               have HCW := zh (zb3 (k := wd.heap.size) (show (((wd.alloc (Obj.cells #[.int .i32 lo] 21)).alloc (Obj.cells #[.int .i32 lo] 21)).drew).ownsRow _ _ _ _ _ _ from World.ownsRow.alloc (w := wd.alloc (Obj.cells #[.int .i32 lo] 21)) (World.ownsRow.alloc (w := wd) HL1.out (Obj.cells #[.int .i32 lo] 21)) (Obj.cells #[.int .i32 lo] 21)) hg1 (fun e => by have := (HL1.out.lt _ e).2; omega) HYX.out)
               clear hown1 hgrow1 hat1 hbW hg1 hpb1)
            | (refine step_append_lies _ rfl _ _ 74 rfl (pb + 1) 21 i1 (.int .i32 0) 1 4 Tryz.underlying74 hi1 hy0 hy1 hy2 rfl (by decide) _ _ _ rfl (HH1.out.alloc _) ⟨w1.heap.size, 0, none⟩ 1 1 [.int .i32 lo] rfl rfl (zbB Array.getElem?_push_size) (by intro u hu; simp at hu; subst hu; rfl) (by decide) (by unfold maxLen; omega) (by omega) (by (try simp); omega) _ rfl ?_
               intro g2 d2 w2 hown2 hgrow2 hat2 hlt2
               have hg2 : (w1.alloc (Obj.cells #[.int .i32 lo] 21)).grownBy w2 (Value.slice oh n ch).ownBlock := hgrow2
               have hpb2 : w2.heap[pb]? = some (.cells #[.int .i64 3, .int .i32 0, .slice ol n cl, .slice oh n ch, .bool NT, .int .i64 0, .int .i64 0, .int .i64 0, .bool false] 213 (0, 0)) := by
                obtain ⟨Wb, q1, q2, -⟩ := HFA.out
                have hbW : Below w1.heap.size w1 (w1.alloc (Obj.cells #[.int .i32 lo] 21)) := ((Below.refl _ _).alloc (Nat.le_refl _) _)
                exact (zae HH1.out hbW hg2 (by omega) (Nat.le_refl _)).trans ((zae HL1.out q1 q2 hpbl (Nat.le_refl _)).trans HPB.out)
               obtain ⟨-, -, m2, m3, -⟩ := zaq hpb2
               have fz2 := zah (i := 2) hpb2
               have fz3 := zah (i := 3) hpb2
               have HFB := zh (show ∃ Wb2, Below w1.heap.size w1 Wb2 /\ Wb2.grownBy w2 (Value.slice oh n ch).ownBlock /\ w2.ownsRow (pb + 1) 21 1 (.slice (some ⟨g2, 0, none⟩) (n + 1) d2) (n + 1) (ys ++ [.int .i32 lo]) /\ ((Value.slice oh n ch).ownBlock = some g2 \/ g2 = Wb2.heap.size) from ⟨w1.alloc (Obj.cells #[.int .i32 lo] 21), ((Below.refl _ _).alloc (Nat.le_refl _) _), hg2, hown2, hat2⟩)
               clear hown2 hgrow2 hat2 hg2 hpb2)
            | (refine step_append_lies _ rfl _ _ 74 rfl (pb + 1) 21 i1 (.int .i32 0) 1 4 Tryz.underlying74 hi1 hy0 hy1 hy2 rfl (by decide) _ _ _ rfl HH1.out ⟨wd.heap.size + 1, 0, none⟩ 1 1 [.int .i32 lo] rfl rfl HCW.out (by intro u hu; simp at hu; subst hu; rfl) (by decide) (by unfold maxLen; omega) (by omega) (by (try simp); omega) _ rfl ?_
               intro g2 d2 w2 hown2 hgrow2 hat2 hlt2
               have hg2 : (w1).grownBy w2 (Value.slice oh n ch).ownBlock := hgrow2
               have hpb2 : w2.heap[pb]? = some (.cells #[.int .i64 3, .int .i32 0, .slice ol n cl, .slice oh n ch, .bool NT, .int .i64 0, .int .i64 0, .int .i64 0, .bool false] 213 (0, 0)) := by
                obtain ⟨Wb, q1, q2, -⟩ := HFA.out
                have hbW : Below w1.heap.size w1 (w1) := (Below.refl _ _)
                exact (zae HH1.out hbW hg2 (by omega) (Nat.le_refl _)).trans ((zae HL1.out q1 q2 hpbl (Nat.le_refl _)).trans HPB.out)
               obtain ⟨-, -, m2, m3, -⟩ := zaq hpb2
               have fz2 := zah (i := 2) hpb2
               have fz3 := zah (i := 3) hpb2
               have HFB := zh (show ∃ Wb2, Below w1.heap.size w1 Wb2 /\ Wb2.grownBy w2 (Value.slice oh n ch).ownBlock /\ w2.ownsRow (pb + 1) 21 1 (.slice (some ⟨g2, 0, none⟩) (n + 1) d2) (n + 1) (ys ++ [.int .i32 lo]) /\ ((Value.slice oh n ch).ownBlock = some g2 \/ g2 = Wb2.heap.size) from ⟨w1, (Below.refl _ _), hg2, hown2, hat2⟩)
               clear hown2 hgrow2 hat2 hg2 hpb2)
            | (refine step_append_lies _ rfl _ _ 74 rfl (pb + 1) 21 i1 (.int .i32 0) 1 4 Tryz.underlying74 hi1 hy0 hy1 hy2 rfl (by decide) _ _ _ rfl HH1.out ⟨wd.heap.size, 0, none⟩ 1 1 [.int .i32 lo] rfl rfl HCW.out (by intro u hu; simp at hu; subst hu; rfl) (by decide) (by unfold maxLen; omega) (by omega) (by (try simp); omega) _ rfl ?_
               intro g2 d2 w2 hown2 hgrow2 hat2 hlt2
               have hg2 : (w1).grownBy w2 (Value.slice oh n ch).ownBlock := hgrow2
               have hpb2 : w2.heap[pb]? = some (.cells #[.int .i64 3, .int .i32 0, .slice ol n cl, .slice oh n ch, .bool NT, .int .i64 0, .int .i64 0, .int .i64 0, .bool false] 213 (0, 0)) := by
                obtain ⟨Wb, q1, q2, -⟩ := HFA.out
                have hbW : Below w1.heap.size w1 (w1) := (Below.refl _ _)
                exact (zae HH1.out hbW hg2 (by omega) (Nat.le_refl _)).trans ((zae HL1.out q1 q2 hpbl (Nat.le_refl _)).trans HPB.out)
               obtain ⟨-, -, m2, m3, -⟩ := zaq hpb2
               have fz2 := zah (i := 2) hpb2
               have fz3 := zah (i := 3) hpb2
               have HFB := zh (show ∃ Wb2, Below w1.heap.size w1 Wb2 /\ Wb2.grownBy w2 (Value.slice oh n ch).ownBlock /\ w2.ownsRow (pb + 1) 21 1 (.slice (some ⟨g2, 0, none⟩) (n + 1) d2) (n + 1) (ys ++ [.int .i32 lo]) /\ ((Value.slice oh n ch).ownBlock = some g2 \/ g2 = Wb2.heap.size) from ⟨w1, (Below.refl _ _), hg2, hown2, hat2⟩)
               clear hown2 hgrow2 hat2 hg2 hpb2))
           all_goals
            as_aux_lemma =>
            go_wp2_with fail
            go_roundg g
            case measure => omega
            case rel =>
             obtain ⟨Wb, q1, q2, q3, q4, q5⟩ := HFA.out
             obtain ⟨Wb2, q6, q7, q8, q9⟩ := HFB.out
             exact ⟨a2, _, n + 1, HBX.out.two HPB.out HL1.out HL2.out HNE.out q1 q2 q3 q4 q5 q6 q7 q8 q9, by omega, by omega, by omega, HNX2.out⟩
       | true =>
         obtain ⟨rfl, tq, tq1, tq2, tq3, tq4⟩ : b2 = false /\ ∃ t, itR (rs.drop a1) = some (lo, t) /\ rs.drop a2 = t /\ (hd t = 45 /\ 1 < t.length /\ hd t.tail ≠ 93) /\ a2 <= rs.length := HQV.out
         have hlt2 : a2 + 1 < L := by
          have h1 := tq3.2.1
          rw [<- tq2, List.length_drop, HL.out] at h1
          omega
         have HSW := zh (HSV.out.at (a2 + 1) ((a2 : Int) + 1) (by omega))
         have HI2 := zh (HITM.out (a2 + 1) k _ HSW.out.dp (by rw [HL.out]; exact hlt2))
         obtain ⟨vp, root, o, c, N, xv, h1, -⟩ := HSV.out.dp
         rw [HL.out] at h1
         obtain ⟨⟨c0, c1, c2, c3, c4⟩, f0, f1, f2, f3, f4⟩ := zaG h1
         clear h1
         clear tq1 tq2 tq3 tq4
         go_wp2_with fail
         refine HI2.out.mono ?_
         rintro e wc ⟨hi, a3, b3, rfl, hd7, hb7, hk7, hlo7, hhi7, hit⟩
         have HMS := zh (HSW.out.moved hd7 hb7 hk7)
         have HTT := zh (clT_two (b3 := b3) (hi := hi) HRR.out.1 HRR.out.2 HQV.out hlo5 hlo7 HOP.out.2 (fun h => by have h2 := hit; rw [h] at h2; exact h2) (fun x m h => by have h2 := hit; rw [h] at h2; exact h2))
         have ha3 : a1 < a3 := by omega
         have ha3t : a3 <= L + 1 := by omega
         clear hd7 hb7 hk7 hit c0 c1 c2 c3 c4 f0 f1 f2 f3 f4 HQV HRR HITM HI2 HSW HSV
         -- behind the item: bad or not, one more
         have HBX := zh (HMS.out.bad (b3 || decide (hi < lo)))
         obtain ⟨wd, hwd⟩ : ∃ wd, wc.setCell ⟨bp, 4, none⟩ (.bool (b3 || decide (hi < lo))) = wd := ⟨_, rfl⟩
         have HWD := zh hwd
         rw [hwd] at HBX
         clear hwd
         have hpb3 : pb + 1 <= wd.heap.size /\ pb < wd.heap.size := by
          obtain ⟨_, _, _, _, _, _, hh, _⟩ := HBX.out.cp
          have := (Array.getElem?_eq_some_iff.1 hh).1; omega
         obtain ⟨hpbs, hpbl⟩ := hpb3
         obtain ⟨ol, cl, oh, ch, xs, ys, hpb, hl1, hl2, hne⟩ := HBX.out.cp
         have HPB := zh hpb
         have HL1 := zh hl1
         have HL2 := zh hl2
         have HNE := zh hne
         obtain ⟨-, -, p2, p3, -⟩ := zaq hpb
         clear hpb hl1 hl2 hne
         have HXY := zh (show (((wd.alloc (Obj.cells #[.int .i32 lo] 21)).alloc (Obj.cells #[.int .i32 hi] 21)).drew).heap[wd.heap.size]? = some (Obj.cells #[.int .i32 lo] 21 (0, 0)) from (Below.heap_alloc _ _ _ (by simp)).trans Array.getElem?_push_size)
         have HXY2 := zh (show (((wd.alloc (Obj.cells #[.int .i32 lo] 21)).alloc (Obj.cells #[.int .i32 hi] 21)).drew).heap[wd.heap.size + 1]? = some (Obj.cells #[.int .i32 hi] 21 (0, 0)) from by
          have e : (wd.alloc (Obj.cells #[.int .i32 lo] 21)).heap.size = wd.heap.size + 1 := by simp
          rw [<- e]; exact Array.getElem?_push_size)
         have HYX := zh (show (((wd.alloc (Obj.cells #[.int .i32 hi] 21)).alloc (Obj.cells #[.int .i32 lo] 21)).drew).heap[wd.heap.size]? = some (Obj.cells #[.int .i32 hi] 21 (0, 0)) from (Below.heap_alloc _ _ _ (by simp)).trans Array.getElem?_push_size)
         have HYX2 := zh (show (((wd.alloc (Obj.cells #[.int .i32 hi] 21)).alloc (Obj.cells #[.int .i32 lo] 21)).drew).heap[wd.heap.size + 1]? = some (Obj.cells #[.int .i32 lo] 21 (0, 0)) from by
          have e : (wd.alloc (Obj.cells #[.int .i32 hi] 21)).heap.size = wd.heap.size + 1 := by simp
          rw [<- e]; exact Array.getElem?_push_size)
         have HNX2 := zh (zgM HTT.out)
         obtain ⟨vp, root, o, c, N, xv, h1, -⟩ := HMS.out.dp
         rw [HL.out] at h1
         obtain ⟨⟨c0, c1, c2, c3, c4⟩, f0, f1, f2, f3, f4⟩ := zaG h1
         clear h1
         have HGT := zh (show decide (lo > hi) = decide (hi < lo) from rfl)
         cases b3 with
         | true =>
           have hbt : (true || decide (hi < lo)) = true := rfl
           rw [hbt] at HWD HNX2 HBX
           go_wp2_with fail
           rw [show wc.setCell ⟨bp, 4, none⟩ (.bool true) = wd from HWD.out]
           clear c0 c1 c2 c3 c4 f0 f1 f2 f3 f4
           as_aux_lemma =>
           go_region_law (first
            | (refine step_append_lies _ rfl _ _ 74 rfl (pb + 1) 21 i1 (.int .i32 0) 1 4 Tryz.underlying74 hi1 hy0 hy1 hy2 rfl (by decide) _ _ _ rfl (show ((wd.alloc (Obj.cells #[.int .i32 lo] 21)).drew).ownsRow _ _ _ _ _ _ from World.ownsRow.alloc (w := wd) HL1.out _) ⟨wd.heap.size, 0, none⟩ 1 1 [.int .i32 lo] rfl rfl (zbB Array.getElem?_push_size) (by intro u hu; simp at hu; subst hu; rfl) (by decide) (by unfold maxLen; omega) (by omega) (by simp; omega) _ rfl ?_
               intro g1 d1 w1 hown1 hgrow1 hat1 hlt1
               have hbW : Below wd.heap.size wd ((wd.alloc (Obj.cells #[.int .i32 lo] 21)).drew) := ((Below.refl _ _).alloc (Nat.le_refl _) _).drew
               have hg1 : ((wd.alloc (Obj.cells #[.int .i32 lo] 21)).drew).grownBy w1 (Value.slice ol n cl).ownBlock := hgrow1
               have hpb1 : w1.heap[pb]? = some (.cells #[.int .i64 3, .int .i32 0, .slice ol n cl, .slice oh n ch, .bool NT, .int .i64 0, .int .i64 0, .int .i64 0, .bool false] 213 (0, 0)) := (zae HL1.out hbW hg1 hpbl (Nat.le_refl _)).trans HPB.out
               obtain ⟨-, -, m2, m3, -⟩ := zaq hpb1
               have fz2 := zah (i := 2) hpb1
               have fz3 := zah (i := 3) hpb1
               have HH1 := zh (zbl HL2.out HNE.out hbW hg1)
               have hs1 : wd.heap.size <= w1.heap.size := Nat.le_trans hbW.size hg1.size
               have hpw1 : pb < w1.heap.size := Nat.lt_of_lt_of_le hpbl hs1
               have HFA := zh (show ∃ Wb, Below wd.heap.size wd Wb /\ Wb.grownBy w1 (Value.slice ol n cl).ownBlock /\ w1.ownsRow (pb + 1) 21 1 (.slice (some ⟨g1, 0, none⟩) (n + 1) d1) (n + 1) (xs ++ [.int .i32 lo]) /\ ((Value.slice ol n cl).ownBlock = some g1 \/ g1 = Wb.heap.size) /\ g1 < w1.heap.size from ⟨_, hbW, hg1, hown1, hat1, hlt1⟩)
               skip
               clear hown1 hgrow1 hat1 hbW hg1 hpb1)
            | (refine step_append_lies _ rfl _ _ 74 rfl (pb + 1) 21 i1 (.int .i32 0) 1 4 Tryz.underlying74 hi1 hy0 hy1 hy2 rfl (by decide) _ _ _ rfl (show (((wd.alloc (Obj.cells #[.int .i32 lo] 21)).alloc (Obj.cells #[.int .i32 hi] 21)).drew).ownsRow _ _ _ _ _ _ from World.ownsRow.alloc (w := wd.alloc (Obj.cells #[.int .i32 lo] 21)) (World.ownsRow.alloc (w := wd) HL1.out _) _) ⟨wd.heap.size, 0, none⟩ 1 1 [.int .i32 lo] rfl rfl (zbB HXY.out) (by intro u hu; simp at hu; subst hu; rfl) (by decide) (by unfold maxLen; omega) (by omega) (by simp; omega) _ rfl ?_
               intro g1 d1 w1 hown1 hgrow1 hat1 hlt1
               have hbW : Below wd.heap.size wd (((wd.alloc (Obj.cells #[.int .i32 lo] 21)).alloc (Obj.cells #[.int .i32 hi] 21)).drew) := (((Below.refl _ _).alloc (Nat.le_refl _) _).alloc (by simp) _).drew
               have hg1 : (((wd.alloc (Obj.cells #[.int .i32 lo] 21)).alloc (Obj.cells #[.int .i32 hi] 21)).drew).grownBy w1 (Value.slice ol n cl).ownBlock := hgrow1
               have hpb1 : w1.heap[pb]? = some (.cells #[.int .i64 3, .int .i32 0, .slice ol n cl, .slice oh n ch, .bool NT, .int .i64 0, .int .i64 0, .int .i64 0, .bool false] 213 (0, 0)) := (zae HL1.out hbW hg1 hpbl (Nat.le_refl _)).trans HPB.out
               obtain ⟨-, -, m2, m3, -⟩ := zaq hpb1
               have fz2 := zah (i := 2) hpb1
               have fz3 := zah (i := 3) hpb1
               have HH1 := zh (zbl HL2.out HNE.out hbW hg1)
               have hs1 : wd.heap.size <= w1.heap.size := Nat.le_trans hbW.size hg1.size
               have hpw1 : pb < w1.heap.size := Nat.lt_of_lt_of_le hpbl hs1
               have HFA := zh (show ∃ Wb, Below wd.heap.size wd Wb /\ Wb.grownBy w1 (Value.slice ol n cl).ownBlock /\ w1.ownsRow (pb + 1) 21 1 (.slice (some ⟨g1, 0, none⟩) (n + 1) d1) (n + 1) (xs ++ [.int .i32 lo]) /\ ((Value.slice ol n cl).ownBlock = some g1 \/ g1 = Wb.heap.size) /\ g1 < w1.heap.size from ⟨_, hbW, hg1, hown1, hat1, hlt1⟩)
               have HCW := zh (zb3 (k := wd.heap.size + 1) (show (((wd.alloc (Obj.cells #[.int .i32 lo] 21)).alloc (Obj.cells #[.int .i32 hi] 21)).drew).ownsRow _ _ _ _ _ _ from World.ownsRow.alloc (w := wd.alloc (Obj.cells #[.int .i32 lo] 21)) (World.ownsRow.alloc (w := wd) HL1.out (Obj.cells #[.int .i32 lo] 21)) (Obj.cells #[.int .i32 hi] 21)) hg1 (fun e => by have := (HL1.out.lt _ e).2; omega) HXY2.out)
               clear hown1 hgrow1 hat1 hbW hg1 hpb1)
            | (refine step_append_lies _ rfl _ _ 74 rfl (pb + 1) 21 i1 (.int .i32 0) 1 4 Tryz.underlying74 hi1 hy0 hy1 hy2 rfl (by decide) _ _ _ rfl (show (((wd.alloc (Obj.cells #[.int .i32 hi] 21)).alloc (Obj.cells #[.int .i32 lo] 21)).drew).ownsRow _ _ _ _ _ _ from World.ownsRow.alloc (w := wd.alloc (Obj.cells #[.int .i32 hi] 21)) (World.ownsRow.alloc (w := wd) HL1.out _) _) ⟨wd.heap.size + 1, 0, none⟩ 1 1 [.int .i32 lo] rfl rfl (zbB HYX2.out) (by intro u hu; simp at hu; subst hu; rfl) (by decide) (by unfold maxLen; omega) (by omega) (by simp; omega) _ rfl ?_
               intro g1 d1 w1 hown1 hgrow1 hat1 hlt1
               have hbW : Below wd.heap.size wd (((wd.alloc (Obj.cells #[.int .i32 hi] 21)).alloc (Obj.cells #[.int .i32 lo] 21)).drew) := (((Below.refl _ _).alloc (Nat.le_refl _) _).alloc (by simp) _).drew
               have hg1 : (((wd.alloc (Obj.cells #[.int .i32 hi] 21)).alloc (Obj.cells #[.int .i32 lo] 21)).drew).grownBy w1 (Value.slice ol n cl).ownBlock := hgrow1
               have hpb1 : w1.heap[pb]? = some (.cells #[.int .i64 3, .int .i32 0, .slice ol n cl, .slice oh n ch, .bool NT, .int .i64 0, .int .i64 0, .int .i64 0, .bool false] 213 (0, 0)) := (zae HL1.out hbW hg1 hpbl (Nat.le_refl _)).trans HPB.out
               obtain ⟨-, -, m2, m3, -⟩ := zaq hpb1
               have fz2 := zah (i := 2) hpb1
               have fz3 := zah (i := 3) hpb1
               have HH1 := zh (zbl HL2.out HNE.out hbW hg1)
               have hs1 : wd.heap.size <= w1.heap.size := Nat.le_trans hbW.size hg1.size
               have hpw1 : pb < w1.heap.size := Nat.lt_of_lt_of_le hpbl hs1
               have HFA := zh (show ∃ Wb, Below wd.heap.size wd Wb /\ Wb.grownBy w1 (Value.slice ol n cl).ownBlock /\ w1.ownsRow (pb + 1) 21 1 (.slice (some ⟨g1, 0, none⟩) (n + 1) d1) (n + 1) (xs ++ [.int .i32 lo]) /\ ((Value.slice ol n cl).ownBlock = some g1 \/ g1 = Wb.heap.size) /\ g1 < w1.heap.size from ⟨_, hbW, hg1, hown1, hat1, hlt1⟩)
               have HCW := zh (zb3 (k := wd.heap.size) (show (((wd.alloc (Obj.cells #[.int .i32 hi] 21)).alloc (Obj.cells #[.int .i32 lo] 21)).drew).ownsRow _ _ _ _ _ _ from World.ownsRow.alloc (w := wd.alloc (Obj.cells #[.int .i32 hi] 21)) (World.ownsRow.alloc (w := wd) HL1.out (Obj.cells #[.int .i32 hi] 21)) (Obj.cells #[.int .i32 lo] 21)) hg1 (fun e => by have := (HL1.out.lt _ e).2; omega) HYX.out)
               clear hown1 hgrow1 hat1 hbW hg1 hpb1)
            | (refine step_append_lies _ rfl _ _ 74 rfl (pb + 1) 21 i1 (.int .i32 0) 1 4 Tryz.underlying74 hi1 hy0 hy1 hy2 rfl (by decide) _ _ _ rfl (HH1.out.alloc _) ⟨w1.heap.size, 0, none⟩ 1 1 [.int .i32 hi] rfl rfl (zbB Array.getElem?_push_size) (by intro u hu; simp at hu; subst hu; rfl) (by decide) (by unfold maxLen; omega) (by omega) (by (try simp); omega) _ rfl ?_
               intro g2 d2 w2 hown2 hgrow2 hat2 hlt2
               have hg2 : (w1.alloc (Obj.cells #[.int .i32 hi] 21)).grownBy w2 (Value.slice oh n ch).ownBlock := hgrow2
               have hpb2 : w2.heap[pb]? = some (.cells #[.int .i64 3, .int .i32 0, .slice ol n cl, .slice oh n ch, .bool NT, .int .i64 0, .int .i64 0, .int .i64 0, .bool false] 213 (0, 0)) := by
                obtain ⟨Wb, q1, q2, -⟩ := HFA.out
                have hbW : Below w1.heap.size w1 (w1.alloc (Obj.cells #[.int .i32 hi] 21)) := ((Below.refl _ _).alloc (Nat.le_refl _) _)
                exact (zae HH1.out hbW hg2 (by omega) (Nat.le_refl _)).trans ((zae HL1.out q1 q2 hpbl (Nat.le_refl _)).trans HPB.out)
               obtain ⟨-, -, m2, m3, -⟩ := zaq hpb2
               have fz2 := zah (i := 2) hpb2
               have fz3 := zah (i := 3) hpb2
               have HFB := zh (show ∃ Wb2, Below w1.heap.size w1 Wb2 /\ Wb2.grownBy w2 (Value.slice oh n ch).ownBlock /\ w2.ownsRow (pb + 1) 21 1 (.slice (some ⟨g2, 0, none⟩) (n + 1) d2) (n + 1) (ys ++ [.int .i32 hi]) /\ ((Value.slice oh n ch).ownBlock = some g2 \/ g2 = Wb2.heap.size) from ⟨w1.alloc (Obj.cells #[.int .i32 hi] 21), ((Below.refl _ _).alloc (Nat.le_refl _) _), hg2, hown2, hat2⟩)
               clear hown2 hgrow2 hat2 hg2 hpb2)
            | (refine step_append_lies _ rfl _ _ 74 rfl (pb + 1) 21 i1 (.int .i32 0) 1 4 Tryz.underlying74 hi1 hy0 hy1 hy2 rfl (by decide) _ _ _ rfl HH1.out ⟨wd.heap.size + 1, 0, none⟩ 1 1 [.int .i32 hi] rfl rfl HCW.out (by intro u hu; simp at hu; subst hu; rfl) (by decide) (by unfold maxLen; omega) (by omega) (by (try simp); omega) _ rfl ?_
               intro g2 d2 w2 hown2 hgrow2 hat2 hlt2
               have hg2 : (w1).grownBy w2 (Value.slice oh n ch).ownBlock := hgrow2
               have hpb2 : w2.heap[pb]? = some (.cells #[.int .i64 3, .int .i32 0, .slice ol n cl, .slice oh n ch, .bool NT, .int .i64 0, .int .i64 0, .int .i64 0, .bool false] 213 (0, 0)) := by
                obtain ⟨Wb, q1, q2, -⟩ := HFA.out
                have hbW : Below w1.heap.size w1 (w1) := (Below.refl _ _)
                exact (zae HH1.out hbW hg2 (by omega) (Nat.le_refl _)).trans ((zae HL1.out q1 q2 hpbl (Nat.le_refl _)).trans HPB.out)
               obtain ⟨-, -, m2, m3, -⟩ := zaq hpb2
               have fz2 := zah (i := 2) hpb2
               have fz3 := zah (i := 3) hpb2
               have HFB := zh (show ∃ Wb2, Below w1.heap.size w1 Wb2 /\ Wb2.grownBy w2 (Value.slice oh n ch).ownBlock /\ w2.ownsRow (pb + 1) 21 1 (.slice (some ⟨g2, 0, none⟩) (n + 1) d2) (n + 1) (ys ++ [.int .i32 hi]) /\ ((Value.slice oh n ch).ownBlock = some g2 \/ g2 = Wb2.heap.size) from ⟨w1, (Below.refl _ _), hg2, hown2, hat2⟩)
               clear hown2 hgrow2 hat2 hg2 hpb2)
            | (refine step_append_lies _ rfl _ _ 74 rfl (pb + 1) 21 i1 (.int .i32 0) 1 4 Tryz.underlying74 hi1 hy0 hy1 hy2 rfl (by decide) _ _ _ rfl HH1.out ⟨wd.heap.size, 0, none⟩ 1 1 [.int .i32 hi] rfl rfl HCW.out (by intro u hu; simp at hu; subst hu; rfl) (by decide) (by unfold maxLen; omega) (by omega) (by (try simp); omega) _ rfl ?_
               intro g2 d2 w2 hown2 hgrow2 hat2 hlt2
               have hg2 : (w1).grownBy w2 (Value.slice oh n ch).ownBlock := hgrow2
               have hpb2 : w2.heap[pb]? = some (.cells #[.int .i64 3, .int .i32 0, .slice ol n cl, .slice oh n ch, .bool NT, .int .i64 0, .int .i64 0, .int .i64 0, .bool false] 213 (0, 0)) := by
                obtain ⟨Wb, q1, q2, -⟩ := HFA.out
                have hbW : Below w1.heap.size w1 (w1) := (Below.refl _ _)
                exact (zae HH1.out hbW hg2 (by omega) (Nat.le_refl _)).trans ((zae HL1.out q1 q2 hpbl (Nat.le_refl _)).trans HPB.out)
               obtain ⟨-, -, m2, m3, -⟩ := zaq hpb2
               have fz2 := zah (i := 2) hpb2
               have fz3 := zah (i := 3) hpb2
               have HFB := zh (show ∃ Wb2, Below w1.heap.size w1 Wb2 /\ Wb2.grownBy w2 (Value.slice oh n ch).ownBlock /\ w2.ownsRow (pb + 1) 21 1 (.slice (some ⟨g2, 0, none⟩) (n + 1) d2) (n + 1) (ys ++ [.int .i32 hi]) /\ ((Value.slice oh n ch).ownBlock = some g2 \/ g2 = Wb2.heap.size) from ⟨w1, (Below.refl _ _), hg2, hown2, hat2⟩)
               clear hown2 hgrow2 hat2 hg2 hpb2))
           all_goals
            as_aux_lemma =>
            go_wp2_with fail
            go_roundg g
            case measure => omega
            case rel =>
             obtain ⟨Wb, q1, q2, q3, q4, q5⟩ := HFA.out
             obtain ⟨Wb2, q6, q7, q8, q9⟩ := HFB.out
             exact ⟨a3, _, n + 1, HBX.out.two HPB.out HL1.out HL2.out HNE.out q1 q2 q3 q4 q5 q6 q7 q8 q9, by omega, by omega, by omega, HNX2.out⟩
         | false =>
           have hbt : (false || decide (hi < lo)) = decide (hi < lo) := by simp
           rw [hbt] at HWD HNX2 HBX
           go_wp2_with fail
           rw [show wc.setCell ⟨bp, 4, none⟩ (.bool (decide (hi < lo))) = wd from HWD.out]
           clear c0 c1 c2 c3 c4 f0 f1 f2 f3 f4
           as_aux_lemma =>
           go_region_law (first
            | (refine step_append_lies _ rfl _ _ 74 rfl (pb + 1) 21 i1 (.int .i32 0) 1 4 Tryz.underlying74 hi1 hy0 hy1 hy2 rfl (by decide) _ _ _ rfl (show ((wd.alloc (Obj.cells #[.int .i32 lo] 21)).drew).ownsRow _ _ _ _ _ _ from World.ownsRow.alloc (w := wd) HL1.out _) ⟨wd.heap.size, 0, none⟩ 1 1 [.int .i32 lo] rfl rfl (zbB Array.getElem?_push_size) (by intro u hu; simp at hu; subst hu; rfl) (by decide) (by unfold maxLen; omega) (by omega) (by simp; omega) _ rfl ?_
               intro g1 d1 w1 hown1 hgrow1 hat1 hlt1
               have hbW : Below wd.heap.size wd ((wd.alloc (Obj.cells #[.int .i32 lo] 21)).drew) := ((Below.refl _ _).alloc (Nat.le_refl _) _).drew
               have hg1 : ((wd.alloc (Obj.cells #[.int .i32 lo] 21)).drew).grownBy w1 (Value.slice ol n cl).ownBlock := hgrow1
               have hpb1 : w1.heap[pb]? = some (.cells #[.int .i64 3, .int .i32 0, .slice ol n cl, .slice oh n ch, .bool NT, .int .i64 0, .int .i64 0, .int .i64 0, .bool false] 213 (0, 0)) := (zae HL1.out hbW hg1 hpbl (Nat.le_refl _)).trans HPB.out
               obtain ⟨-, -, m2, m3, -⟩ := zaq hpb1
               have fz2 := zah (i := 2) hpb1
               have fz3 := zah (i := 3) hpb1
               have HH1 := zh (zbl HL2.out HNE.out hbW hg1)
               have hs1 : wd.heap.size <= w1.heap.size := Nat.le_trans hbW.size hg1.size
               have hpw1 : pb < w1.heap.size := Nat.lt_of_lt_of_le hpbl hs1
               have HFA := zh (show ∃ Wb, Below wd.heap.size wd Wb /\ Wb.grownBy w1 (Value.slice ol n cl).ownBlock /\ w1.ownsRow (pb + 1) 21 1 (.slice (some ⟨g1, 0, none⟩) (n + 1) d1) (n + 1) (xs ++ [.int .i32 lo]) /\ ((Value.slice ol n cl).ownBlock = some g1 \/ g1 = Wb.heap.size) /\ g1 < w1.heap.size from ⟨_, hbW, hg1, hown1, hat1, hlt1⟩)
               skip
               clear hown1 hgrow1 hat1 hbW hg1 hpb1)
            | (refine step_append_lies _ rfl _ _ 74 rfl (pb + 1) 21 i1 (.int .i32 0) 1 4 Tryz.underlying74 hi1 hy0 hy1 hy2 rfl (by decide) _ _ _ rfl (show (((wd.alloc (Obj.cells #[.int .i32 lo] 21)).alloc (Obj.cells #[.int .i32 hi] 21)).drew).ownsRow _ _ _ _ _ _ from World.ownsRow.alloc (w := wd.alloc (Obj.cells #[.int .i32 lo] 21)) (World.ownsRow.alloc (w := wd) HL1.out _) _) ⟨wd.heap.size, 0, none⟩ 1 1 [.int .i32 lo] rfl rfl (zbB HXY.out) (by intro u hu; simp at hu; subst hu; rfl) (by decide) (by unfold maxLen; omega) (by omega) (by simp; omega) _ rfl ?_
               intro g1 d1 w1 hown1 hgrow1 hat1 hlt1
               have hbW : Below wd.heap.size wd (((wd.alloc (Obj.cells #[.int .i32 lo] 21)).alloc (Obj.cells #[.int .i32 hi] 21)).drew) := (((Below.refl _ _).alloc (Nat.le_refl _) _).alloc (by simp) _).drew
               have hg1 : (((wd.alloc (Obj.cells #[.int .i32 lo] 21)).alloc (Obj.cells #[.int .i32 hi] 21)).drew).grownBy w1 (Value.slice ol n cl).ownBlock := hgrow1
               have hpb1 : w1.heap[pb]? = some (.cells #[.int .i64 3, .int .i32 0, .slice ol n cl, .slice oh n ch, .bool NT, .int .i64 0, .int .i64 0, .int .i64 0, .bool false] 213 (0, 0)) := (zae HL1.out hbW hg1 hpbl (Nat.le_refl _)).trans HPB.out
               obtain ⟨-, -, m2, m3, -⟩ := zaq hpb1
               have fz2 := zah (i := 2) hpb1
               have fz3 := zah (i := 3) hpb1
               have HH1 := zh (zbl HL2.out HNE.out hbW hg1)
               have hs1 : wd.heap.size <= w1.heap.size := Nat.le_trans hbW.size hg1.size
               have hpw1 : pb < w1.heap.size := Nat.lt_of_lt_of_le hpbl hs1
               have HFA := zh (show ∃ Wb, Below wd.heap.size wd Wb /\ Wb.grownBy w1 (Value.slice ol n cl).ownBlock /\ w1.ownsRow (pb + 1) 21 1 (.slice (some ⟨g1, 0, none⟩) (n + 1) d1) (n + 1) (xs ++ [.int .i32 lo]) /\ ((Value.slice ol n cl).ownBlock = some g1 \/ g1 = Wb.heap.size) /\ g1 < w1.heap.size from ⟨_, hbW, hg1, hown1, hat1, hlt1⟩)
               have HCW := zh (zb3 (k := wd.heap.size + 1) (show (((wd.alloc (Obj.cells #[.int .i32 lo] 21)).alloc (Obj.cells #[.int .i32 hi] 21)).drew).ownsRow _ _ _ _ _ _ from World.ownsRow.alloc (w := wd.alloc (Obj.cells #[.int .i32 lo] 21)) (World.ownsRow.alloc (w := wd) HL1.out (Obj.cells #[.int .i32 lo] 21)) (Obj.cells #[.int .i32 hi] 21)) hg1 (fun e => by have := (HL1.out.lt _ e).2; omega) HXY2.out)
               clear hown1 hgrow1 hat1 hbW hg1 hpb1)
            | (refine step_append_lies _ rfl _ _ 74 rfl (pb + 1) 21 i1 (.int .i32 0) 1 4 Tryz.underlying74 hi1 hy0 hy1 hy2 rfl (by decide) _ _ _ rfl (show (((wd.alloc (Obj.cells #[.int .i32 hi] 21)).alloc (Obj.cells #[.int .i32 lo] 21)).drew).ownsRow _ _ _ _ _ _ from World.ownsRow.alloc (w := wd.alloc (Obj.cells #[.int .i32 hi] 21)) (World.ownsRow.alloc (w := wd) HL1.out _) _) ⟨wd.heap.size + 1, 0, none⟩ 1 1 [.int .i32 lo] rfl rfl (zbB HYX2.out) (by intro u hu; simp at hu; subst hu; rfl) (by decide) (by unfold maxLen; omega) (by omega) (by simp; omega) _ rfl ?_
               intro g1 d1 w1 hown1 hgrow1 hat1 hlt1
               have hbW : Below wd.heap.size wd (((wd.alloc (Obj.cells #[.int .i32 hi] 21)).alloc (Obj.cells #[.int .i32 lo] 21)).drew) := (((Below.refl _ _).alloc (Nat.le_refl _) _).alloc (by simp) _).drew
               have hg1 : (((wd.alloc (Obj.cells #[.int .i32 hi] 21)).alloc (Obj.cells #[.int .i32 lo] 21)).drew).grownBy w1 (Value.slice ol n cl).ownBlock := hgrow1
               have hpb1 : w1.heap[pb]? = some (.cells #[.int .i64 3, .int .i32 0, .slice ol n cl, .slice oh n ch, .bool NT, .int .i64 0, .int .i64 0, .int .i64 0, .bool false] 213 (0, 0)) := (zae HL1.out hbW hg1 hpbl (Nat.le_refl _)).trans HPB.out
               obtain ⟨-, -, m2, m3, -⟩ := zaq hpb1
               have fz2 := zah (i := 2) hpb1
               have fz3 := zah (i := 3) hpb1
               have HH1 := zh (zbl HL2.out HNE.out hbW hg1)
               have hs1 : wd.heap.size <= w1.heap.size := Nat.le_trans hbW.size hg1.size
               have hpw1 : pb < w1.heap.size := Nat.lt_of_lt_of_le hpbl hs1
               have HFA := zh (show ∃ Wb, Below wd.heap.size wd Wb /\ Wb.grownBy w1 (Value.slice ol n cl).ownBlock /\ w1.ownsRow (pb + 1) 21 1 (.slice (some ⟨g1, 0, none⟩) (n + 1) d1) (n + 1) (xs ++ [.int .i32 lo]) /\ ((Value.slice ol n cl).ownBlock = some g1 \/ g1 = Wb.heap.size) /\ g1 < w1.heap.size from ⟨_, hbW, hg1, hown1, hat1, hlt1⟩)
               have HCW := zh (zb3 (k := wd.heap.size) (show (((wd.alloc (Obj.cells #[.int .i32 hi] 21)).alloc (Obj.cells #[.int .i32 lo] 21)).drew).ownsRow _ _ _ _ _ _ from World.ownsRow.alloc (w := wd.alloc (Obj.cells #[.int .i32 hi] 21)) (World.ownsRow.alloc (w := wd) HL1.out (Obj.cells #[.int .i32 hi] 21)) (Obj.cells #[.int .i32 lo] 21)) hg1 (fun e => by have := (HL1.out.lt _ e).2; omega) HYX.out)
               clear hown1 hgrow1 hat1 hbW hg1 hpb1)
            | (refine step_append_lies _ rfl _ _ 74 rfl (pb + 1) 21 i1 (.int .i32 0) 1 4 Tryz.underlying74 hi1 hy0 hy1 hy2 rfl (by decide) _ _ _ rfl (HH1.out.alloc _) ⟨w1.heap.size, 0, none⟩ 1 1 [.int .i32 hi] rfl rfl (zbB Array.getElem?_push_size) (by intro u hu; simp at hu; subst hu; rfl) (by decide) (by unfold maxLen; omega) (by omega) (by (try simp); omega) _ rfl ?_
               intro g2 d2 w2 hown2 hgrow2 hat2 hlt2
               have hg2 : (w1.alloc (Obj.cells #[.int .i32 hi] 21)).grownBy w2 (Value.slice oh n ch).ownBlock := hgrow2
               have hpb2 : w2.heap[pb]? = some (.cells #[.int .i64 3, .int .i32 0, .slice ol n cl, .slice oh n ch, .bool NT, .int .i64 0, .int .i64 0, .int .i64 0, .bool false] 213 (0, 0)) := by
                obtain ⟨Wb, q1, q2, -⟩ := HFA.out
                have hbW : Below w1.heap.size w1 (w1.alloc (Obj.cells #[.int .i32 hi] 21)) := ((Below.refl _ _).alloc (Nat.le_refl _) _)
                exact (zae HH1.out hbW hg2 (by omega) (Nat.le_refl _)).trans ((zae HL1.out q1 q2 hpbl (Nat.le_refl _)).trans HPB.out)
               obtain ⟨-, -, m2, m3, -⟩ := zaq hpb2
               have fz2 := zah (i := 2) hpb2
               have fz3 := zah (i := 3) hpb2
               have HFB := zh (show ∃ Wb2, Below w1.heap.size w1 Wb2 /\ Wb2.grownBy w2 (Value.slice oh n ch).ownBlock /\ w2.ownsRow (pb + 1) 21 1 (.slice (some ⟨g2, 0, none⟩) (n + 1) d2) (n + 1) (ys ++ [.int .i32 hi]) /\ ((Value.slice oh n ch).ownBlock = some g2 \/ g2 = Wb2.heap.size) from ⟨w1.alloc (Obj.cells #[.int .i32 hi] 21), ((Below.refl _ _).alloc (Nat.le_refl _) _), hg2, hown2, hat2⟩)
               clear hown2 hgrow2 hat2 hg2 hpb2)
            | (refine step_append_lies _ rfl _ _ 74 rfl (pb + 1) 21 i1 (.int .i32 0) 1 4 Tryz.underlying74 hi1 hy0 hy1 hy2 rfl (by decide) _ _ _ rfl HH1.out ⟨wd.heap.size + 1, 0, none⟩ 1 1 [.int .i32 hi] rfl rfl HCW.out (by intro u hu; simp at hu; subst hu; rfl) (by decide) (by unfold maxLen; omega) (by omega) (by (try simp); omega) _ rfl ?_
               intro g2 d2 w2 hown2 hgrow2 hat2 hlt2
               have hg2 : (w1).grownBy w2 (Value.slice oh n ch).ownBlock := hgrow2
               have hpb2 : w2.heap[pb]? = some (.cells #[.int .i64 3, .int .i32 0, .slice ol n cl, .slice oh n ch, .bool NT, .int .i64 0, .int .i64 0, .int .i64 0, .bool false] 213 (0, 0)) := by
                obtain ⟨Wb, q1, q2, -⟩ := HFA.out
                have hbW : Below w1.heap.size w1 (w1) := (Below.refl _ _)
                exact (zae HH1.out hbW hg2 (by omega) (Nat.le_refl _)).trans ((zae HL1.out q1 q2 hpbl (Nat.le_refl _)).trans HPB.out)
               obtain ⟨-, -, m2, m3, -⟩ := zaq hpb2
               have fz2 := zah (i := 2) hpb2
               have fz3 := zah (i := 3) hpb2
               have HFB := zh (show ∃ Wb2, Below w1.heap.size w1 Wb2 /\ Wb2.grownBy w2 (Value.slice oh n ch).ownBlock /\ w2.ownsRow (pb + 1) 21 1 (.slice (some ⟨g2, 0, none⟩) (n + 1) d2) (n + 1) (ys ++ [.int .i32 hi]) /\ ((Value.slice oh n ch).ownBlock = some g2 \/ g2 = Wb2.heap.size) from ⟨w1, (Below.refl _ _), hg2, hown2, hat2⟩)
               clear hown2 hgrow2 hat2 hg2 hpb2)
            | (refine step_append_lies _ rfl _ _ 74 rfl (pb + 1) 21 i1 (.int .i32 0) 1 4 Tryz.underlying74 hi1 hy0 hy1 hy2 rfl (by decide) _ _ _ rfl HH1.out ⟨wd.heap.size, 0, none⟩ 1 1 [.int .i32 hi] rfl rfl HCW.out (by intro u hu; simp at hu; subst hu; rfl) (by decide) (by unfold maxLen; omega) (by omega) (by (try simp); omega) _ rfl ?_
               intro g2 d2 w2 hown2 hgrow2 hat2 hlt2
               have hg2 : (w1).grownBy w2 (Value.slice oh n ch).ownBlock := hgrow2
               have hpb2 : w2.heap[pb]? = some (.cells #[.int .i64 3, .int .i32 0, .slice ol n cl, .slice oh n ch, .bool NT, .int .i64 0, .int .i64 0, .int .i64 0, .bool false] 213 (0, 0)) := by
                obtain ⟨Wb, q1, q2, -⟩ := HFA.out
                have hbW : Below w1.heap.size w1 (w1) := (Below.refl _ _)
                exact (zae HH1.out hbW hg2 (by omega) (Nat.le_refl _)).trans ((zae HL1.out q1 q2 hpbl (Nat.le_refl _)).trans HPB.out)
               obtain ⟨-, -, m2, m3, -⟩ := zaq hpb2
               have fz2 := zah (i := 2) hpb2
               have fz3 := zah (i := 3) hpb2
               have HFB := zh (show ∃ Wb2, Below w1.heap.size w1 Wb2 /\ Wb2.grownBy w2 (Value.slice oh n ch).ownBlock /\ w2.ownsRow (pb + 1) 21 1 (.slice (some ⟨g2, 0, none⟩) (n + 1) d2) (n + 1) (ys ++ [.int .i32 hi]) /\ ((Value.slice oh n ch).ownBlock = some g2 \/ g2 = Wb2.heap.size) from ⟨w1, (Below.refl _ _), hg2, hown2, hat2⟩)
               clear hown2 hgrow2 hat2 hg2 hpb2))
           all_goals
            as_aux_lemma =>
            go_wp2_with fail
            go_roundg g
            case measure => omega
            case rel =>
             obtain ⟨Wb, q1, q2, q3, q4, q5⟩ := HFA.out
             obtain ⟨Wb2, q6, q7, q8, q9⟩ := HFB.out
             exact ⟨a3, _, n + 1, HBX.out.two HPB.out HL1.out HL2.out HNE.out q1 q2 q3 q4 q5 q6 q7 q8 q9, by omega, by omega, by omega, HNX2.out⟩
end Go.Proofs.YtbcemjhaecelnaaGreatDoor.Dpt
end
