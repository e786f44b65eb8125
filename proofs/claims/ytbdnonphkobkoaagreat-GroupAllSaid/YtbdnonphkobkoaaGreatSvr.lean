/- slices' stable sort at leporello/api.Row: merging in place, whole. -/
import Derived.Test.YtbdnonphkobkoaaGreatSur
namespace Go.Proofs.YtbdnonphkobkoaaGreat.Stb
open Go.RowKit Go.Lib Go.Sort Go.Shelf

section
variable {α : Type} [Inhabited α] {enc : α → List Value} {w0 : World} {blk off : Nat} {d0 : Array α}

set_option maxHeartbeats 8000000 in
set_option maxRecDepth 1000000 in
theorem symMerge_r (R : RowK enc 2 w0 blk off d0) (E : ∀ x, ∃ o n c v, enc x = [.slice o n c, .int .i64 v]) (cf : α → α → Int) (hS : SWO (ltOf cf)) (g : Nat) (eg : ∀ args w, (callFunc g args).run Tryz.prog w = .ok (.enter g args) w) (cap N : Nat) (hC : CmpLays Tryz.prog g #[] enc 2 cf blk off N w0) (hd : d0.size = N) (hN : N < 4611686018427387904) :
    ∀ (sz a m b : Nat) (P U V S : List α) (W : World), U.length + V.length ≤ sz → U ≠ [] → V ≠ [] → Srt (ltOf cf) U → Srt (ltOf cf) V → a = P.length → m = a + U.length → b = m + V.length → (P ++ (U ++ (V ++ S))).length = N →
    SWK enc 2 w0 blk off (P ++ (U ++ (V ++ S))).toArray W →
    Calls Tryz.prog 209 #[.slice (some ⟨blk, off, none⟩) N cap, .int .i64 a, .int .i64 m, .int .i64 b, .func (.func g) #[] #[]] W fun e w' => e = .returned (.tuple #[]) ∧ SWK enc 2 w0 blk off (P ++ (mg (ltOf cf) U V ++ S)).toArray w' := by
  intro sz
  induction sz with
  | zero =>
    intro a m b P U V S W hsz hU hV _ _ _ _ _ _ _
    exfalso
    have := List.length_pos_iff.2 hU
    omega
  | succ sz ih =>
    intro a m b P U V S W hsz hU hV hUs hVs ha hm hb hs h
    have hU0 := List.length_pos_iff.2 hU
    have hV0 := List.length_pos_iff.2 hV
    by_cases hu1 : U.length = 1
    · obtain ⟨x, rfl⟩ : ∃ x, U = [x] := List.length_eq_one_iff.1 hu1
      exact symLeft_r R E cf hS g eg cap a m b N hC P V S x W hVs ha (by rw [hm, hu1]) hb (by omega) hs hd hN h
    by_cases hv1 : V.length = 1
    · obtain ⟨x, rfl⟩ : ∃ x, V = [x] := List.length_eq_one_iff.1 hv1
      exact symRight_r R E cf hS g eg cap a m b N hC P U S x W hUs ha hm (by omega) (by rw [hb, hv1]) hs hd hN h
    have HI := Lib.hid (fun (a m b : Nat) (P U V S : List α) (W : World) (q : U.length + V.length ≤ sz) => ih a m b P U V S W q)
    clear ih
    have HT := Lib.hid (fun (a m b : Nat) (P U V S : List α) (W : World) h1 h2 h3 h4 h5 h6 h7 => rotate_r R E g cap a m b N P U V S W h1 h2 h3 h4 h5 h6 hd hN h7)
    have HS0 := Lib.hid h
    obtain ⟨l, hl⟩ : ∃ l, P ++ (U ++ (V ++ S)) = l := ⟨_, rfl⟩
    have HLl := Lib.hid hl
    have hbN : b ≤ N := by simp only [List.length_append] at hs; omega
    have HP := Lib.hid ha
    have HM0 := Lib.hid hm
    have HB := Lib.hid hb
    have HR := Lib.hid R
    have HE := Lib.hid E
    have HC := Lib.hid hC
    have HUs := Lib.hid hUs
    have HVs := Lib.hid hVs
    have HD := Lib.hid (show l.length = d0.size from by rw [← hl, hs, hd])
    have HN := Lib.hid (show l.length = N from by rw [← hl, hs])
    have HSW := Lib.hid hS
    have HZ := Lib.hid hsz
    rw [hl] at HS0
    have i0 : ((m : Int) - (a : Int) == 1) = false := beq_eq_false_iff_ne.2 (by omega)
    have i0' : ¬ (m : Int) - (a : Int) = 1 := by omega
    have i1 : ((b : Int) - (m : Int) == 1) = false := beq_eq_false_iff_ne.2 (by omega)
    have i1' : ¬ (b : Int) - (m : Int) = 1 := by omega
    have g1 : a + 2 ≤ m := by omega
    have g2 : m + 2 ≤ b := by omega
    clear h R E hC hUs hVs ha hm hb hs hl hS hU hV hu1 hv1 hsz hU0 hV0
    obtain ⟨mid, hmid⟩ : ∃ mid, (a + b) / 2 = mid := ⟨_, rfl⟩
    obtain ⟨n, hn⟩ : ∃ n, mid + m = n := ⟨_, rfl⟩
    have d1 : a < mid := by omega
    have d2 : mid < b := by omega
    have zm : ((a : Int) + (b : Int)) / 2 = (mid : Int) := by omega
    have zn : (mid : Int) + (m : Int) = (n : Int) := by omega
    have rn : IntKind.i64.wrap ((mid : Int) + (m : Int)) = (n : Int) := by rw [IntKind.wrap_i64]; omega
    have nN : n < 9223372036854775807 := by omega
    have HMID := Lib.hid hmid
    have HNN := Lib.hid hn
    have HAR := Lib.hid (show a + 2 ≤ m ∧ m + 2 ≤ b ∧ b ≤ N ∧ a < mid ∧ mid < b ∧ mid + m ≤ n ∧ n ≤ mid + m ∧ a + b ≤ 2 * mid + 1 ∧ 2 * mid ≤ a + b from ⟨by omega, by omega, by omega, by omega, by omega, by omega, by omega, by omega, by omega⟩)
    have aN : a ≤ N := by omega
    have mN : m ≤ N := by omega
    clear hmid hn g1 g2 d1 d2
    go_enter Tryz.func209, Tryz.ntmps209
    go_upto_if 140 with fail
    go_cut [20, 21] from 138 to 146 (fun s20 s21 wx => ∃ s0 r0 : Nat, s20 = .int .i64 s0 ∧ s21 = .int .i64 r0 ∧ Hid (a ≤ s0 ∧ s0 ≤ r0 ∧ r0 ≤ m ∧ r0 ≤ mid ∧ n ≤ s0 + b) ∧ Hid ((mid < m ∧ s0 = n - b ∧ r0 = mid) ∨ (m ≤ mid ∧ s0 = a ∧ r0 = m)) ∧ wx = W)
    case first =>
      by_cases hmm : mid < m
      · have hz : (m : Int) > (mid : Int) := by omega
        obtain ⟨s, hs⟩ : ∃ s, n - b = s := ⟨_, rfl⟩
        have har := HAR.out
        have zs : (n : Int) - (b : Int) = (s : Int) := by omega
        have rs : IntKind.i64.wrap ((n : Int) - (b : Int)) = (s : Int) := by rw [IntKind.wrap_i64]; omega
        have sN : s < 9223372036854775807 := by omega
        have HQ := Lib.hid (show a ≤ s ∧ s ≤ mid ∧ mid < m ∧ n ≤ s + b from ⟨by omega, by omega, by omega, by omega⟩)
        have HSs := Lib.hid hs
        clear hs har hmm
        go_wp2_with fail
        go_meet
        exact ⟨s, mid, rfl, rfl, (show Hid _ from ⟨HQ.out.1, HQ.out.2.1, Nat.le_of_lt HQ.out.2.2.1, Nat.le_refl _, HQ.out.2.2.2⟩), (show Hid _ from .inl ⟨HQ.out.2.2.1, HSs.out.symm, rfl⟩), rfl⟩
      · have hz : ¬ (m : Int) > (mid : Int) := by omega
        have har := HAR.out
        have HQ := Lib.hid (show a ≤ m ∧ m ≤ mid ∧ n ≤ a + b from ⟨by omega, by omega, by omega⟩)
        clear har hmm
        go_wp2_with fail
        go_meet
        exact ⟨a, m, rfl, rfl, (show Hid _ from ⟨Nat.le_refl _, HQ.out.1, Nat.le_refl _, HQ.out.2.1, HQ.out.2.2⟩), (show Hid _ from .inr ⟨HQ.out.2.1, rfl, rfl⟩), rfl⟩
    case rest =>
      obtain ⟨s0, r0, rfl, rfl, HKK, H0, rfl⟩ := hcut
      clear i0 i0' i1 i1' zm zn rn
      have har := HAR.out
      have hkk := HKK.out
      have zp : (n : Int) - 1 = ((n - 1 : Nat) : Int) := by omega
      obtain ⟨p, hp⟩ : ∃ p, n - 1 = p := ⟨_, rfl⟩
      rw [hp] at zp
      have rp : IntKind.i64.wrap ((n : Int) - 1) = (p : Int) := by rw [IntKind.wrap_i64]; omega
      have pN : p < 9223372036854775807 := by omega
      have HPN := Lib.hid (show p + 1 ≤ n ∧ n ≤ p + 1 from ⟨by omega, by omega⟩)
      have r0N : r0 ≤ N := by omega
      have HS0R := Lib.hid (show s0 ≤ r0 from hkk.2.1)
      clear hp har hkk
      go_wp2
      go_loopg [20, 21] (r0 - s0) (fun kx s10 s11 wr => ∃ i j : Nat, s10 = .int .i64 i ∧ s11 = .int .i64 j ∧ s0 ≤ i ∧ i ≤ j ∧ j ≤ r0 ∧ j - i ≤ kx ∧ Hid ((i = s0 ∨ ltOf cf l.toArray[n - i]! l.toArray[i - 1]! = false) ∧ (j = r0 ∨ ltOf cf l.toArray[n - 1 - j]! l.toArray[j]! = true)) ∧ Hid (SWK enc 2 w0 blk off l.toArray wr))
      case atStart => exact ⟨s0, r0, rfl, rfl, Nat.le_refl _, HS0R.out, Nat.le_refl _, Nat.le_refl _, ⟨.inl rfl, .inl rfl⟩, HS0.out⟩
      case round =>
        clear HS0 zp rp
        obtain ⟨i, j, rfl, rfl, h1, h2, h3, hkx, HF, HS⟩ := hrel
        have har := HAR.out
        have hkk := HKK.out
        have hpn := HPN.out
        by_cases hij : i < j
        · have hijz : (i : Int) < (j : Int) := by omega
          obtain ⟨q, hq⟩ : ∃ q, (i + j) / 2 = q := ⟨_, rfl⟩
          have q1 : i ≤ q := by omega
          have q2 : q < j := by omega
          obtain ⟨t, ht⟩ : ∃ t, t + q = p := ⟨p - q, by omega⟩
          have zt : (p : Int) - (q : Int) = (t : Int) := by omega
          have rt : IntKind.i64.wrap ((p : Int) - (q : Int)) = (t : Int) := by rw [IntKind.wrap_i64]; omega
          have tb : t < b := by omega
          have tN : t < 9223372036854775807 := by omega
          have qz : (q : Int) < (N : Int) := by omega
          have qp : (0 : Int) ≤ (q : Int) := by omega
          have qn : ((q : Int)).toNat = q := by omega
          have tz : (t : Int) < (N : Int) := by omega
          have tp : (0 : Int) ≤ (t : Int) := by omega
          have tn : ((t : Int)).toNat = t := by omega
          obtain ⟨z, hz⟩ : ∃ z, l.toArray[q]! = z := ⟨_, rfl⟩
          obtain ⟨x, hx⟩ : ∃ x, l.toArray[t]! = x := ⟨_, rfl⟩
          obtain ⟨oz, nz, cz, vz, ez⟩ := HE.out z
          obtain ⟨ox, nx, cx, vx, ex⟩ := HE.out x
          obtain ⟨a0, a1, b0, b1, hc⟩ := cmp2 HR.out HC.out HS.out HD.out HN.out hx hz (by rw [HN.out]; omega) (by rw [HN.out]; omega) ex ez
          have HZZ := Lib.hid (show l.toArray[q]! = z ∧ l.toArray[n - 1 - q]! = x from ⟨hz, by rw [show n - 1 - q = t by omega]; exact hx⟩)
          have HZ2 := Lib.hid (show l.toArray[n - (q + 1)]! = x from by rw [show n - (q + 1) = t by omega]; exact hx)
          have hqz : ((i : Int) + (j : Int)) / 2 = (q : Int) := by omega
          have jN : j ≤ N := by omega
          have HQQ := Lib.hid (show i ≤ q ∧ q < j ∧ s0 ≤ i ∧ j ≤ r0 ∧ j - i ≤ j from ⟨q1, q2, h1, h3, by omega⟩)
          clear ez hz ex hx ht hq har hkk hpn tb zt tN
          obtain ⟨r, hr⟩ : ∃ r, cf x z = r := ⟨_, rfl⟩
          rw [hr] at hc
          have HRr := Lib.hid hr
          clear hr
          have mixed : Tryz.prog.follows .mixedOrders = true := by kernel_rfl
          by_cases hv : r < 0
          · have hv2 : decide (r < 0) = true := decide_eq_true hv
            go_wp2_with fail
            go_quiet_grown (first | (go_at_fn g; refine Calls.grown_of (hc _ _)))
            have HS2 := Lib.hid (HS.out.grown nq osq)
            clear a0 a1 b0 b1 hc HS
            generalize grow (wr.drewN nq) osq = w2 at HS2 ⊢
            clear nq osq
            go_wp2
            go_roundg (q - i)
            case measure => omega
            case rel =>
              refine ⟨i, q, rfl, by first | rfl | go_num, h1, q1, by omega, Nat.le_refl _, (show Hid _ from ⟨HF.out.1, .inr ?_⟩), HS2⟩
              rw [HZZ.out.1, HZZ.out.2]
              exact decide_eq_true (by rw [HRr.out]; exact hv)
          · have hv2 : decide (r < 0) = false := decide_eq_false hv
            go_wp2_with fail
            go_quiet_grown (first | (go_at_fn g; refine Calls.grown_of (hc _ _)))
            have HS2 := Lib.hid (HS.out.grown nq osq)
            clear a0 a1 b0 b1 hc HS
            generalize grow (wr.drewN nq) osq = w2 at HS2 ⊢
            clear nq osq
            go_wp2
            go_roundg (j - (q + 1))
            case measure => omega
            case rel =>
              refine ⟨q + 1, j, by first | rfl | go_num, rfl, by omega, by omega, h3, Nat.le_refl _, (show Hid _ from ⟨.inr ?_, HF.out.2⟩), HS2⟩
              rw [Nat.add_sub_cancel, HZ2.out, HZZ.out.1]
              exact decide_eq_false (by rw [HRr.out]; omega)
        · obtain rfl : i = j := by omega
          obtain ⟨L1, L2, R1, R2, hL, hR, c1, c2, o1, o2⟩ := sym_parts HSW.out (a := a) (m := m) (b := b) (mid := mid) (n := n) (start := i) (s0 := s0) (r0 := r0) (l := l) HLl.out.symm HUs.out HVs.out HP.out HM0.out HB.out HMID.out.symm HNN.out.symm H0.out h1 h3 HF.out.1 HF.out.2
          obtain ⟨e, he⟩ : ∃ e, e + i = n := ⟨n - i, by omega⟩
          have ze : (n : Int) - (i : Int) = (e : Int) := by omega
          have re : IntKind.i64.wrap ((n : Int) - (i : Int)) = (e : Int) := by rw [IntKind.wrap_i64]; omega
          have HG := Lib.hid (show mg (ltOf cf) U V = mg (ltOf cf) L1 R1 ++ mg (ltOf cf) L2 R2 from by rw [hL, hR]; exact mg_split _ L1 R1 L2 R2 o1 o2)
          have HLN := Lib.hid (show a + L1.length = i ∧ i + L2.length = m ∧ m + R1.length = e ∧ e + R2.length = b ∧ U = L1 ++ L2 ∧ V = R1 ++ R2 from by
            have h7 := HM0.out; have h8 := HB.out
            rw [hL, List.length_append] at h7
            rw [hR, List.length_append] at h8
            exact ⟨c1, by omega, by omega, by omega, hL, hR⟩)
          have HMD := Lib.hid (show i + R1.length = mid ∧ a < mid ∧ mid < b ∧ a + 2 ≤ m ∧ m + 2 ≤ b from ⟨by have h7 := HLN.out.2.2.1; have h8 := HNN.out; omega, har.2.2.2.1, har.2.2.2.2.1, har.1, har.2.1⟩)
          have HS1 := Lib.hid (show SWK enc 2 w0 blk off (P ++ (L1 ++ (L2 ++ (R1 ++ (R2 ++ S))))).toArray wr from by
            have := HS.out; rw [← HLl.out, hL, hR] at this; simpa using this)
          have HUV := Lib.hid (show Srt (ltOf cf) L1 ∧ Srt (ltOf cf) L2 ∧ Srt (ltOf cf) R1 ∧ Srt (ltOf cf) R2 from by
            have h7 := HUs.out; have h8 := HVs.out
            rw [hL] at h7; rw [hR] at h8
            exact ⟨(List.pairwise_append.1 h7).1, (List.pairwise_append.1 h7).2.1, (List.pairwise_append.1 h8).1, (List.pairwise_append.1 h8).2.1⟩)
          have HNL := Lib.hid (show (P ++ (L1 ++ (L2 ++ (R1 ++ (R2 ++ S))))).length = N from by
            rw [← HN.out, ← HLl.out, hL, hR]; simp)
          have u1 : a ≤ i := by omega
          have u2 : i ≤ m := by omega
          have u3 : i ≤ mid := by omega
          have u4 : m ≤ e := by omega
          have u5 : e ≤ b := by omega
          have u6 : mid ≤ e := by omega
          have HUU := Lib.hid (show a ≤ i ∧ i ≤ m ∧ i ≤ mid ∧ m ≤ e ∧ e ≤ b ∧ mid ≤ e ∧ a + 2 ≤ m ∧ m + 2 ≤ b ∧ mid < b ∧ a < mid from ⟨u1, u2, u3, u4, u5, u6, har.1, har.2.1, har.2.2.2.2.1, har.2.2.2.1⟩)
          have iN : i ≤ N := by omega
          have eN : e ≤ N := by omega
          have midN : mid ≤ N := by omega
          clear HF HS hL hR c1 c2 o1 o2 he hij hkx H0 har hkk hpn u1 u2 u3 u4 u5 u6 h1 h2 h3 r0N HKK HPN HS0R
          go_upto_region 39 with fail
          go_cut [185] from 178 to 185 (fun st wx => st = Value.bool (decide (i < m ∧ m < e)) ∧ wx = wr)
          case first =>
            by_cases y1 : i < m
            · have y1z : (i : Int) < (m : Int) := by omega
              by_cases y2 : m < e
              · have y2z : (m : Int) < (e : Int) := by omega
                have YT := Lib.hid (show Value.bool true = Value.bool (decide (i < m ∧ m < e)) from by rw [decide_eq_true (And.intro y1 y2)])
                go_wp2_with fail
                go_meet
                exact ⟨YT.out, rfl⟩
              · have y2z : ¬ (m : Int) < (e : Int) := by omega
                have YT := Lib.hid (show Value.bool false = Value.bool (decide (i < m ∧ m < e)) from by rw [decide_eq_false (fun h => y2 h.2)])
                go_wp2_with fail
                go_meet
                exact ⟨YT.out, rfl⟩
            · have y1z : ¬ (i : Int) < (m : Int) := by omega
              have YT := Lib.hid (show Value.bool false = Value.bool (decide (i < m ∧ m < e)) from by rw [decide_eq_false (fun h => y1 h.1)])
              go_wp2_with fail
              go_meet
              exact ⟨YT.out, rfl⟩
          obtain ⟨rfl, rfl⟩ := hcut
          obtain ⟨T1, hT1⟩ : ∃ T, decide (i < m ∧ m < e) = T := ⟨_, rfl⟩
          rw [hT1]
          have HT1 := Lib.hid hT1
          clear hT1
          go_upto_if 185 with fail
          go_cut [24] from 186 to 191 (fun s24 wx => s24 = Value.int .i64 (e : Int) ∧ Hid (SWK enc 2 w0 blk off (List.toArray (P ++ (L1 ++ (R1 ++ (L2 ++ (R2 ++ S)))) : List α)) wx))
          case first =>
            by_cases yT : T1 = true
            · subst yT
              obtain ⟨y1, y2⟩ := of_decide_eq_true HT1.out
              have hc := HT.out i m e (P ++ L1) L2 R1 (R2 ++ S) _ (by intro h; subst h; have := HLN.out; simp at this; omega) (by intro h; subst h; have := HLN.out; simp at this; omega) (by have := HLN.out; have := HP.out; rw [List.length_append]; omega) (by have := HLN.out; omega) (by have := HLN.out; omega) (by rw [← HNL.out]; simp) (by simpa using HS1.out)
              have HC1 := Lib.hid hc
              clear hc
              go_wp2_with fail
              refine HC1.out.mono ?_
              rintro e w2 ⟨rfl, hw2⟩
              have HW2 := Lib.hid hw2
              clear hw2 HC1
              go_wp2
              go_meet
              exact ⟨rfl, by have := HW2.out; show SWK _ _ _ _ _ _ _; simpa using this⟩
            · have yF : T1 = false := by simpa using yT
              subst yF
              have HR1 := Lib.hid (show L2 = [] ∨ R1 = [] from by
                have h1 := of_decide_eq_false HT1.out; have h2 := HLN.out
                by_cases h3 : i < m
                · exact .inr (List.length_eq_zero_iff.1 (by omega))
                · exact .inl (List.length_eq_zero_iff.1 (by omega)))
              clear yT
              go_wp2_with fail
              go_meet
              exact ⟨rfl, by have := HS1.out; rcases HR1.out with h | h <;> (rw [h] at this ⊢; exact this)⟩
          case rest =>
            obtain ⟨rfl, hS2⟩ := hcut
            rename World => wy
            have HS2 := Lib.hid hS2.out
            clear HS1 HT hS2 HT1
            go_upto_region 41 with fail
            go_cut [199] from 192 to 199 (fun st wx => st = Value.bool (decide (a < i ∧ i < mid)) ∧ wx = wy)
            case first =>
              by_cases y1 : a < i
              · have y1z : (a : Int) < (i : Int) := by omega
                by_cases y2 : i < mid
                · have y2z : (i : Int) < (mid : Int) := by omega
                  have YT := Lib.hid (show Value.bool true = Value.bool (decide (a < i ∧ i < mid)) from by rw [decide_eq_true (And.intro y1 y2)])
                  go_wp2_with fail
                  go_meet
                  exact ⟨YT.out, rfl⟩
                · have y2z : ¬ (i : Int) < (mid : Int) := by omega
                  have YT := Lib.hid (show Value.bool false = Value.bool (decide (a < i ∧ i < mid)) from by rw [decide_eq_false (fun h => y2 h.2)])
                  go_wp2_with fail
                  go_meet
                  exact ⟨YT.out, rfl⟩
              · have y1z : ¬ (a : Int) < (i : Int) := by omega
                have YT := Lib.hid (show Value.bool false = Value.bool (decide (a < i ∧ i < mid)) from by rw [decide_eq_false (fun h => y1 h.1)])
                go_wp2_with fail
                go_meet
                exact ⟨YT.out, rfl⟩
            obtain ⟨rfl, rfl⟩ := hcut
            obtain ⟨T2, hT2⟩ : ∃ T, decide (a < i ∧ i < mid) = T := ⟨_, rfl⟩
            rw [hT2]
            have HT2 := Lib.hid hT2
            clear hT2
            go_upto_if 199 with fail
            go_cut [24] from 200 to 205 (fun s24 wx => s24 = Value.int .i64 (e : Int) ∧ Hid (SWK enc 2 w0 blk off (List.toArray (P ++ (mg (ltOf cf) L1 R1 ++ (L2 ++ (R2 ++ S))) : List α)) wx))
            case first =>
              by_cases yT : T2 = true
              · subst yT
                obtain ⟨y1, y2⟩ := of_decide_eq_true HT2.out
                have hc := HI.out a i mid P L1 R1 (L2 ++ (R2 ++ S)) _ (by have h7 := HLN.out; have h8 := HZ.out; have h9 := HMD.out; rw [h7.2.2.2.2.1, h7.2.2.2.2.2] at h8; simp only [List.length_append] at h8; omega) (by intro h; have h7 := HLN.out.1; have h8 := congrArg List.length h; rw [List.length_nil] at h8; omega) (by intro h; have h7 := HMD.out.1; have h8 := congrArg List.length h; rw [List.length_nil] at h8; omega) HUV.out.1 HUV.out.2.2.1 HP.out (by have := HLN.out; omega) (by have := HMD.out; omega) (by rw [← HNL.out]; simp only [List.length_append]; omega) HS2.out
                have HC1 := Lib.hid hc
                clear hc
                go_wp2_with fail
                refine HC1.out.mono ?_
                rintro e w2 ⟨rfl, hw2⟩
                have HW2 := Lib.hid hw2
                clear hw2 HC1
                go_wp2
                go_meet
                exact ⟨rfl, HW2⟩
              · have yF : T2 = false := by simpa using yT
                subst yF
                have HR1 := Lib.hid (show L1 = [] ∨ R1 = [] from by
                  have h1 := of_decide_eq_false HT2.out; have h2 := HLN.out; have h9 := HMD.out
                  by_cases h3 : a < i
                  · exact .inr (List.length_eq_zero_iff.1 (by omega))
                  · exact .inl (List.length_eq_zero_iff.1 (by omega)))
                clear yT
                go_wp2_with fail
                go_meet
                exact ⟨rfl, by have := HS2.out; rcases HR1.out with h | h <;> (rw [h] at this ⊢; first | (rw [mg_nil_left]; exact this) | (rw [mg_nil_right]; exact this))⟩
            case rest =>
              obtain ⟨rfl, hS3⟩ := hcut
              rename World => wz
              have HS3 := Lib.hid hS3.out
              clear HS2 hS3 HT2
              go_upto_region 43 with fail
              go_cut [213] from 206 to 213 (fun st wx => st = Value.bool (decide (mid < e ∧ e < b)) ∧ wx = wz)
              case first =>
                by_cases y1 : mid < e
                · have y1z : (mid : Int) < (e : Int) := by omega
                  by_cases y2 : e < b
                  · have y2z : (e : Int) < (b : Int) := by omega
                    have YT := Lib.hid (show Value.bool true = Value.bool (decide (mid < e ∧ e < b)) from by rw [decide_eq_true (And.intro y1 y2)])
                    go_wp2_with fail
                    go_meet
                    exact ⟨YT.out, rfl⟩
                  · have y2z : ¬ (e : Int) < (b : Int) := by omega
                    have YT := Lib.hid (show Value.bool false = Value.bool (decide (mid < e ∧ e < b)) from by rw [decide_eq_false (fun h => y2 h.2)])
                    go_wp2_with fail
                    go_meet
                    exact ⟨YT.out, rfl⟩
                · have y1z : ¬ (mid : Int) < (e : Int) := by omega
                  have YT := Lib.hid (show Value.bool false = Value.bool (decide (mid < e ∧ e < b)) from by rw [decide_eq_false (fun h => y1 h.1)])
                  go_wp2_with fail
                  go_meet
                  exact ⟨YT.out, rfl⟩
              obtain ⟨rfl, rfl⟩ := hcut
              obtain ⟨T3, hT3⟩ : ∃ T, decide (mid < e ∧ e < b) = T := ⟨_, rfl⟩
              rw [hT3]
              have HT3 := Lib.hid hT3
              clear hT3
              by_cases yT : T3 = true
              · subst yT
                obtain ⟨y1, y2⟩ := of_decide_eq_true HT3.out
                have hc := HI.out mid e b (P ++ mg (ltOf cf) L1 R1) L2 R2 S _ (by have h7 := HLN.out; have h8 := HZ.out; have h9 := HMD.out; rw [h7.2.2.2.2.1, h7.2.2.2.2.2] at h8; simp only [List.length_append] at h8; omega) (by intro h; have h7 := HLN.out; have h9 := HMD.out.1; have h8 := congrArg List.length h; rw [List.length_nil] at h8; omega) (by intro h; have h7 := HLN.out; have h8 := congrArg List.length h; rw [List.length_nil] at h8; omega) HUV.out.2.1 HUV.out.2.2.2 (by have := HLN.out; have := HP.out; have := HMD.out; rw [List.length_append, mg_len]; omega) (by have := HLN.out; have := HMD.out; omega) (by have := HLN.out; omega) (by rw [← HNL.out]; simp only [List.length_append, mg_len]; omega) (by simpa using HS3.out)
                have HC1 := Lib.hid hc
                clear hc
                go_wp2_with fail
                refine HC1.out.mono ?_
                rintro e w2 ⟨rfl, hw2⟩
                have HW2 := Lib.hid hw2
                clear hw2 HC1
                go_wp2
                go_end0
                refine ⟨rfl, ?_⟩
                have := HW2.out
                rw [HG.out]; simpa using this
              · have yF : T3 = false := by simpa using yT
                subst yF
                have HR1 := Lib.hid (show L2 = [] ∨ R2 = [] from by
                  have h1 := of_decide_eq_false HT3.out; have h2 := HLN.out; have h9 := HMD.out
                  by_cases h3 : mid < e
                  · exact .inr (List.length_eq_zero_iff.1 (by omega))
                  · exact .inl (List.length_eq_zero_iff.1 (by omega)))
                clear yT
                go_wp2_with fail
                go_end0
                refine ⟨rfl, ?_⟩
                have := HS3.out
                rw [HG.out]
                rcases HR1.out with h | h
                · rw [h] at this ⊢; rw [mg_nil_left]; simpa using this
                · rw [h] at this ⊢; rw [mg_nil_right]; simpa using this
end
end Go.Proofs.YtbdnonphkobkoaaGreat.Stb
