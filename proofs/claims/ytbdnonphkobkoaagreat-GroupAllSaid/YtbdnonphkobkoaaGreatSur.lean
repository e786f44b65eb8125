/- slices' stable sort at leporello/api.Row: merging in place. -/
import Derived.Test.YtbdnonphkobkoaaGreatStr
import Derived.Deep.CutRange
import Derived.Shelf.SlSortCmp.QuietGrown
namespace Go.Proofs.YtbdnonphkobkoaaGreat.Stb
open Go.RowKit Go.Lib Go.Sort Go.Shelf

section
variable {α : Type} [Inhabited α] {enc : α → List Value} {w0 : World} {blk off : Nat} {d0 : Array α}

set_option maxHeartbeats 4000000 in
set_option maxRecDepth 1000000 in
/-- One on the left. -/
theorem symLeft_r (R : RowK enc 2 w0 blk off d0) (E : ∀ x, ∃ o n c v, enc x = [.slice o n c, .int .i64 v]) (cf : α → α → Int) (hS : SWO (ltOf cf)) (g : Nat) (eg : ∀ args w, (callFunc g args).run Tryz.prog w = .ok (.enter g args) w) (cap a m b N : Nat) (hC : CmpLays Tryz.prog g #[] enc 2 cf blk off N w0) (P V S : List α) (x : α) (W : World) (hV : Srt (ltOf cf) V) (ha : a = P.length) (hm : m = a + 1) (hb : b = m + V.length) (hmb : m < b) (hs : (P ++ ([x] ++ (V ++ S))).length = N) (hd : d0.size = N) (hN : N < 4611686018427387904)
    (h : SWK enc 2 w0 blk off (P ++ ([x] ++ (V ++ S))).toArray W) :
    Calls Tryz.prog 209 #[.slice (some ⟨blk, off, none⟩) N cap, .int .i64 a, .int .i64 m, .int .i64 b, .func (.func g) #[] #[]] W fun e w' => e = .returned (.tuple #[]) ∧ SWK enc 2 w0 blk off (P ++ (mg (ltOf cf) [x] V ++ S)).toArray w' := by
  have HS0 := Lib.hid h
  obtain ⟨l, hl⟩ : ∃ l, P ++ ([x] ++ (V ++ S)) = l := ⟨_, rfl⟩
  have HLl := Lib.hid hl
  have hbN : b ≤ N := by simp only [List.length_append, List.length_cons, List.length_nil] at hs; omega
  have HP := Lib.hid ha
  have HB := Lib.hid hb
  have HR := Lib.hid R
  have HE := Lib.hid E
  have HC := Lib.hid hC
  have HV := Lib.hid hV
  have HD := Lib.hid (show l.length = d0.size from by rw [← hl, hs, hd])
  have HN := Lib.hid (show l.length = N from by rw [← hl, hs])
  have HA := Lib.hid (show l.toArray[a]! = x from bang_mid' (P := P) (S := V ++ S) (by rw [← hl]; rfl) ha)
  have HSW := Lib.hid hS
  obtain ⟨ox, nx, cx, vx, ex⟩ := E x
  have HX := Lib.hid ex
  rw [hl] at HS0
  have i1 : ((m : Int) - (a : Int) == 1) = true := beq_iff_eq.2 (by omega)
  have i2 : (m : Int) - (a : Int) = 1 := by omega
  have hm1 : a + 1 ≤ m := by omega
  have hm2 : m ≤ a + 1 := by omega
  clear h R E hC hV ha hm hb hs hd hl ex hS
  go_enter Tryz.func209, Tryz.ntmps209
  go_wp2
  go_loopg [10, 11] (b - m) (fun kx s10 s11 wr => ∃ i j : Nat, s10 = .int .i64 i ∧ s11 = .int .i64 j ∧ m ≤ i ∧ i ≤ j ∧ j ≤ b ∧ j - i ≤ kx ∧ Hid ((i = m ∨ ltOf cf l.toArray[i - 1]! x = true) ∧ (j = b ∨ ltOf cf l.toArray[j]! x = false)) ∧ Hid (SWK enc 2 w0 blk off l.toArray wr))
  case atStart => exact ⟨m, b, rfl, rfl, Nat.le_refl _, by omega, Nat.le_refl _, Nat.le_refl _, ⟨.inl rfl, .inl rfl⟩, HS0.out⟩
  case round =>
    clear HS0
    obtain ⟨i, j, rfl, rfl, h1, h2, h3, hkx, HF, HS⟩ := hrel
    by_cases hij : i < j
    · have hijz : (i : Int) < (j : Int) := by omega
      obtain ⟨q, hq⟩ : ∃ q, (i + j) / 2 = q := ⟨_, rfl⟩
      have q1 : i ≤ q := by omega
      have q2 : q < j := by omega
      have qz : (q : Int) < (N : Int) := by omega
      have qp : (0 : Int) ≤ (q : Int) := by omega
      have qn : ((q : Int)).toNat = q := by omega
      have az : (a : Int) < (N : Int) := by omega
      have ap : (0 : Int) ≤ (a : Int) := by omega
      have an : ((a : Int)).toNat = a := by omega
      obtain ⟨z, hz⟩ : ∃ z, l.toArray[q]! = z := ⟨_, rfl⟩
      obtain ⟨oz, nz, cz, vz, ez⟩ := HE.out z
      have hc2 := cmp2 HR.out HC.out HS.out HD.out HN.out hz HA.out (by rw [HN.out]; omega) (by rw [HN.out]; omega) ez HX.out
      obtain ⟨a0, a1, b0, b1, hc⟩ := hc2
      have HZ := Lib.hid hz
      clear ez hz
      obtain ⟨r, hr⟩ : ∃ r, cf z x = r := ⟨_, rfl⟩
      rw [hr] at hc
      have HRr := Lib.hid hr
      clear hr
      have hqz : ((i : Int) + (j : Int)) / 2 = (q : Int) := by omega
      have mixed : Tryz.prog.follows .mixedOrders = true := by kernel_rfl
      by_cases hv : r < 0
      · go_wp2_with fail
        go_quiet_grown (first | (go_at_fn g; refine Calls.grown_of (hc _ _)))
        have HS2 := Lib.hid (HS.out.grown nq osq)
        clear a0 a1 b0 b1 hc HS
        generalize grow (wr.drewN nq) osq = w2 at HS2 ⊢
        clear nq osq
        go_wp2
        go_roundg (j - (q + 1))
        case measure => omega
        case rel =>
          refine ⟨q + 1, j, by first | rfl | go_num, rfl, by omega, by omega, h3, Nat.le_refl _, (show Hid _ from ⟨.inr ?_, HF.out.2⟩), HS2⟩
          rw [Nat.add_sub_cancel, HZ.out]
          exact decide_eq_true (by rw [HRr.out]; exact hv)
      · go_wp2_with fail
        go_quiet_grown (first | (go_at_fn g; refine Calls.grown_of (hc _ _)))
        have HS2 := Lib.hid (HS.out.grown nq osq)
        clear a0 a1 b0 b1 hc HS
        generalize grow (wr.drewN nq) osq = w2 at HS2 ⊢
        clear nq osq
        go_wp2
        go_roundg (q - i)
        case measure => omega
        case rel =>
          refine ⟨i, q, rfl, by first | rfl | go_num, h1, q1, by omega, Nat.le_refl _, (show Hid _ from ⟨HF.out.1, .inr ?_⟩), HS2⟩
          rw [HZ.out]
          exact decide_eq_false (by rw [HRr.out]; omega)
    · obtain rfl : i = j := by omega
      have hpt := one_parts HSW.out (P := P ++ [x]) (R := V) (S := S) (x := x) (m := m) (b := b) (i := i) (l := l) (by rw [← HLl.out]; simp) HV.out (by rw [List.length_append, ← HP.out, List.length_singleton]; omega) HB.out h1 h3 HF.out.1 HF.out.2
      obtain ⟨R1, R2, hR, hR1, g1, g2⟩ := hpt
      have HM := Lib.hid (show mg (ltOf cf) [x] V = R1 ++ x :: R2 by rw [hR]; exact mg_one_left _ x R1 R2 g1 g2)
      have HRR := Lib.hid hR
      obtain ⟨ip, hip⟩ : ∃ ip, a + R1.length = ip := ⟨_, rfl⟩
      have hiip : i = ip + 1 := by omega
      subst hiip
      have HR1 := Lib.hid hip
      have hai : a ≤ ip := by omega
      have HSS := Lib.hid (show SWK enc 2 w0 blk off (P ++ ([] ++ (x :: (R1 ++ (R2 ++ S))))).toArray wr from by
        have := HS.out; rw [← HLl.out, hR] at this; simpa using this)
      clear HF HS hR hR1 g1 g2 hkx hip hij
      go_wp2
      go_loopg [13] (ip - a) (fun kx s13 wr => ∃ (k : Nat) (A B : List α), s13 = .int .i64 k ∧ a ≤ k ∧ k ≤ ip ∧ ip - k ≤ kx ∧ Hid (R1 = A ++ B ∧ a + A.length = k) ∧ Hid (SWK enc 2 w0 blk off (P ++ (A ++ (x :: (B ++ (R2 ++ S))))).toArray wr))
      case atStart => exact ⟨a, [], R1, rfl, Nat.le_refl _, hai, Nat.le_refl _, ⟨rfl, rfl⟩, HSS.out⟩
      case round =>
        clear HSS
        obtain ⟨k, A, B, rfl, k1, k2, hkx, HAB, HS⟩ := hrel
        by_cases hki : k < ip
        · have hkz : (k : Int) < (ip : Int) := by omega
          obtain ⟨y, B', rfl⟩ : ∃ y B', B = y :: B' := by
            cases B with
            | nil => exact absurd HAB.out.2 (by have h9 := HAB.out.1; have h8 := HR1.out; rw [h9] at h8; simp at h8; omega)
            | cons y B' => exact ⟨y, B', rfl⟩
          obtain ⟨q, hq⟩ : ∃ q, k + 1 = q := ⟨_, rfl⟩
          have z2 : (k : Int) + 1 = (q : Int) := by omega
          have r2 : IntKind.i64.wrap ((k : Int) + 1) = (q : Int) := by rw [IntKind.wrap_i64]; omega
          obtain ⟨oy, ny, cy, vy, ey⟩ := HE.out y
          have e1 : P ++ (A ++ x :: (y :: B' ++ (R2 ++ S))) = (P ++ A) ++ x :: ([] ++ y :: (B' ++ (R2 ++ S))) := by simp
          have f1 : k = (P ++ A).length := by have := HAB.out.2; have := HP.out; rw [List.length_append]; omega
          have f2 : q = (P ++ A).length + 1 + ([] : List α).length := by rw [List.length_nil]; omega
          have e3 : (P ++ (A ++ x :: (y :: B' ++ (R2 ++ S)))).length = N := by
            have h7 := HN.out
            rw [← HLl.out, HRR.out, HAB.out.1] at h7
            rw [← h7]; simp only [List.length_append, List.length_cons, List.length_nil]; omega
          have SW : Swap2 enc w0 blk off (P ++ ((A ++ [y]) ++ (x :: (B' ++ (R2 ++ S))))) k q (.slice ox nx cx) (.int .i64 vx) (.slice oy ny cy) (.int .i64 vy) wr := by
            refine swap2 HR.out HS.out (by rw [e3, ← HN.out, HD.out]) (x := x) (y := y) (bang_mid' e1 f1) (bang_mid' (P := (P ++ A) ++ [x]) (S := B' ++ (R2 ++ S)) (by rw [e1]; simp) (by rw [f2]; simp; omega)) (by omega) (by omega) ((swp_list e1 f1 f2).trans ?_) HX.out ey
            congr 1; simp
          clear e1 f1 f2 e3 HS ey
          obtain ⟨hon, a0, a1, b0, b1, f0, ⟨⟨v1, s1⟩, f1⟩, ⟨⟨v2, s2⟩, f2⟩, ⟨⟨v3, s3⟩, f3⟩⟩ := SW
          have HO := Lib.hid hon
          clear hon
          have m1 : ¬ (k * 2 = q * 2) := by omega
          have m2 : ¬ (k * 2 + 1 = q * 2) := by omega
          have m3 : ¬ (q * 2 = k * 2 + 1) := by omega
          have m4 : ¬ (q * 2 + 1 = k * 2) := by omega
          have m5 : ¬ (k * 2 = q * 2 + 1) := by omega
          have m6 : ¬ (off + k * 2 = off + q * 2) := by omega
          have m7 : ¬ (off + k * 2 + 1 = off + q * 2) := by omega
          have m8 : ¬ (off + q * 2 = off + k * 2 + 1) := by omega
          have m9 : ¬ (off + q * 2 + 1 = off + k * 2) := by omega
          have ma : ¬ (off + k * 2 = off + q * 2 + 1) := by omega
          have mb : ¬ (off + k * 2 + 1 = off + q * 2 + 1) := by omega
          have hpq : ¬ (k = q) := by omega
          have mc : ¬ (q = k) := by omega
          have a0' : wr.cell? ⟨blk, off + k * 2, none⟩ = some (.slice ox nx cx) := a0
          have a1' : wr.cell? ⟨blk, off + k * 2 + 1, none⟩ = some (.int .i64 vx) := a1
          have b0' : wr.cell? ⟨blk, off + q * 2, none⟩ = some (.slice oy ny cy) := b0
          have b1' : wr.cell? ⟨blk, off + q * 2 + 1, none⟩ = some (.int .i64 vy) := b1
          have f0' : wr.frozen? ⟨blk, off + k * 2, none⟩ = false := f0
          have f1' : wr.frozen? ⟨blk, off + k * 2 + 1, none⟩ = false := by rw [World.frozen?_setCell] at f1; exact f1
          have f2' : wr.frozen? ⟨blk, off + q * 2, none⟩ = false := by rw [World.frozen?_setCell, World.frozen?_setCell] at f2; exact f2
          have f3' : wr.frozen? ⟨blk, off + q * 2 + 1, none⟩ = false := by rw [World.frozen?_setCell, World.frozen?_setCell, World.frozen?_setCell] at f3; exact f3
          have ea : ((k : Int)).toNat = k := by omega
          have eb : ((q : Int)).toNat = q := by omega
          have pa : (0 : Int) ≤ (k : Int) := by omega
          have pb : (0 : Int) ≤ (q : Int) := by omega
          have l1 : (k : Int) < (N : Int) := by omega
          have l2 : (q : Int) < (N : Int) := by omega
          have mixed : Tryz.prog.follows .mixedOrders = true := by kernel_rfl
          go_wp2_with fail
          go_big_region
          all_goals go_wp2
          go_roundg (ip - q)
          case measure => omega
          case rel =>
            refine ⟨q, A ++ [y], B', by first | rfl | go_num, by omega, by omega, Nat.le_refl _, (show Hid _ from ?_), HO⟩
            have h9 := HAB.out
            exact ⟨by rw [h9.1]; simp, by rw [List.length_append, List.length_cons, List.length_nil]; omega⟩
        · obtain rfl : k = ip := by omega
          have hB : B = [] := List.length_eq_zero_iff.1 (by have h9 := HAB.out; have h8 := HR1.out; rw [h9.1, List.length_append] at h8; omega)
          subst hB
          have HF := Lib.hid (show SWK enc 2 w0 blk off (P ++ (mg (ltOf cf) [x] V ++ S)).toArray wr from by
            rw [HM.out, HAB.out.1]; simpa using HS.out)
          clear HS HAB
          go_wp2
          (try simp only [Exit.inBlock, Exit.then])
          refine bodyPost_ret (results_none rfl _ _ _) rfl ?_
          exact ⟨rfl, HF.out⟩

set_option maxHeartbeats 4000000 in
set_option maxRecDepth 1000000 in
/-- One on the right. -/
theorem symRight_r (R : RowK enc 2 w0 blk off d0) (E : ∀ x, ∃ o n c v, enc x = [.slice o n c, .int .i64 v]) (cf : α → α → Int) (hS : SWO (ltOf cf)) (g : Nat) (eg : ∀ args w, (callFunc g args).run Tryz.prog w = .ok (.enter g args) w) (cap a m b N : Nat) (hC : CmpLays Tryz.prog g #[] enc 2 cf blk off N w0) (P U S : List α) (x : α) (W : World) (hU : Srt (ltOf cf) U) (ha : a = P.length) (hm : m = a + U.length) (hU1 : a + 1 < m) (hb : b = m + 1) (hs : (P ++ (U ++ ([x] ++ S))).length = N) (hd : d0.size = N) (hN : N < 4611686018427387904)
    (h : SWK enc 2 w0 blk off (P ++ (U ++ ([x] ++ S))).toArray W) :
    Calls Tryz.prog 209 #[.slice (some ⟨blk, off, none⟩) N cap, .int .i64 a, .int .i64 m, .int .i64 b, .func (.func g) #[] #[]] W fun e w' => e = .returned (.tuple #[]) ∧ SWK enc 2 w0 blk off (P ++ (mg (ltOf cf) U [x] ++ S)).toArray w' := by
  have HS0 := Lib.hid h
  obtain ⟨l, hl⟩ : ∃ l, P ++ (U ++ ([x] ++ S)) = l := ⟨_, rfl⟩
  have HLl := Lib.hid hl
  have hbN : b ≤ N := by simp only [List.length_append, List.length_cons, List.length_nil] at hs; omega
  have HP := Lib.hid ha
  have HM0 := Lib.hid hm
  have HR := Lib.hid R
  have HE := Lib.hid E
  have HC := Lib.hid hC
  have HV := Lib.hid hU
  have HD := Lib.hid (show l.length = d0.size from by rw [← hl, hs, hd])
  have HN := Lib.hid (show l.length = N from by rw [← hl, hs])
  have HA := Lib.hid (show l.toArray[m]! = x from bang_mid' (P := P ++ U) (S := S) (by rw [← hl]; simp) (by rw [List.length_append]; omega))
  have HSW := Lib.hid hS
  obtain ⟨ox, nx, cx, vx, ex⟩ := E x
  have HX := Lib.hid ex
  rw [hl] at HS0
  have i0 : ((m : Int) - (a : Int) == 1) = false := beq_eq_false_iff_ne.2 (by omega)
  have i0' : ¬ (m : Int) - (a : Int) = 1 := by omega
  have i1 : ((b : Int) - (m : Int) == 1) = true := beq_iff_eq.2 (by omega)
  have i2 : (b : Int) - (m : Int) = 1 := by omega
  have hm1 : m + 1 ≤ b := by omega
  have hm2 : b ≤ m + 1 := by omega
  clear h R E hC hU ha hm hb hs hd hl ex hS
  go_enter Tryz.func209, Tryz.ntmps209
  go_wp2
  go_loopg [14, 15] (m - a) (fun kx s10 s11 wr => ∃ i j : Nat, s10 = .int .i64 i ∧ s11 = .int .i64 j ∧ a ≤ i ∧ i ≤ j ∧ j ≤ m ∧ j - i ≤ kx ∧ Hid ((i = a ∨ ltOf cf x l.toArray[i - 1]! = false) ∧ (j = m ∨ ltOf cf x l.toArray[j]! = true)) ∧ Hid (SWK enc 2 w0 blk off l.toArray wr))
  case atStart => exact ⟨a, m, rfl, rfl, Nat.le_refl _, by omega, Nat.le_refl _, Nat.le_refl _, ⟨.inl rfl, .inl rfl⟩, HS0.out⟩
  case round =>
    clear HS0
    obtain ⟨i, j, rfl, rfl, h1, h2, h3, hkx, HF, HS⟩ := hrel
    by_cases hij : i < j
    · have hijz : (i : Int) < (j : Int) := by omega
      obtain ⟨q, hq⟩ : ∃ q, (i + j) / 2 = q := ⟨_, rfl⟩
      have q1 : i ≤ q := by omega
      have q2 : q < j := by omega
      have qz : (q : Int) < (N : Int) := by omega
      have qp : (0 : Int) ≤ (q : Int) := by omega
      have qn : ((q : Int)).toNat = q := by omega
      have az : (m : Int) < (N : Int) := by omega
      have ap : (0 : Int) ≤ (m : Int) := by omega
      have an : ((m : Int)).toNat = m := by omega
      obtain ⟨z, hz⟩ : ∃ z, l.toArray[q]! = z := ⟨_, rfl⟩
      obtain ⟨oz, nz, cz, vz, ez⟩ := HE.out z
      have hc2 := cmp2 HR.out HC.out HS.out HD.out HN.out HA.out hz (by rw [HN.out]; omega) (by rw [HN.out]; omega) HX.out ez
      obtain ⟨a0, a1, b0, b1, hc⟩ := hc2
      have HZ := Lib.hid hz
      clear ez hz
      obtain ⟨r, hr⟩ : ∃ r, cf x z = r := ⟨_, rfl⟩
      rw [hr] at hc
      have HRr := Lib.hid hr
      clear hr
      have hqz : ((i : Int) + (j : Int)) / 2 = (q : Int) := by omega
      have mixed : Tryz.prog.follows .mixedOrders = true := by kernel_rfl
      by_cases hv : r < 0
      · have hv2 : decide (r < 0) = true := decide_eq_true hv
        go_wp2_with fail
        go_quiet_grown (first | (go_at_fn g; refine Calls.grown_of (hc _ _)))
        have HS2 := Lib.hid (HS.out.grown nq osq)
        clear a0 a1 b0 b1 hc HS
        generalize grow (wr.drewN nq) osq = w2 at HS2 ⊢
        clear nq osq
        go_wp2
        go_roundg (q - i)
        case measure => omega
        case rel =>
          refine ⟨i, q, rfl, by first | rfl | go_num, h1, q1, by omega, Nat.le_refl _, (show Hid _ from ⟨HF.out.1, .inr ?_⟩), HS2⟩
          rw [HZ.out]
          exact decide_eq_true (by rw [HRr.out]; exact hv)
      · have hv2 : decide (r < 0) = false := decide_eq_false hv
        go_wp2_with fail
        go_quiet_grown (first | (go_at_fn g; refine Calls.grown_of (hc _ _)))
        have HS2 := Lib.hid (HS.out.grown nq osq)
        clear a0 a1 b0 b1 hc HS
        generalize grow (wr.drewN nq) osq = w2 at HS2 ⊢
        clear nq osq
        go_wp2
        go_roundg (j - (q + 1))
        case measure => omega
        case rel =>
          refine ⟨q + 1, j, by first | rfl | go_num, rfl, by omega, by omega, h3, Nat.le_refl _, (show Hid _ from ⟨.inr ?_, HF.out.2⟩), HS2⟩
          rw [Nat.add_sub_cancel, HZ.out]
          exact decide_eq_false (by rw [HRr.out]; omega)
    · obtain rfl : i = j := by omega
      have hpt := one_parts' HSW.out (P := P) (L := U) (S := [x] ++ S) (y := x) (a := a) (m := m) (i := i) (l := l) (by rw [← HLl.out]) HV.out HP.out HM0.out h1 h3 HF.out.1 HF.out.2
      obtain ⟨R1, R2, hR, hR1, g1, g2⟩ := hpt
      have HM := Lib.hid (show mg (ltOf cf) U [x] = R1 ++ x :: R2 by rw [hR]; exact mg_one_right _ x R1 R2 g1 g2)
      have HRR := Lib.hid hR
      have HR1 := Lib.hid hR1
      have him : i ≤ m := h3
      have HSS := Lib.hid (show SWK enc 2 w0 blk off (P ++ (R1 ++ (R2 ++ (x :: ([] ++ S))))).toArray wr from by
        have := HS.out; rw [← HLl.out, hR] at this; simpa using this)
      have HRm := Lib.hid (show i + R2.length = m by have h9 := HM0.out; rw [hR, List.length_append] at h9; omega)
      clear HF HS hR hR1 g1 g2 hkx hij
      go_wp2
      go_loopg [17] (m - i) (fun kx s13 wr => ∃ (k : Nat) (A B : List α), s13 = .int .i64 k ∧ i ≤ k ∧ k ≤ m ∧ k - i ≤ kx ∧ Hid (R2 = A ++ B ∧ i + A.length = k) ∧ Hid (SWK enc 2 w0 blk off (P ++ (R1 ++ (A ++ (x :: (B ++ S))))).toArray wr))
      case atStart => exact ⟨m, R2, [], rfl, him, Nat.le_refl _, Nat.le_refl _, ⟨by simp, HRm.out⟩, HSS.out⟩
      case round =>
        clear HSS
        obtain ⟨k, A, B, rfl, k1, k2, hkx, HAB, HS⟩ := hrel
        by_cases hki : i < k
        · have hkz : (k : Int) > (i : Int) := by omega
          obtain ⟨A', y, rfl⟩ : ∃ A' y, A = A' ++ [y] := by
            rcases List.eq_nil_or_concat A with rfl | ⟨A', y, rfl⟩
            · exact absurd HAB.out.2 (by simp; omega)
            · exact ⟨A', y, by simp⟩
          obtain ⟨q, rfl⟩ : ∃ q, k = q + 1 := ⟨k - 1, by omega⟩
          obtain ⟨p, hp⟩ : ∃ p, q + 1 = p := ⟨_, rfl⟩
          have z2 : (p : Int) - 1 = (q : Int) := by omega
          have r2 : IntKind.i64.wrap ((p : Int) - 1) = (q : Int) := by rw [IntKind.wrap_i64]; omega
          obtain ⟨oy, ny, cy, vy, ey⟩ := HE.out y
          have e1 : P ++ (R1 ++ (A' ++ [y] ++ x :: (B ++ S))) = (P ++ R1 ++ A') ++ y :: ([] ++ x :: (B ++ S)) := by simp
          have f1 : q = (P ++ R1 ++ A').length := by
            have h7 := HAB.out.2; have h8 := HP.out; have h9 := HR1.out
            simp only [List.length_append, List.length_cons, List.length_nil] at h7 ⊢; omega
          have f2 : p = (P ++ R1 ++ A').length + 1 + ([] : List α).length := by rw [List.length_nil]; omega
          have e3 : (P ++ (R1 ++ (A' ++ [y] ++ x :: (B ++ S)))).length = N := by
            have h7 := HN.out
            rw [← HLl.out, HRR.out, HAB.out.1] at h7
            rw [← h7]; simp only [List.length_append, List.length_cons, List.length_nil]; omega
          have SW : Swap2 enc w0 blk off (P ++ (R1 ++ (A' ++ (x :: ((y :: B) ++ S))))) p q (.slice ox nx cx) (.int .i64 vx) (.slice oy ny cy) (.int .i64 vy) wr := by
            refine swap2 HR.out HS.out (by rw [e3, ← HN.out, HD.out]) (x := x) (y := y) (bang_mid' (P := (P ++ R1 ++ A') ++ [y]) (S := B ++ S) (by rw [e1]; simp) (by rw [f2]; simp; omega)) (bang_mid' e1 f1) (by omega) (by omega) ((swp_list' e1 f1 f2).trans ?_) HX.out ey
            congr 1; simp
          have hpN : p ≤ m := by omega
          have hip : i < p := by omega
          have HQP := Lib.hid hp
          have hqp : q < p := by omega
          have hqp2 : p ≤ q + 1 := by omega
          clear e1 f1 f2 e3 HS ey
          rw [hp] at hkz ⊢
          obtain ⟨hon, a0, a1, b0, b1, f0, ⟨⟨v1, s1⟩, f1⟩, ⟨⟨v2, s2⟩, f2⟩, ⟨⟨v3, s3⟩, f3⟩⟩ := SW
          have HO := Lib.hid hon
          clear hon
          have HAB2 := Lib.hid (show R2 = A' ++ y :: B ∧ i + A'.length = q from by
            have h9 := HAB.out
            refine ⟨by rw [h9.1]; simp, ?_⟩
            have h7 := h9.2
            simp only [List.length_append, List.length_cons, List.length_nil] at h7; omega)
          clear HAB hp k1 k2
          have m1 : ¬ (p * 2 = q * 2) := by omega
          have m2 : ¬ (p * 2 + 1 = q * 2) := by omega
          have m3 : ¬ (q * 2 = p * 2 + 1) := by omega
          have m4 : ¬ (q * 2 + 1 = p * 2) := by omega
          have m5 : ¬ (p * 2 = q * 2 + 1) := by omega
          have m6 : ¬ (off + p * 2 = off + q * 2) := by omega
          have m7 : ¬ (off + p * 2 + 1 = off + q * 2) := by omega
          have m8 : ¬ (off + q * 2 = off + p * 2 + 1) := by omega
          have m9 : ¬ (off + q * 2 + 1 = off + p * 2) := by omega
          have ma : ¬ (off + p * 2 = off + q * 2 + 1) := by omega
          have mb : ¬ (off + p * 2 + 1 = off + q * 2 + 1) := by omega
          have hpq : ¬ (p = q) := by omega
          have mc : ¬ (q = p) := by omega
          have a0' : wr.cell? ⟨blk, off + p * 2, none⟩ = some (.slice ox nx cx) := a0
          have a1' : wr.cell? ⟨blk, off + p * 2 + 1, none⟩ = some (.int .i64 vx) := a1
          have b0' : wr.cell? ⟨blk, off + q * 2, none⟩ = some (.slice oy ny cy) := b0
          have b1' : wr.cell? ⟨blk, off + q * 2 + 1, none⟩ = some (.int .i64 vy) := b1
          have f0' : wr.frozen? ⟨blk, off + p * 2, none⟩ = false := f0
          have f1' : wr.frozen? ⟨blk, off + p * 2 + 1, none⟩ = false := by rw [World.frozen?_setCell] at f1; exact f1
          have f2' : wr.frozen? ⟨blk, off + q * 2, none⟩ = false := by rw [World.frozen?_setCell, World.frozen?_setCell] at f2; exact f2
          have f3' : wr.frozen? ⟨blk, off + q * 2 + 1, none⟩ = false := by rw [World.frozen?_setCell, World.frozen?_setCell, World.frozen?_setCell] at f3; exact f3
          have ea : ((p : Int)).toNat = p := by omega
          have eb : ((q : Int)).toNat = q := by omega
          have pa : (0 : Int) ≤ (p : Int) := by omega
          have pb : (0 : Int) ≤ (q : Int) := by omega
          have l1 : (p : Int) < (N : Int) := by omega
          have l2 : (q : Int) < (N : Int) := by omega
          have mixed : Tryz.prog.follows .mixedOrders = true := by kernel_rfl
          go_wp2_with fail
          go_big_region
          all_goals go_wp2
          go_roundg (q - i)
          case measure => omega
          case rel => exact ⟨q, A', y :: B, by first | rfl | go_num, by omega, by omega, Nat.le_refl _, HAB2, HO⟩
        · obtain rfl : k = i := by omega
          have hB : A = [] := List.length_eq_zero_iff.1 (by have h9 := HAB.out; omega)
          subst hB
          have HF := Lib.hid (show SWK enc 2 w0 blk off (P ++ (mg (ltOf cf) U [x] ++ S)).toArray wr from by
            rw [HM.out, HAB.out.1]; simpa using HS.out)
          clear HS HAB
          go_wp2
          (try simp only [Exit.inBlock, Exit.then])
          refine bodyPost_ret (results_none rfl _ _ _) rfl ?_
          exact ⟨rfl, HF.out⟩
end
end Go.Proofs.YtbdnonphkobkoaaGreat.Stb
