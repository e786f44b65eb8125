/- A walk: what a row costs, and whether lists of rows are alike. -/
import Derived.Test.YthjifpdiekoomaaGreatYd
import Derived.Test.YthjifpdiekoomaaGreatGk
import Derived.Test.YthjifpdiekoomaaGreatLsm
namespace Go.Proofs.YthjifpdiekoomaaGreat.Row
open Go.RowKit Go.Lib Go.Proofs.YthjifpdiekoomaaGreat.Vec

def costL : List Lab → Nat
  | [] => 0
  | x :: xs => 8 + x.1.size + x.2.size + costL xs
theorem costL_app : ∀ (xs ys : List Lab), costL (xs ++ ys) = costL xs + costL ys
  | [], ys => by simp [costL]
  | x :: xs, ys => by rw [List.cons_append, costL, costL, costL_app xs]; omega
theorem costL_le : ∀ (xs : List Lab), (∀ x ∈ xs, x.1.size ≤ 1000 ∧ x.2.size ≤ 1000) → costL xs ≤ 2008 * xs.length
  | [], _ => Nat.le_refl _
  | x :: xs, h => by
    have ih := costL_le xs (fun y hy => h y (List.mem_cons_of_mem _ hy))
    have := h x (List.mem_cons_self ..)
    rw [costL, List.length_cons]; omega
theorem costL_ge : ∀ (xs : List Lab), 8 * xs.length ≤ costL xs
  | [] => Nat.le_refl _
  | x :: xs => by have := costL_ge xs; rw [costL, List.length_cons]; omega

set_option maxHeartbeats 4000000 in
set_option maxRecDepth 100000 in
theorem cost_any (o : Option Addr) (n c : Nat) (xs : List Lab) (v : Int) (w : World) (hn : xs.length = n) (hm : n ≤ 1000000) (hv : ∀ x ∈ xs, x.1.size ≤ 1000 ∧ x.2.size ≤ 1000) (hS : SeesO w o xs) :
    Calls Tryz.prog 11 #[.agg #[.slice o n c, .int .i64 v]] w fun e w' => e = .returned (.int .i64 (16 + costL xs : Nat)) ∧ Below w.heap.size w w' := by
  have HS := Lib.hid hS
  have HN := Lib.hid hn
  have HV := Lib.hid hv
  have hz0 : (w.alloc (Obj.cells #[Value.slice o n c, Value.int .i64 v] 24)).heap.size = w.heap.size + 1 := Array.size_push _
  have HB0 := Lib.hid (show Below w.heap.size w (w.alloc (Obj.cells #[Value.slice o n c, Value.int .i64 v] 24)) from (Below.refl _ _).alloc (Nat.le_refl _) _)
  clear hS hn hv
  go_enter Tryz.func11, Tryz.ntmps11
  go_wp2
  go_loopw [3, 5, 9] (fun v3 v5 v9 wr => ∃ (k : Nat) (a : Nat), v9 = .int .i64 k ∧ k ≤ n ∧ v3 = .int .i64 a ∧ Hid (a = 16 + costL (xs.take k)) ∧ Hid (Below w.heap.size w wr)) (fun _ _ v9 _ => n - (Go.RowKit.intOf v9).toNat)
  case atStart => exact ⟨0, 16, rfl, Nat.zero_le _, rfl, rfl, HB0⟩
  case round =>
    obtain ⟨k, a, rfl, hk, rfl, HA, HB⟩ := hrel
    by_cases hkn : k < n
    · have j1 : (k : Int) < n := by omega
      obtain ⟨x, hx⟩ := get_lt HN.out hkn
      obtain ⟨b, off, rfl, hS⟩ := (HS.out.below HB.out).at hx
      have c0 := hS.at0 k x hx
      have c1 := hS.at1 k x hx
      have hsz := HV.out x (List.mem_of_getElem? hx)
      have hal : a ≤ 16 + 2008 * k := by
        rw [HA.out]
        have h1 := costL_le (xs.take k) (fun y hy => HV.out y (List.mem_of_mem_take hy))
        have h2 : (xs.take k).length ≤ k := by rw [List.length_take]; omega
        omega
      have HA2 := Lib.hid (show a + (8 + x.1.size + x.2.size) = 16 + costL (xs.take (k + 1)) by
        rw [List.take_add_one, hx, costL_app, HA.out]
        simp [costL]; omega)
      have HB2 := Lib.hid (HB.out.alloc (by have := HB.out.size; omega) (Obj.cells #[Value.string x.1, Value.string x.2] 58))
      obtain ⟨p, hp⟩ : ∃ p, x.1.size = p := ⟨_, rfl⟩
      obtain ⟨q, hq⟩ : ∃ q, x.2.size = q := ⟨_, rfl⟩
      rw [hp, hq] at hsz HA2
      clear hS hx
      go_wp2
      go_roundw
      case rel => exact ⟨k + 1, a + (8 + p + q), by go_num, by omega, by go_num, HA2, HB2⟩
      case measure => simp [Go.RowKit.intOf]; omega
    · have j1 : (n : Int) ≤ k := by omega
      have H2 := Lib.hid (show a = 16 + costL xs by rw [HA.out, List.take_of_length_le (by rw [HN.out]; omega)])
      go_wp2
      go_ret
      exact ⟨ret_int (by rw [H2.out]), HB.out⟩

theorem lenR : ∀ (xs ys : List Rw), xs.length ≠ ys.length → sameR xs ys = false
  | [], [], h => absurd rfl h
  | [], _ :: _, _ => rfl
  | _ :: _, [], _ => rfl
  | x :: xs, y :: ys, h => by rw [sameR, lenR xs ys (by simpa using h), Bool.and_false]
theorem eqR_eq (x y : Rw) : eqR x y = ((x.2 == y.2) && sameL x.1 y.1) := by unfold eqR; rw [Bool.and_comm]

set_option maxHeartbeats 4000000 in
set_option maxRecDepth 100000 in
theorem alike_any (o1 o2 : Option Addr) (n1 c1 n2 c2 : Nat) (x y : Rw) (w : World) (h1 : x.1.length = n1) (h2 : y.1.length = n2) (hm : n1 ≤ maxLen) (hm2 : n2 ≤ maxLen) (s1 : SeesO w o1 x.1) (s2 : SeesO w o2 y.1) :
    Calls Tryz.prog 34 #[.agg #[.slice o1 n1 c1, .int .i64 x.2], .agg #[.slice o2 n2 c2, .int .i64 y.2]] w fun e w' => e = .returned (.bool (eqR x y)) ∧ Below w.heap.size w w' := by
  have HL := Lib.hid (fun (W : World) (hb : Below w.heap.size w W) => (show Calls Tryz.prog 83 #[.slice o1 n1 c1, .slice o2 n2 c2] W fun e w' => e = .returned (.bool (sameL x.1 y.1)) ∧ Below W.heap.size W w' from by
    have := same_any o1 o2 c1 c2 x.1 y.1 W (by omega) (by omega) (s1.below hb) (s2.below hb)
    rwa [h1, h2] at this))
  have hz0 : (w.alloc (Obj.cells #[Value.slice o1 n1 c1, Value.int .i64 x.2] 24)).heap.size = w.heap.size + 1 := Array.size_push _
  have HB0 := Lib.hid (show Below w.heap.size w ((w.alloc (Obj.cells #[Value.slice o1 n1 c1, Value.int .i64 x.2] 24)).alloc (Obj.cells #[Value.slice o2 n2 c2, Value.int .i64 y.2] 24)) from ((Below.refl _ _).alloc (Nat.le_refl _) _).alloc (by omega) _)
  have HE := Lib.hid (eqR_eq x y)
  obtain ⟨p, hp⟩ : ∃ p, x.2 = p := ⟨_, rfl⟩
  obtain ⟨q, hq⟩ : ∃ q, y.2 = q := ⟨_, rfl⟩
  rw [hp, hq] at HE HB0 ⊢
  rw [hp] at hz0
  clear hp hq h1 h2 hm hm2 s1 s2
  cases e : p == q with
  | false =>
    rw [e] at HE
    go_enter Tryz.func34, Tryz.ntmps34
    go_wp2
    go_ret
    exact ⟨ret_bool (by rw [HE.out]; rfl), HB0.out⟩
  | true =>
    rw [e] at HE
    go_enter Tryz.func34, Tryz.ntmps34
    go_wp2_with fail
    refine (HL.out _ HB0.out).mono ?_
    rintro e2 w1 ⟨rfl, b1⟩
    have HB1 := Lib.hid (HB0.out.trans (b1.mono HB0.out.size))
    clear b1
    go_wp2
    go_ret
    exact ⟨ret_bool (by rw [HE.out, Bool.true_and]), HB1.out⟩

set_option maxHeartbeats 8000000 in
set_option maxRecDepth 100000 in
theorem equalR_any (o1 o2 : Option Addr) (n m c1 c2 : Nat) (xs ys : List Rw) (w : World) (B : Nat) (hn : xs.length = n) (hm : ys.length = m) (hl1 : n ≤ maxLen) (hl2 : m ≤ maxLen) (h1 : RowsS w B o1 xs) (h2 : RowsS w B o2 ys) :
    Calls Tryz.prog 33 #[.slice o1 n c1, .slice o2 m c2, .func (.func 34) #[] #[]] w fun e w' => e = .returned (.bool (sameR xs ys)) ∧ Below w.heap.size w w' := by
  have HN := Lib.hid hn
  have HM := Lib.hid hm
  clear hn hm
  unfold maxLen at hl1 hl2
  by_cases hnm : n = m
  · subst hnm
    have HS1 := Lib.hid h1
    have HS2 := Lib.hid h2
    clear h1 h2
    go_enter Tryz.func33, Tryz.ntmps33
    go_wp2
    go_loopw [7, 8, 9, 17] (fun v7 v8 v9 v17 wr => ∃ k : Nat, v17 = .int .i64 k ∧ k ≤ n ∧ Hid (Below w.heap.size w wr) ∧ Hid (sameR (xs.drop k) (ys.drop k) = sameR xs ys)) (fun _ _ _ v17 _ => n - (Go.RowKit.intOf v17).toNat)
    case atStart => exact ⟨0, rfl, Nat.zero_le _, Below.refl _ _, rfl⟩
    case round =>
      obtain ⟨k, rfl, hk, HB, H⟩ := hrel
      by_cases hkn : k < n
      · have j1 : (k : Int) < n := by omega
        obtain ⟨x, hx⟩ := get_ltG HN.out hkn
        obtain ⟨b, off, rfl, hS⟩ := (HS1.out.below frow HB.out).at hx
        obtain ⟨y, hy⟩ := get_ltG HM.out hkn
        obtain ⟨b2, off2, rfl, hS2⟩ := (HS2.out.below frow HB.out).at hy
        obtain ⟨oL, cL, c0, c1, hL, lL⟩ := row_at hS hx
        obtain ⟨oM, cM, d0, d1, hM, lM⟩ := row_at hS2 hy
        have HX := Lib.hid (drop_atG hx)
        have HY := Lib.hid (drop_atG hy)
        obtain ⟨nL, hnL⟩ : ∃ nL, x.1.length = nL := ⟨_, rfl⟩
        obtain ⟨nM, hnM⟩ : ∃ nM, y.1.length = nM := ⟨_, rfl⟩
        rw [hnL] at c0 lL
        rw [hnM] at d0 lM
        have hA := (Below.refl wr.heap.size wr).alloc (Nat.le_refl _) (Obj.cells #[Value.slice oL nL cL, Value.int .i64 x.2] 24)
        have e0 := (hA.cell (p := ⟨b2, off2 + k * 2, none⟩) hS2.low).trans d0
        have e1 := (hA.cell (p := ⟨b2, off2 + k * 2 + 1, none⟩) hS2.low).trans d1
        have hA2 := hA.alloc hA.size (Obj.cells #[Value.slice oM nM cM, Value.int .i64 y.2] 24)
        have HA2 := Lib.hid hA2
        have HCL := Lib.hid (fun (W : World) (hb : Below wr.heap.size wr W) => alike_any oL oM nL cL nM cM x y W hnL hnM lL lM (hL.sees.below hb) (hM.sees.below hb))
        have hza : (wr.alloc (Obj.cells #[Value.slice oL nL cL, Value.int .i64 x.2] 24)).heap.size = wr.heap.size + 1 := Array.size_push _
        clear hS hS2 hx hy hL hM hA hA2 hnL hnM d0 d1
        unfold maxLen at lL lM
        cases eE : eqR x y with
        | false =>
          have H2 := Lib.hid (show false = sameR xs ys by rw [← H.out, HX.out, HY.out, sameR, eE]; rfl)
          rw [eE] at HCL
          clear eE
          go_wp2_with fail
          refine (HCL.out _ HA2.out).mono ?_
          rintro e w1 ⟨rfl, b1⟩
          have HB1 := Lib.hid (HB.out.trans ((HA2.out.trans (b1.mono HA2.out.size)).mono HB.out.size))
          clear b1
          go_wp2
          go_ret
          exact ⟨ret_bool H2.out, HB1.out⟩
        | true =>
          have H2 := Lib.hid (show sameR (xs.drop (k + 1)) (ys.drop (k + 1)) = sameR xs ys by rw [← H.out, HX.out, HY.out, sameR, eE, Bool.true_and])
          rw [eE] at HCL
          clear eE
          go_wp2_with fail
          refine (HCL.out _ HA2.out).mono ?_
          rintro e w1 ⟨rfl, b1⟩
          have HB1 := Lib.hid (HB.out.trans ((HA2.out.trans (b1.mono HA2.out.size)).mono HB.out.size))
          clear b1
          go_wp2
          go_roundw
          case rel => exact ⟨k + 1, by go_num, by omega, HB1, H2⟩
          case measure => simp [Go.RowKit.intOf]; omega
      · have j1 : (n : Int) ≤ k := by omega
        have H2 := Lib.hid (show true = sameR xs ys by
          have e1 : xs.drop k = [] := List.drop_eq_nil_of_le (by rw [HN.out]; omega)
          have e2 : ys.drop k = [] := List.drop_eq_nil_of_le (by rw [HM.out]; omega)
          rw [← H.out, e1, e2, sameR])
        go_wp2
        go_ret
        exact ⟨ret_bool H2.out, HB.out⟩
  · have H2 := Lib.hid (show false = sameR xs ys from (lenR xs ys (by rw [HN.out, HM.out]; exact hnm)).symm)
    have t1 : ((n : Int) != (m : Int)) = true := by rw [bne_iff_ne]; omega
    have t2 : ((n : Int) == (m : Int)) = false := by rw [beq_eq_false_iff_ne]; omega
    clear hnm
    go_enter Tryz.func33, Tryz.ntmps33
    go_wp2
    go_ret
    exact ⟨ret_bool H2.out, Below.refl _ _⟩

set_option maxHeartbeats 2000000 in
set_option maxRecDepth 100000 in
theorem rsame_any (o1 o2 : Option Addr) (n m c1 c2 : Nat) (xs ys : List Rw) (w : World) (B : Nat) (hn : xs.length = n) (hm : ys.length = m) (hl1 : n ≤ maxLen) (hl2 : m ≤ maxLen) (h1 : RowsS w B o1 xs) (h2 : RowsS w B o2 ys) :
    Calls Tryz.prog 18 #[.slice o1 n c1, .slice o2 m c2] w fun e w' => e = .returned (.bool (sameR xs ys)) ∧ Below w.heap.size w w' := by
  have HC := Lib.hid (equalR_any o1 o2 n m c1 c2 xs ys w B hn hm hl1 hl2 h1 h2)
  clear hn hm hl1 hl2 h1 h2
  go_enter Tryz.func18, Tryz.ntmps18
  go_wp2_with fail
  refine HC.out.mono ?_
  rintro e w' ⟨rfl, hb⟩
  go_wp2
  go_ret
  exact ⟨rfl, hb⟩
end Go.Proofs.YthjifpdiekoomaaGreat.Row
