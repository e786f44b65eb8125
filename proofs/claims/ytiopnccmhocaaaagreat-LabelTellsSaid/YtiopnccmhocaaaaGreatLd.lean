/- Labels: the value of a name; are two lists alike; are they few and short. -/
import Derived.Test.YtiopnccmhocaaaaGreatLc
import Derived.Laws.StructEq
namespace Go.Proofs.YtiopnccmhocaaaaGreat
open Go.RowKit

theorem ret_s {a b : ByteArray} (h : a = b) : Ending.returned (.string a) = .returned (.string b) := by rw [h]
def getL (name : ByteArray) : List Lab → ByteArray
  | [] => ⟨#[]⟩
  | x :: xs => if x.1.toList = name.toList then x.2 else getL name xs

set_option maxHeartbeats 2000000 in
set_option maxRecDepth 100000 in
theorem get_any (o : Option Addr) (cap : Nat) (xs : List Lab) (name : ByteArray) (w : World) (hm : xs.length ≤ maxLen) (hS : SeesO w o xs) (hv : ∀ x ∈ xs, x.2.size ≤ 281474976710656) :
    Calls Tryz.prog 15 #[.slice o xs.length cap, .string name] w fun e w' => e = .returned (.string (getL name xs)) ∧ Below w.heap.size w w' := by
  obtain ⟨n, hn⟩ : ∃ n, xs.length = n := ⟨_, rfl⟩
  have HN := Lib.hid hn
  rw [hn] at hm ⊢
  clear hn
  unfold maxLen at hm
  have HSO := Lib.hid hS
  have HV := Lib.hid hv
  have HC := Lib.hid (fun s W h => clone_any s W h)
  clear hS hv
  go_enter Tryz.func15, Tryz.ntmps15
  go_wp2
  go_loopw [6, 9] (fun v6 v9 wr => ∃ k : Nat, v9 = .int .i64 k ∧ k ≤ n ∧ Hid (Below w.heap.size w wr) ∧ Hid (getL name (xs.drop k) = getL name xs)) (fun _ v9 _ => n - (intOf v9).toNat)
  case atStart => exact ⟨0, rfl, Nat.zero_le _, Below.refl _ _, rfl⟩
  case round =>
    obtain ⟨k, rfl, hk, HB, H⟩ := hrel
    by_cases hkn : k < n
    · have j1 : (k : Int) < n := by omega
      obtain ⟨x, hx⟩ := get_lt HN.out hkn
      obtain ⟨b, off, rfl, hS⟩ := (HSO.out.below (HB.out.mono (Nat.le_refl _))).at hx
      have c0 := hS.at0 k x hx
      have c1 := hS.at1 k x hx
      have hdr := Lib.hid (drop_at hx)
      have hsz := Lib.hid (HV.out x (List.mem_of_getElem? hx))
      have HBq := Lib.hid (show Below w.heap.size w (wr.alloc (Obj.cells #[Value.string x.1, Value.string x.2] 56)) from HB.out.alloc (by have := HB.out.size; omega) _)
      clear hS hx
      by_cases he : x.1.toList = name.toList
      · have H2 := Lib.hid (show x.2 = getL name xs by rw [← H.out, hdr.out, getL, if_pos he])
        have t1 : (x.1.toList == name.toList) = true := by rw [he]; exact beq_self_eq_true _
        go_wp2_with fail
        refine (HC.out _ _ hsz.out).mono ?_
        rintro e wq ⟨rfl, bq⟩
        go_wp2
        go_ret
        exact ⟨ret_s H2.out, HBq.out.trans (bq.mono (by have := HB.out.size; simp; omega))⟩
      · have H2 := Lib.hid (show getL name (xs.drop (k + 1)) = getL name xs by rw [← H.out, hdr.out, getL, if_neg he])
        have t1 : (x.1.toList == name.toList) = false := beq_eq_false_iff_ne.2 he
        go_wp2
        go_roundw
        case rel => exact ⟨k + 1, by go_num, by omega, HBq, H2⟩
        case measure => simp [intOf]; omega
    · have j1 : (n : Int) ≤ k := by omega
      have H2 := Lib.hid (show (⟨#[]⟩ : ByteArray) = getL name xs by rw [← H.out, List.drop_eq_nil_of_le (by rw [HN.out]; omega), getL])
      go_wp2
      go_ret
      exact ⟨ret_s H2.out, HB.out⟩

/-- Are two lists of labels alike? -/
def eqB (x y : Lab) : Bool := x.1.toList == y.1.toList && x.2.toList == y.2.toList
def sameL : List Lab → List Lab → Bool
  | [], [] => true
  | x :: xs, y :: ys => eqB x y && sameL xs ys
  | _, _ => false
theorem sameL_len : ∀ (xs ys : List Lab), xs.length ≠ ys.length → sameL xs ys = false
  | [], [], h => absurd rfl h
  | [], _ :: _, _ => rfl
  | _ :: _, [], _ => rfl
  | x :: xs, y :: ys, h => by rw [sameL, sameL_len xs ys (by simpa using h), Bool.and_false]

theorem equalIn38 (x y : Lab) (w : World) : (Op.equalIn 10000 56 (.agg #[.string x.1, .string x.2]) (.agg #[.string y.1, .string y.2])).run Tryz.prog w = .ok (eqB x y) w := by
  have u9 := Tryz.underlying9
  have a9 := Tryz.isAgg9
  have z9 := Tryz.sizeOf9
  have hS : Tryz.prog.underlying 56 = some (.struct (Tryz.prog.fieldsOf 56)) := by kernel_rfl
  have hp : Tryz.prog.stoodInHeld 56 = false := by kernel_rfl
  rw [show (10000 : Nat) = 9999 + 1 from rfl, run_equalIn_agg w 9999 56 _ _ hS hp]
  simp only [Program.fieldsOf, Tryz.underlying56]
  go_simp
  unfold eqB
  cases h1 : x.1.toList == y.1.toList <;> cases h2 : x.2.toList == y.2.toList <;> simp_all
set_option maxHeartbeats 2000000 in
set_option maxRecDepth 100000 in
theorem equal_any (o1 o2 : Option Addr) (c1 c2 : Nat) (xs ys : List Lab) (w : World) (hm : xs.length ≤ maxLen) (hm2 : ys.length ≤ maxLen) (h1 : SeesO w o1 xs) (h2 : SeesO w o2 ys) :
    Calls Tryz.prog 42 #[.slice o1 xs.length c1, .slice o2 ys.length c2] w fun e w' => e = .returned (.bool (sameL xs ys)) ∧ Below w.heap.size w w' := by
  obtain ⟨n, hn⟩ : ∃ n, xs.length = n := ⟨_, rfl⟩
  obtain ⟨m, hm'⟩ : ∃ m, ys.length = m := ⟨_, rfl⟩
  have HN := Lib.hid hn
  have HM := Lib.hid hm'
  rw [hn] at hm ⊢
  rw [hm'] at hm2 ⊢
  clear hn hm'
  unfold maxLen at hm hm2
  by_cases hnm : n = m
  · subst hnm
    have HS1 := Lib.hid h1
    have HS2 := Lib.hid h2
    clear h1 h2
    go_enter Tryz.func42, Tryz.ntmps42
    go_wp2
    go_loopw [5, 13] (fun v5 v13 wr => ∃ k : Nat, v13 = .int .i64 k ∧ k ≤ n ∧ Hid (Below w.heap.size w wr) ∧ Hid (sameL (xs.drop k) (ys.drop k) = sameL xs ys)) (fun _ v13 _ => n - (intOf v13).toNat)
    case atStart => exact ⟨0, rfl, Nat.zero_le _, Below.refl _ _, rfl⟩
    case round =>
      obtain ⟨k, rfl, hk, HB, H⟩ := hrel
      by_cases hkn : k < n
      · have j1 : (k : Int) < n := by omega
        obtain ⟨x, hx⟩ := get_lt HN.out hkn
        obtain ⟨b, off, rfl, hS⟩ := (HS1.out.below (HB.out.mono (Nat.le_refl _))).at hx
        obtain ⟨y, hy⟩ := get_lt HM.out hkn
        obtain ⟨b2, off2, rfl, hS2⟩ := (HS2.out.below (HB.out.mono (Nat.le_refl _))).at hy
        have c0 : ∀ n, (wr.drewN n).cell? ⟨b, off + k * 2, none⟩ = some (.string x.1) := fun _ => hS.at0 k x hx
        have c1 : ∀ n, (wr.drewN n).cell? ⟨b, off + k * 2 + 1, none⟩ = some (.string x.2) := fun _ => hS.at1 k x hx
        have d0 : ∀ n, (wr.drewN n).cell? ⟨b2, off2 + k * 2, none⟩ = some (.string y.1) := fun _ => hS2.at0 k y hy
        have d1 : ∀ n, (wr.drewN n).cell? ⟨b2, off2 + k * 2 + 1, none⟩ = some (.string y.2) := fun _ => hS2.at1 k y hy
        have HX := Lib.hid (drop_at hx)
        have HY := Lib.hid (drop_at hy)
        clear hS hS2 hx hy
        go_wp2_with fail
        have hq : Tryz.prog.eqGuardType Tryz.prog.depth 56 = false := by kernel_rfl
        have hS : Tryz.prog.underlying 56 = some (.struct (Tryz.prog.fieldsOf 56)) := by kernel_rfl
        have hp : Tryz.prog.stoodInHeld 56 = false := by kernel_rfl
        have hr : ∀ w, (Op.equalIn 10000 56 (.agg #[.string x.1, .string x.2]) (.agg #[.string y.1, .string y.2])).run Tryz.prog w = .ok (eqB x y) w := fun w => equalIn38 x y w
        go_quiet (fail)
        clear hq hS hp hr
        have HBq := Lib.hid (show Below w.heap.size w (wr.drewN nq) from HB.out.trans ⟨rfl, rfl, rfl, Nat.le_refl _, fun _ _ => rfl⟩)
        cases he : eqB x y with
        | true =>
          have H2 := Lib.hid (show sameL (xs.drop (k + 1)) (ys.drop (k + 1)) = sameL xs ys by rw [← H.out, HX.out, HY.out, sameL, he, Bool.true_and])
          clear he
          go_wp2
          go_roundw
          case rel => exact ⟨k + 1, by go_num, by omega, HBq, H2⟩
          case measure => simp [intOf]; omega
        | false =>
          have H2 := Lib.hid (show false = sameL xs ys by rw [← H.out, HX.out, HY.out, sameL, he, Bool.false_and])
          clear he
          go_wp2
          go_ret
          exact ⟨ret_bool H2.out, HBq.out⟩
      · have j1 : (n : Int) ≤ k := by omega
        have H2 := Lib.hid (show true = sameL xs ys by
          have e1 : xs.drop k = [] := List.drop_eq_nil_of_le (by rw [HN.out]; omega)
          have e2 : ys.drop k = [] := List.drop_eq_nil_of_le (by rw [HM.out]; omega)
          rw [← H.out, e1, e2, sameL])
        go_wp2
        go_ret
        exact ⟨ret_bool H2.out, HB.out⟩
  · have H2 := Lib.hid (show false = sameL xs ys from (sameL_len xs ys (by rw [HN.out, HM.out]; exact hnm)).symm)
    have t1 : ((n : Int) != (m : Int)) = true := by rw [bne_iff_ne]; omega
    have t2 : ((n : Int) == (m : Int)) = false := by rw [beq_eq_false_iff_ne]; omega
    clear hnm
    go_enter Tryz.func42, Tryz.ntmps42
    go_wp2
    go_ret
    exact ⟨ret_bool H2.out, Below.refl _ _⟩

set_option maxHeartbeats 1000000 in
set_option maxRecDepth 100000 in
theorem same_any (o1 o2 : Option Addr) (c1 c2 : Nat) (xs ys : List Lab) (w : World) (hm : xs.length ≤ maxLen) (hm2 : ys.length ≤ maxLen) (h1 : SeesO w o1 xs) (h2 : SeesO w o2 ys) :
    Calls Tryz.prog 19 #[.slice o1 xs.length c1, .slice o2 ys.length c2] w fun e w' => e = .returned (.bool (sameL xs ys)) ∧ Below w.heap.size w w' := by
  have HC := Lib.hid (equal_any o1 o2 c1 c2 xs ys w hm hm2 h1 h2)
  clear h1 h2 hm hm2
  go_enter Tryz.func19, Tryz.ntmps19
  go_wp2_with (go_at_call 42; refine HC.out.mono ?_; rintro e w' ⟨rfl, hb⟩)
  go_ret
  exact ⟨rfl, hb⟩

set_option maxHeartbeats 2000000 in
set_option maxRecDepth 100000 in
theorem sameLabels_any (o1 o2 : Option Addr) (c1 c2 : Nat) (xs ys : List Lab) (w : World) (hm : xs.length ≤ maxLen) (hm2 : ys.length ≤ maxLen) (h1 : SeesO w o1 xs) (h2 : SeesO w o2 ys) :
    Calls Tryz.prog 13 #[.slice o1 xs.length c1, .slice o2 ys.length c2] w fun e w' => e = .returned (.bool (sameL xs ys)) ∧ Below w.heap.size w w' := by
  obtain ⟨n, hn⟩ : ∃ n, xs.length = n := ⟨_, rfl⟩
  obtain ⟨m, hm'⟩ : ∃ m, ys.length = m := ⟨_, rfl⟩
  have HN := Lib.hid hn
  have HM := Lib.hid hm'
  rw [hn] at hm ⊢
  rw [hm'] at hm2 ⊢
  clear hn hm'
  unfold maxLen at hm hm2
  by_cases hnm : n = m
  · subst hnm
    have HS1 := Lib.hid h1
    have HS2 := Lib.hid h2
    clear h1 h2
    go_enter Tryz.func13, Tryz.ntmps13
    go_wp2
    go_loopw [5] (fun v13 wr => ∃ k : Nat, v13 = .int .i64 k ∧ k ≤ n ∧ Hid (Below w.heap.size w wr) ∧ Hid (sameL (xs.drop k) (ys.drop k) = sameL xs ys)) (fun v13 _ => n - (intOf v13).toNat)
    case atStart => exact ⟨0, rfl, Nat.zero_le _, Below.refl _ _, rfl⟩
    case round =>
      obtain ⟨k, rfl, hk, HB, H⟩ := hrel
      by_cases hkn : k < n
      · have j1 : (k : Int) < n := by omega
        obtain ⟨x, hx⟩ := get_lt HN.out hkn
        obtain ⟨b, off, rfl, hS⟩ := (HS1.out.below (HB.out.mono (Nat.le_refl _))).at hx
        obtain ⟨y, hy⟩ := get_lt HM.out hkn
        obtain ⟨b2, off2, rfl, hS2⟩ := (HS2.out.below (HB.out.mono (Nat.le_refl _))).at hy
        have c0 : ∀ n, (wr.drewN n).cell? ⟨b, off + k * 2, none⟩ = some (.string x.1) := fun _ => hS.at0 k x hx
        have c1 : ∀ n, (wr.drewN n).cell? ⟨b, off + k * 2 + 1, none⟩ = some (.string x.2) := fun _ => hS.at1 k x hx
        have d0 : ∀ n, (wr.drewN n).cell? ⟨b2, off2 + k * 2, none⟩ = some (.string y.1) := fun _ => hS2.at0 k y hy
        have d1 : ∀ n, (wr.drewN n).cell? ⟨b2, off2 + k * 2 + 1, none⟩ = some (.string y.2) := fun _ => hS2.at1 k y hy
        have HX := Lib.hid (drop_at hx)
        have HY := Lib.hid (drop_at hy)
        clear hS hS2 hx hy
        go_wp2_with fail
        have hq : Tryz.prog.eqGuardType Tryz.prog.depth 56 = false := by kernel_rfl
        have hS : Tryz.prog.underlying 56 = some (.struct (Tryz.prog.fieldsOf 56)) := by kernel_rfl
        have hp : Tryz.prog.stoodInHeld 56 = false := by kernel_rfl
        have hr : ∀ w, (Op.equalIn 10000 56 (.agg #[.string x.1, .string x.2]) (.agg #[.string y.1, .string y.2])).run Tryz.prog w = .ok (eqB x y) w := fun w => equalIn38 x y w
        go_quiet (fail)
        clear hq hS hp hr
        have HBq := Lib.hid (show Below w.heap.size w (wr.drewN nq) from HB.out.trans ⟨rfl, rfl, rfl, Nat.le_refl _, fun _ _ => rfl⟩)
        cases he : eqB x y with
        | true =>
          have H2 := Lib.hid (show sameL (xs.drop (k + 1)) (ys.drop (k + 1)) = sameL xs ys by rw [← H.out, HX.out, HY.out, sameL, he, Bool.true_and])
          clear he
          go_wp2
          go_roundw
          case rel => exact ⟨k + 1, by go_num, by omega, HBq, H2⟩
          case measure => simp [intOf]; omega
        | false =>
          have H2 := Lib.hid (show false = sameL xs ys by rw [← H.out, HX.out, HY.out, sameL, he, Bool.false_and])
          clear he
          go_wp2
          go_ret
          exact ⟨ret_bool H2.out, HBq.out⟩
      · have j1 : (n : Int) ≤ k := by omega
        have H2 := Lib.hid (show true = sameL xs ys by
          have e1 : xs.drop k = [] := List.drop_eq_nil_of_le (by rw [HN.out]; omega)
          have e2 : ys.drop k = [] := List.drop_eq_nil_of_le (by rw [HM.out]; omega)
          rw [← H.out, e1, e2, sameL])
        go_wp2
        go_ret
        exact ⟨ret_bool H2.out, HB.out⟩
  · have H2 := Lib.hid (show false = sameL xs ys from (sameL_len xs ys (by rw [HN.out, HM.out]; exact hnm)).symm)
    have t1 : ((n : Int) != (m : Int)) = true := by rw [bne_iff_ne]; omega
    have t2 : ((n : Int) == (m : Int)) = false := by rw [beq_eq_false_iff_ne]; omega
    clear hnm
    go_enter Tryz.func13, Tryz.ntmps13
    go_wp2
    go_ret
    exact ⟨ret_bool H2.out, Below.refl _ _⟩


/-- Are labels few and short enough? -/
def shortB (x : Lab) : Bool := !decide ((200 : Int) < x.1.size) && !decide ((200 : Int) < x.2.size)
def lightB (xs : List Lab) : Bool := (xs.take 30).all shortB && decide ((xs.length : Int) ≤ 20)

set_option maxHeartbeats 2000000 in
set_option maxRecDepth 100000 in
theorem light_any (o : Option Addr) (cap : Nat) (xs : List Lab) (w : World) (hm : xs.length ≤ maxLen) (hS : SeesO w o xs) :
    Calls Tryz.prog 4 #[.slice o xs.length cap] w fun e w' => e = .returned (.bool (lightB xs)) ∧ Below w.heap.size w w' := by
  obtain ⟨n, hn⟩ : ∃ n, xs.length = n := ⟨_, rfl⟩
  have HN := Lib.hid hn
  rw [hn] at hm ⊢
  clear hn
  unfold maxLen at hm
  have HSO := Lib.hid hS
  clear hS
  go_enter Tryz.func4, Tryz.ntmps4
  go_wp2
  go_loopw [3] (fun v3 wr => ∃ k : Nat, v3 = .int .i64 k ∧ k ≤ n ∧ k ≤ 30 ∧ Hid (Below w.heap.size w wr) ∧ Hid ((xs.take k).all shortB = true)) (fun v3 _ => n - (intOf v3).toNat)
  case atStart => exact ⟨0, rfl, Nat.zero_le _, Nat.zero_le _, Below.refl _ _, rfl⟩
  case round =>
    obtain ⟨k, rfl, hk, hk30, HB, H⟩ := hrel
    by_cases hkn : k < n ∧ k < 30
    · obtain ⟨hkn, hk3⟩ := hkn
      have j1 : (k : Int) < n := by omega
      have j2 : (k : Int) < 30 := by omega
      have t1 : decide ((k : Int) < n) = true := by simpa using j1
      have t2 : decide ((k : Int) < 30) = true := by simpa using j2
      obtain ⟨x, hx⟩ := get_lt HN.out hkn
      obtain ⟨b, off, rfl, hS⟩ := (HSO.out.below (HB.out.mono (Nat.le_refl _))).at hx
      have c0 := hS.at0 k x hx
      have c1 := hS.at1 k x hx
      have HX := Lib.hid hx
      clear hS hx
      have hbad : shortB x = false → lightB xs = false := fun h => by
        unfold lightB
        have : (xs.take 30).all shortB = false := by
          rw [List.all_eq_false]
          exact ⟨x, List.mem_of_getElem? (by rw [List.getElem?_take_of_lt hk3]; exact HX.out), by simp [h]⟩
        rw [this, Bool.false_and]
      by_cases h1 : (200 : Int) < x.1.size
      · have H2 := Lib.hid (show false = lightB xs from (hbad (by unfold shortB; simp [h1])).symm)
        have u1 : decide ((200 : Int) < x.1.size) = true := by simpa using h1
        clear hbad
        go_wp2
        go_ret
        exact ⟨ret_bool H2.out, HB.out⟩
      · have u1 : decide ((200 : Int) < x.1.size) = false := by simpa using h1
        have v1 : (x.1.size : Int) ≤ 200 := by omega
        by_cases h2 : (200 : Int) < x.2.size
        · have H2 := Lib.hid (show false = lightB xs from (hbad (by unfold shortB; simp [h2])).symm)
          have u2 : decide ((200 : Int) < x.2.size) = true := by simpa using h2
          clear hbad
          go_wp2
          go_ret
          exact ⟨ret_bool H2.out, HB.out⟩
        · have u2 : decide ((200 : Int) < x.2.size) = false := by simpa using h2
          have v2 : (x.2.size : Int) ≤ 200 := by omega
          have H2 := Lib.hid (show (xs.take (k + 1)).all shortB = true by
            rw [List.take_add_one, HX.out, List.all_append, H.out]
            simp [shortB, h1, h2])
          clear hbad
          go_wp2
          go_roundw
          case rel => exact ⟨k + 1, by go_num, by omega, by omega, HB, H2⟩
          case measure => simp [intOf]; omega
    · have HR := Lib.hid (show decide ((n : Int) ≤ 20) = lightB xs by
        unfold lightB
        rw [HN.out]
        by_cases hn : k = n
        · have : xs.take 30 = xs.take k := by rw [List.take_of_length_le (by rw [HN.out]; omega), List.take_of_length_le (by rw [HN.out]; omega)]
          rw [this, H.out, Bool.true_and]
        · have : decide ((n : Int) ≤ 20) = false := by simp; omega
          rw [this, Bool.and_false])
      have hkk : k = n ∨ (k < n ∧ k = 30) := by omega
      clear hkn
      rcases hkk with rfl | ⟨h1, rfl⟩
      · have t1 : decide ((k : Int) < k) = false := by simp
        go_wp2
        go_ret
        exact ⟨ret_bool HR.out, HB.out⟩
      · have j1 : ((30 : Nat) : Int) < n := by omega
        have t1 : decide ((30 : Int) < n) = true := by simp; omega
        go_wp2
        go_ret
        exact ⟨ret_bool HR.out, HB.out⟩
end Go.Proofs.YtiopnccmhocaaaaGreat
