/- Labels: two labels compared; two lists compared. -/
import Derived.Test.YtiopnccmhocaaaaGreatLb
namespace Go.Proofs.YtiopnccmhocaaaaGreat
open Go.RowKit

def cmpN (x y : Lab) : Int := Lib.compareBytes x.1.data.toList y.1.data.toList
def cmpV (x y : Lab) : Int := Lib.compareBytes x.2.data.toList y.2.data.toList
def cmp2 (x y : Lab) : Int := if cmpN x y = 0 then cmpV x y else cmpN x y
def cmpL : List Lab → List Lab → Int
  | [], [] => 0
  | [], _ :: _ => -1
  | _ :: _, [] => 1
  | x :: xs, y :: ys => if cmp2 x y = 0 then cmpL xs ys else cmp2 x y

open Go.Lib Go.Sort in
set_option maxHeartbeats 1000000 in
set_option maxRecDepth 100000 in
theorem byName_any (x y : Lab) (w : World) :
    Calls Tryz.prog 32 #[.agg #[.string x.1, .string x.2], .agg #[.string y.1, .string y.2]] w fun e w' => e = .returned (.int .i64 (cmpN x y)) ∧ ∃ q os', w' = grow (w.drewN q) os' := by
  have HC := Lib.hid (fun W => show Calls Tryz.prog 33 #[.string x.1, .string y.1] W fun e w' => e = .returned (.int .i64 (cmpN x y)) ∧ w' = W from Tryz.strings_Compare _ _ W)
  go_enter Tryz.func32, Tryz.ntmps32
  go_wp2_with (go_at_call 33; refine (HC.out _).mono ?_; rintro e w' ⟨rfl, rfl⟩)
  go_ret
  exact ⟨rfl, 0, _, by rw [alloc_eq_grow, alloc_eq_grow, grow_grow]; rfl⟩

set_option maxHeartbeats 1000000 in
set_option maxRecDepth 100000 in
theorem two_any (x y : Lab) (w : World) :
    Calls Tryz.prog 41 #[.agg #[.string x.1, .string x.2], .agg #[.string y.1, .string y.2]] w fun e w' => e = .returned (.int .i64 (cmp2 x y)) ∧ Below w.heap.size w w' := by
  have HC := Lib.hid (fun W => show Calls Tryz.prog 33 #[.string x.1, .string y.1] W fun e w' => e = .returned (.int .i64 (cmpN x y)) ∧ w' = W from Tryz.strings_Compare _ _ W)
  have HD := Lib.hid (fun W => show Calls Tryz.prog 33 #[.string x.2, .string y.2] W fun e w' => e = .returned (.int .i64 (cmpV x y)) ∧ w' = W from Tryz.strings_Compare _ _ W)
  by_cases h : cmpN x y = 0
  · have e2 := Lib.hid (show cmpV x y = cmp2 x y by unfold cmp2; rw [if_pos h])
    have t1 : (cmpN x y != 0) = false := by rw [h]; rfl
    clear h
    go_enter Tryz.func41, Tryz.ntmps41
    go_wp2_with fail
    refine (HC.out _).mono ?_
    rintro e w' ⟨rfl, rfl⟩
    go_wp2_with fail
    refine (HD.out _).mono ?_
    rintro e w' ⟨rfl, rfl⟩
    go_wp2
    go_ret
    exact ⟨ret_int e2.out, ((Below.refl _ _).alloc (Nat.le_refl _) _).alloc (by simp) _⟩
  · have e2 := Lib.hid (show cmpN x y = cmp2 x y by unfold cmp2; rw [if_neg h])
    have t1 : (cmpN x y != 0) = true := by rw [bne_iff_ne]; exact h
    clear h
    go_enter Tryz.func41, Tryz.ntmps41
    go_wp2_with fail
    refine (HC.out _).mono ?_
    rintro e w' ⟨rfl, rfl⟩
    go_wp2
    go_ret
    exact ⟨ret_int e2.out, ((Below.refl _ _).alloc (Nat.le_refl _) _).alloc (by simp) _⟩

theorem drop_at {xs : List Lab} {k : Nat} {x : Lab} (h : xs[k]? = some x) : xs.drop k = x :: xs.drop (k + 1) := by
  obtain ⟨hk, e⟩ := List.getElem?_eq_some_iff.1 h
  rw [List.drop_eq_getElem_cons hk, e]

set_option maxHeartbeats 2000000 in
set_option maxRecDepth 100000 in
theorem cmpFunc_any (o1 o2 : Option Addr) (c1 c2 : Nat) (xs ys : List Lab) (w : World) (hm : xs.length ≤ maxLen) (_hm2 : ys.length ≤ maxLen) (h1 : SeesO w o1 xs) (h2 : SeesO w o2 ys) :
    Calls Tryz.prog 40 #[.slice o1 xs.length c1, .slice o2 ys.length c2, .func (.func 41) #[] #[]] w fun e w' => e = .returned (.int .i64 (cmpL xs ys)) ∧ Below w.heap.size w w' := by
  obtain ⟨n, hn⟩ : ∃ n, xs.length = n := ⟨_, rfl⟩
  obtain ⟨m, hm'⟩ : ∃ m, ys.length = m := ⟨_, rfl⟩
  have HN := Lib.hid hn
  have HM := Lib.hid hm'
  rw [hn] at hm ⊢
  rw [hm'] at _hm2 ⊢
  clear hn hm'
  unfold maxLen at hm _hm2
  have HS1 := Lib.hid h1
  have HS2 := Lib.hid h2
  have HC := Lib.hid (fun x y W => two_any x y W)
  clear h1 h2
  go_enter Tryz.func40, Tryz.ntmps40
  go_wp2
  go_loopw [7, 8, 9, 10, 13] (fun v7 v8 v9 v10 v13 wr => ∃ k : Nat, v13 = .int .i64 k ∧ k ≤ n ∧ k ≤ m ∧ Hid (Below w.heap.size w wr) ∧ Hid (cmpL (xs.drop k) (ys.drop k) = cmpL xs ys)) (fun _ _ _ _ v13 _ => n - (intOf v13).toNat)
  case atStart => exact ⟨0, rfl, Nat.zero_le _, Nat.zero_le _, Below.refl _ _, rfl⟩
  case round =>
    obtain ⟨k, rfl, hk, hk2, HB, H⟩ := hrel
    by_cases hkn : k < n
    · have j1 : (k : Int) < n := by omega
      obtain ⟨x, hx⟩ := get_lt HN.out hkn
      obtain ⟨b, off, rfl, hS⟩ := (HS1.out.below (HB.out.mono (Nat.le_refl _))).at hx
      have c0 := hS.at0 k x hx
      have c1 := hS.at1 k x hx
      have hl := hS.low
      have HL := Lib.hid hl
      have HX := Lib.hid hx
      by_cases hkm : k < m
      · have j2 : (k : Int) < m := by omega
        obtain ⟨y, hy⟩ := get_lt HM.out hkm
        obtain ⟨b2, off2, rfl, hS2⟩ := (HS2.out.below (HB.out.mono (Nat.le_refl _))).at hy
        have d0 := hS2.at0 k y hy
        have d1 := hS2.at1 k y hy
        have d2 := hS2.low
        have HY := Lib.hid hy
        have t1 : decide ((m : Int) ≤ k) = false := by simp; omega
        clear hS hS2 hx hy hl
        have hdr := Lib.hid (show xs.drop k = x :: xs.drop (k + 1) ∧ ys.drop k = y :: ys.drop (k + 1) from ⟨drop_at HX.out, drop_at HY.out⟩)
        go_wp2_with fail
        refine (HC.out _ _ _).mono ?_
        rintro e wq ⟨rfl, bq⟩
        have HBq := Lib.hid (show Below w.heap.size w wq from ((HB.out.alloc (by have := HB.out.size; omega) _).alloc (by have := HB.out.size; simp; omega) _).trans (bq.mono (by have := HB.out.size; simp; omega)))
        clear bq
        by_cases hc : cmp2 x y = 0
        · have H2 := Lib.hid (show cmpL (xs.drop (k + 1)) (ys.drop (k + 1)) = cmpL xs ys by
            rw [← H.out, hdr.out.1, hdr.out.2, cmpL, if_pos hc])
          have t2 : (cmp2 x y != 0) = false := by rw [hc]; rfl
          clear hc
          generalize cmp2 x y = c at t2
          go_wp2
          go_roundw
          case rel => exact ⟨k + 1, by go_num, by omega, by omega, HBq, H2⟩
          case measure => simp [intOf]; omega
        · have H2 := Lib.hid (show cmp2 x y = cmpL xs ys by
            rw [← H.out, hdr.out.1, hdr.out.2, cmpL, if_neg hc])
          have t2 : (cmp2 x y != 0) = true := by rw [bne_iff_ne]; exact hc
          clear hc
          obtain ⟨c, hc⟩ : ∃ c, cmp2 x y = c := ⟨_, rfl⟩
          rw [hc] at H2 t2 ⊢
          clear hc
          go_wp2
          go_ret
          exact ⟨ret_int H2.out, HBq.out⟩
      · have t1 : decide ((m : Int) ≤ k) = true := by simp; omega
        have j3 : (m : Int) ≤ k := by omega
        have H2 := Lib.hid (show (1 : Int) = cmpL xs ys by
          have e1 : ys.drop k = [] := List.drop_eq_nil_of_le (by rw [HM.out]; omega)
          rw [← H.out, drop_at HX.out, e1, cmpL])
        have HBq := Lib.hid (show Below w.heap.size w (wr.alloc (Obj.cells #[Value.string x.1, Value.string x.2] 56)) from HB.out.alloc (by have := HB.out.size; omega) _)
        clear hS hx hl
        go_wp2
        go_ret
        exact ⟨ret_int H2.out, HBq.out⟩
    · have j1 : (n : Int) ≤ k := by omega
      have hkn2 : k = n := by omega
      by_cases hnm : n < m
      · have j2 : (n : Int) < m := by omega
        have H2 := Lib.hid (show (-1 : Int) = cmpL xs ys by
          rw [← H.out, List.drop_eq_nil_of_le (by rw [HN.out]; omega)]
          obtain ⟨y, hy⟩ := get_lt HM.out (show k < m by omega)
          rw [drop_at hy, cmpL])
        clear hkn2
        go_wp2
        go_ret
        exact ⟨ret_int H2.out, HB.out⟩
      · have j2 : (m : Int) ≤ n := by omega
        have H2 := Lib.hid (show (0 : Int) = cmpL xs ys by
          rw [← H.out, List.drop_eq_nil_of_le (by rw [HN.out]; omega), List.drop_eq_nil_of_le (by rw [HM.out]; omega), cmpL])
        clear hkn2
        go_wp2
        go_ret
        exact ⟨ret_int H2.out, HB.out⟩

set_option maxHeartbeats 1000000 in
set_option maxRecDepth 100000 in
theorem compare_any (o1 o2 : Option Addr) (c1 c2 : Nat) (xs ys : List Lab) (w : World) (hm : xs.length ≤ maxLen) (hm2 : ys.length ≤ maxLen) (h1 : SeesO w o1 xs) (h2 : SeesO w o2 ys) :
    Calls Tryz.prog 18 #[.slice o1 xs.length c1, .slice o2 ys.length c2] w fun e w' => e = .returned (.int .i64 (cmpL xs ys)) ∧ Below w.heap.size w w' := by
  have HC := Lib.hid (cmpFunc_any o1 o2 c1 c2 xs ys w hm hm2 h1 h2)
  clear h1 h2 hm hm2
  go_enter Tryz.func18, Tryz.ntmps18
  go_wp2_with (go_at_call 40; refine HC.out.mono ?_; rintro e w' ⟨rfl, hb⟩)
  go_ret
  exact ⟨rfl, hb⟩
end Go.Proofs.YtiopnccmhocaaaaGreat
