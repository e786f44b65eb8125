import Derived.Test.YtlnlbahggbbaeaaGreatGa
import Derived.Test.YtlnlbahggbbaeaaGreatShelf
import Derived.Deep.RegionWith
import Derived.Deep.RegionHeld3
import Derived.Deep.QuietTactic
import Derived.BigQuiet
import Derived.Laws.Cover1
import Derived.Laws.StructEq
import Derived.Sort.Walk0
section
/- Labels: a clone, and whether a label may be. -/

namespace Go.Proofs.YtlnlbahggbbaeaaGreat
open Go.RowKit

set_option maxHeartbeats 1000000 in
set_option maxRecDepth 100000 in
theorem clone_any (s : ByteArray) (w : World) (hs : s.size ≤ 281474976710656) :
    Calls Tryz.prog 102 #[.string s] w fun e w' => e = .returned (.string s) ∧ Below w.heap.size w w' := by
  go_enter Tryz.func102, Tryz.ntmps102
  go_wp2_with (go_at_call 106; refine (Tryz.stringslite_Clone _ _ hs).mono ?_; rintro e w1 ⟨rfl, b1⟩)
  go_ret
  exact ⟨rfl, b1⟩

/-- Two blocks of a label each: what was handed in; what is made. -/
def Two (k : Nat) (a b : ByteArray) (w W : World) : Prop := W.heap[k]? = some (.cells #[.string a, .string b] 99 (0, 0)) ∧ W.heap[k + 1]? = some (.cells #[.string ⟨#[]⟩, .string ⟨#[]⟩] 99 (0, 0)) ∧ Below k w W
theorem Two.below {k : Nat} {a b : ByteArray} {w W W' : World} (h : Two k a b w W) (hb : Below W.heap.size W W') : Two k a b w W' := by
  have h1 := (Array.getElem?_eq_some_iff.1 h.1).1
  exact ⟨(hb.block _ h1).trans h.1, (hb.block _ (Array.getElem?_eq_some_iff.1 h.2.1).1).trans h.2.1, h.2.2.trans (hb.mono (by omega))⟩
theorem Two.reads {k : Nat} {a b : ByteArray} {w W : World} (h : Two k a b w W) : W.cell? ⟨k, 0, none⟩ = some (.string a) ∧ W.cell? ⟨k, 1, none⟩ = some (.string b) ∧ W.cell? ⟨k + 1, 0, none⟩ = some (.string ⟨#[]⟩) ∧ W.cell? ⟨k + 1, 1, none⟩ = some (.string ⟨#[]⟩) ∧ W.frozen? ⟨k + 1, 0, none⟩ = false ∧ W.frozen? ⟨k + 1, 1, none⟩ = false := by
  obtain ⟨h1, h2, _⟩ := h
  refine ⟨?_, ?_, ?_, ?_, ?_, ?_⟩ <;> simp [World.cell?, World.frozen?, h1, h2]

set_option maxHeartbeats 2000000 in
set_option maxRecDepth 100000 in
theorem cloneL_any (a b : ByteArray) (w : World) (ha : a.size ≤ 281474976710656) (hb : b.size ≤ 281474976710656) :
    Calls Tryz.prog 97 #[.agg #[.string a, .string b]] w fun e w' => e = .returned (.agg #[.string a, .string b]) ∧ Below w.heap.size w w' := by
  have HA := Lib.hid ha
  have HB := Lib.hid hb
  clear ha hb
  have HC := Lib.hid (fun (c : ByteArray) (hc : c.size ≤ 281474976710656) (W : World) (hW : Hid (Two w.heap.size a b w W)) => (clone_any c W hc).mono (fun e w' h => show e = .returned (.string c) ∧ w'.cell? ⟨w.heap.size, 0, none⟩ = some (.string a) ∧ w'.cell? ⟨w.heap.size, 1, none⟩ = some (.string b) ∧ w'.cell? ⟨w.heap.size + 1, 0, none⟩ = some (.string ⟨#[]⟩) ∧ w'.cell? ⟨w.heap.size + 1, 1, none⟩ = some (.string ⟨#[]⟩) ∧ w'.frozen? ⟨w.heap.size + 1, 0, none⟩ = false ∧ w'.frozen? ⟨w.heap.size + 1, 1, none⟩ = false ∧ Hid (Two w.heap.size a b w w') from
    have h2 := hW.out.below h.2
    have h3 := h2.reads
    ⟨h.1, h3.1, h3.2.1, h3.2.2.1, h3.2.2.2.1, h3.2.2.2.2.1, h3.2.2.2.2.2, h2⟩))
  go_enter Tryz.func97, Tryz.ntmps97
  go_wp2_with fail
  obtain ⟨W, hW⟩ : ∃ W, (w.alloc (Obj.cells #[Value.string a, Value.string b] 99)).alloc (Obj.cells #[Value.string ⟨#[]⟩, Value.string ⟨#[]⟩] 99) = W := ⟨_, rfl⟩
  have h2 : Two w.heap.size a b w W := by
    subst hW
    refine ⟨?_, ?_, ((Below.refl _ _).alloc (Nat.le_refl _) _).alloc (by simp) _⟩
    · rw [Below.heap_alloc _ _ _ (by rw [World.size_alloc]; omega)]; exact Array.getElem?_push_size
    · have e : (w.alloc (Obj.cells #[Value.string a, Value.string b] 99)).heap.size = w.heap.size + 1 := World.size_alloc _ _
      rw [← e]; exact Array.getElem?_push_size
  rw [hW]
  obtain ⟨r1, r2, r3, r4, r5, r6⟩ := h2.reads
  have H2 := Lib.hid (show Two w.heap.size a b w W.drew from ⟨h2.1, h2.2.1, h2.2.2.drew⟩)
  clear h2 hW
  go_region_with (go_at_call 102; refine (HC.out _ (by first | exact HA.out | exact HB.out) _ (by first | exact s7 | exact H2)).mono ?_; rintro e wq ⟨rfl, s1, s2, s3, s4, s5, s6, s7⟩)
  all_goals
    have hB := s7.out.2.2
    clear HC H2 r1 r2 r3 r4 r5 r6
    go_wp2
    exact bodyPost_ret (v := .agg #[.string a, .string b]) (by simp [results, Tryz.results97, go_sem, s3, s4]) rfl ⟨rfl, (hB.setCell (by simp) _).setCell (by simp) _⟩

/-- Whether a label may be. -/
def fitsB (a b : ByteArray) : Bool := nameB a.data.toList && (!b.toList.isEmpty && decide ((b.size : Int) ≤ 60))

end Go.Proofs.YtlnlbahggbbaeaaGreat
end

section
/- Labels: lists that are read; whether labels are tidy. -/

namespace Go.Proofs.YtlnlbahggbbaeaaGreat
open Go.RowKit

/-- A label: its name, its value. -/
abbrev Lab := ByteArray × ByteArray
/-- Cells that read as these labels. -/
structure Sees (w : World) (b off : Nat) (xs : List Lab) : Prop where
  low : b < w.heap.size
  at0 : ∀ (j : Nat) (x : Lab), xs[j]? = some x → w.cell? ⟨b, off + j * 2, none⟩ = some (.string x.1)
  at1 : ∀ (j : Nat) (x : Lab), xs[j]? = some x → w.cell? ⟨b, off + j * 2 + 1, none⟩ = some (.string x.2)
/-- A slice that reads as these labels. -/
def SeesO (w : World) (o : Option Addr) (xs : List Lab) : Prop := xs = [] ∨ ∃ b off, o = some ⟨b, off, none⟩ ∧ Sees w b off xs
theorem Sees.below {w w' : World} {b off : Nat} {xs : List Lab} (h : Sees w b off xs) (hb : Below w.heap.size w w') : Sees w' b off xs :=
  ⟨Nat.lt_of_lt_of_le h.low hb.size, fun j x hx => (hb.cell (p := ⟨b, off + j * 2, none⟩) h.low).trans (h.at0 j x hx), fun j x hx => (hb.cell (p := ⟨b, off + j * 2 + 1, none⟩) h.low).trans (h.at1 j x hx)⟩
theorem SeesO.below {w w' : World} {o : Option Addr} {xs : List Lab} (h : SeesO w o xs) (hb : Below w.heap.size w w') : SeesO w' o xs :=
  h.imp id fun ⟨b, off, e, hs⟩ => ⟨b, off, e, hs.below hb⟩
theorem SeesO.at {w : World} {o : Option Addr} {xs : List Lab} (h : SeesO w o xs) {k : Nat} {x : Lab} (hx : xs[k]? = some x) : ∃ b off, o = some ⟨b, off, none⟩ ∧ Sees w b off xs := by
  rcases h with rfl | h
  · simp at hx
  · exact h
theorem get_lt {xs : List Lab} {n k : Nat} (hn : xs.length = n) (hk : k < n) : ∃ x, xs[k]? = some x := ⟨xs[k]'(by omega), List.getElem?_eq_getElem _⟩

/-- The names rise, and each label may be. -/
def risesB : Option ByteArray → List Lab → Bool
  | _, [] => true
  | none, x :: xs => fitsB x.1 x.2 && risesB (some x.1) xs
  | some n, x :: xs => (fitsB x.1 x.2 && Op.bytesLess n.toList x.1.toList) && risesB (some x.1) xs
def rightB (xs : List Lab) : Bool := decide (xs.length ≤ 8) && risesB none xs

end Go.Proofs.YtlnlbahggbbaeaaGreat
end

section
/- Labels: two labels compared; two lists compared. -/

namespace Go.Proofs.YtlnlbahggbbaeaaGreat
open Go.RowKit

def cmpN (x y : Lab) : Int := Lib.compareBytes x.1.data.toList y.1.data.toList
def cmpV (x y : Lab) : Int := Lib.compareBytes x.2.data.toList y.2.data.toList
def cmp2 (x y : Lab) : Int := if cmpN x y = 0 then cmpV x y else cmpN x y
def cmpL : List Lab → List Lab → Int
  | [], [] => 0
  | [], _ :: _ => -1
  | _ :: _, [] => 1
  | x :: xs, y :: ys => if cmp2 x y = 0 then cmpL xs ys else cmp2 x y

set_option maxHeartbeats 1000000 in
set_option maxRecDepth 100000 in
theorem two_any (x y : Lab) (w : World) :
    Calls Tryz.prog 105 #[.agg #[.string x.1, .string x.2], .agg #[.string y.1, .string y.2]] w fun e w' => e = .returned (.int .i64 (cmp2 x y)) ∧ Below w.heap.size w w' := by
  have HC := Lib.hid (fun W => show Calls Tryz.prog 107 #[.string x.1, .string y.1] W fun e w' => e = .returned (.int .i64 (cmpN x y)) ∧ w' = W from Tryz.strings_Compare _ _ W)
  have HD := Lib.hid (fun W => show Calls Tryz.prog 107 #[.string x.2, .string y.2] W fun e w' => e = .returned (.int .i64 (cmpV x y)) ∧ w' = W from Tryz.strings_Compare _ _ W)
  by_cases h : cmpN x y = 0
  · have e2 := Lib.hid (show cmpV x y = cmp2 x y by unfold cmp2; rw [if_pos h])
    have t1 : (cmpN x y != 0) = false := by rw [h]; rfl
    clear h
    go_enter Tryz.func105, Tryz.ntmps105
    go_wp2_with fail
    refine (HC.out _).mono ?_
    rintro e w' ⟨rfl, rfl⟩
    go_wp2_with fail
    refine (HD.out _).mono ?_
    rintro e w' ⟨rfl, rfl⟩
    go_wp2
    go_ret
    exact ⟨ret_int e2.out, ((Below.refl _ _).alloc (Nat.le_refl _) _).alloc (by simp) _⟩
  · have e2 := Lib.hid (show cmpN x y = cmp2 x y by unfold cmp2; rw [if_neg h])
    have t1 : (cmpN x y != 0) = true := by rw [bne_iff_ne]; exact h
    clear h
    go_enter Tryz.func105, Tryz.ntmps105
    go_wp2_with fail
    refine (HC.out _).mono ?_
    rintro e w' ⟨rfl, rfl⟩
    go_wp2
    go_ret
    exact ⟨ret_int e2.out, ((Below.refl _ _).alloc (Nat.le_refl _) _).alloc (by simp) _⟩

theorem drop_at {xs : List Lab} {k : Nat} {x : Lab} (h : xs[k]? = some x) : xs.drop k = x :: xs.drop (k + 1) := by
  obtain ⟨hk, e⟩ := List.getElem?_eq_some_iff.1 h
  rw [List.drop_eq_getElem_cons hk, e]

set_option maxHeartbeats 2000000 in
set_option maxRecDepth 100000 in
theorem cmpFunc_any (o1 o2 : Option Addr) (c1 c2 : Nat) (xs ys : List Lab) (w : World) (hm : xs.length ≤ maxLen) (_hm2 : ys.length ≤ maxLen) (h1 : SeesO w o1 xs) (h2 : SeesO w o2 ys) :
    Calls Tryz.prog 104 #[.slice o1 xs.length c1, .slice o2 ys.length c2, .func (.func 105) #[] #[]] w fun e w' => e = .returned (.int .i64 (cmpL xs ys)) ∧ Below w.heap.size w w' := by
  obtain ⟨n, hn⟩ : ∃ n, xs.length = n := ⟨_, rfl⟩
  obtain ⟨m, hm'⟩ : ∃ m, ys.length = m := ⟨_, rfl⟩
  have HN := Lib.hid hn
  have HM := Lib.hid hm'
  rw [hn] at hm ⊢
  rw [hm'] at _hm2 ⊢
  clear hn hm'
  unfold maxLen at hm _hm2
  have HS1 := Lib.hid h1
  have HS2 := Lib.hid h2
  have HC := Lib.hid (fun x y W => two_any x y W)
  clear h1 h2
  go_enter Tryz.func104, Tryz.ntmps104
  go_wp2
  go_loopw [7, 8, 9, 10, 13] (fun v7 v8 v9 v10 v13 wr => ∃ k : Nat, v13 = .int .i64 k ∧ k ≤ n ∧ k ≤ m ∧ Hid (Below w.heap.size w wr) ∧ Hid (cmpL (xs.drop k) (ys.drop k) = cmpL xs ys)) (fun _ _ _ _ v13 _ => n - (Go.RowKit.intOf v13).toNat)
  case atStart => exact ⟨0, rfl, Nat.zero_le _, Nat.zero_le _, Below.refl _ _, rfl⟩
  case round =>
    obtain ⟨k, rfl, hk, hk2, HB, H⟩ := hrel
    by_cases hkn : k < n
    · have j1 : (k : Int) < n := by omega
      obtain ⟨x, hx⟩ := get_lt HN.out hkn
      obtain ⟨b, off, rfl, hS⟩ := (HS1.out.below (HB.out.mono (Nat.le_refl _))).at hx
      have c0 := hS.at0 k x hx
      have c1 := hS.at1 k x hx
      have hl := hS.low
      have HL := Lib.hid hl
      have HX := Lib.hid hx
      by_cases hkm : k < m
      · have j2 : (k : Int) < m := by omega
        obtain ⟨y, hy⟩ := get_lt HM.out hkm
        obtain ⟨b2, off2, rfl, hS2⟩ := (HS2.out.below (HB.out.mono (Nat.le_refl _))).at hy
        have d0 := hS2.at0 k y hy
        have d1 := hS2.at1 k y hy
        have d2 := hS2.low
        have HY := Lib.hid hy
        have t1 : decide ((m : Int) ≤ k) = false := by simp; omega
        clear hS hS2 hx hy hl
        have hdr := Lib.hid (show xs.drop k = x :: xs.drop (k + 1) ∧ ys.drop k = y :: ys.drop (k + 1) from ⟨drop_at HX.out, drop_at HY.out⟩)
        go_wp2_with fail
        refine (HC.out _ _ _).mono ?_
        rintro e wq ⟨rfl, bq⟩
        have HBq := Lib.hid (show Below w.heap.size w wq from ((HB.out.alloc (by have := HB.out.size; omega) _).alloc (by have := HB.out.size; simp; omega) _).trans (bq.mono (by have := HB.out.size; simp; omega)))
        clear bq
        by_cases hc : cmp2 x y = 0
        · have H2 := Lib.hid (show cmpL (xs.drop (k + 1)) (ys.drop (k + 1)) = cmpL xs ys by
            rw [← H.out, hdr.out.1, hdr.out.2, cmpL, if_pos hc])
          have t2 : (cmp2 x y != 0) = false := by rw [hc]; rfl
          clear hc
          generalize cmp2 x y = c at t2
          go_wp2
          go_roundw
          case rel => exact ⟨k + 1, by go_num, by omega, by omega, HBq, H2⟩
          case measure => simp [Go.RowKit.intOf]; omega
        · have H2 := Lib.hid (show cmp2 x y = cmpL xs ys by
            rw [← H.out, hdr.out.1, hdr.out.2, cmpL, if_neg hc])
          have t2 : (cmp2 x y != 0) = true := by rw [bne_iff_ne]; exact hc
          clear hc
          obtain ⟨c, hc⟩ : ∃ c, cmp2 x y = c := ⟨_, rfl⟩
          rw [hc] at H2 t2 ⊢
          clear hc
          go_wp2
          go_ret
          exact ⟨ret_int H2.out, HBq.out⟩
      · have t1 : decide ((m : Int) ≤ k) = true := by simp; omega
        have j3 : (m : Int) ≤ k := by omega
        have H2 := Lib.hid (show (1 : Int) = cmpL xs ys by
          have e1 : ys.drop k = [] := List.drop_eq_nil_of_le (by rw [HM.out]; omega)
          rw [← H.out, drop_at HX.out, e1, cmpL])
        have HBq := Lib.hid (show Below w.heap.size w (wr.alloc (Obj.cells #[Value.string x.1, Value.string x.2] 99)) from HB.out.alloc (by have := HB.out.size; omega) _)
        clear hS hx hl
        go_wp2
        go_ret
        exact ⟨ret_int H2.out, HBq.out⟩
    · have j1 : (n : Int) ≤ k := by omega
      have hkn2 : k = n := by omega
      by_cases hnm : n < m
      · have j2 : (n : Int) < m := by omega
        have H2 := Lib.hid (show (-1 : Int) = cmpL xs ys by
          rw [← H.out, List.drop_eq_nil_of_le (by rw [HN.out]; omega)]
          obtain ⟨y, hy⟩ := get_lt HM.out (show k < m by omega)
          rw [drop_at hy, cmpL])
        clear hkn2
        go_wp2
        go_ret
        exact ⟨ret_int H2.out, HB.out⟩
      · have j2 : (m : Int) ≤ n := by omega
        have H2 := Lib.hid (show (0 : Int) = cmpL xs ys by
          rw [← H.out, List.drop_eq_nil_of_le (by rw [HN.out]; omega), List.drop_eq_nil_of_le (by rw [HM.out]; omega), cmpL])
        clear hkn2
        go_wp2
        go_ret
        exact ⟨ret_int H2.out, HB.out⟩

set_option maxHeartbeats 1000000 in
set_option maxRecDepth 100000 in
theorem compare_any (o1 o2 : Option Addr) (c1 c2 : Nat) (xs ys : List Lab) (w : World) (hm : xs.length ≤ maxLen) (hm2 : ys.length ≤ maxLen) (h1 : SeesO w o1 xs) (h2 : SeesO w o2 ys) :
    Calls Tryz.prog 100 #[.slice o1 xs.length c1, .slice o2 ys.length c2] w fun e w' => e = .returned (.int .i64 (cmpL xs ys)) ∧ Below w.heap.size w w' := by
  have HC := Lib.hid (cmpFunc_any o1 o2 c1 c2 xs ys w hm hm2 h1 h2)
  clear h1 h2 hm hm2
  go_enter Tryz.func100, Tryz.ntmps100
  go_wp2_with (go_at_call 104; refine HC.out.mono ?_; rintro e w' ⟨rfl, hb⟩)
  go_ret
  exact ⟨rfl, hb⟩
end Go.Proofs.YtlnlbahggbbaeaaGreat
end

section
/- Labels: the value of a name; are two lists alike; are they few and short. -/

namespace Go.Proofs.YtlnlbahggbbaeaaGreat
open Go.RowKit

/-- Are two lists of labels alike? -/
def eqB (x y : Lab) : Bool := x.1.toList == y.1.toList && x.2.toList == y.2.toList
def sameL : List Lab → List Lab → Bool
  | [], [] => true
  | x :: xs, y :: ys => eqB x y && sameL xs ys
  | _, _ => false
theorem sameL_len : ∀ (xs ys : List Lab), xs.length ≠ ys.length → sameL xs ys = false
  | [], [], h => absurd rfl h
  | [], _ :: _, _ => rfl
  | _ :: _, [], _ => rfl
  | x :: xs, y :: ys, h => by rw [sameL, sameL_len xs ys (by simpa using h), Bool.and_false]

theorem equalIn38 (x y : Lab) (w : World) : (Op.equalIn 10000 99 (.agg #[.string x.1, .string x.2]) (.agg #[.string y.1, .string y.2])).run Tryz.prog w = .ok (eqB x y) w := by
  have u9 := Tryz.underlying9
  have a9 := Tryz.isAgg9
  have z9 := Tryz.sizeOf9
  have hS : Tryz.prog.underlying 99 = some (.struct (Tryz.prog.fieldsOf 99)) := by kernel_rfl
  have hp : Tryz.prog.stoodInHeld 99 = false := by kernel_rfl
  rw [show (10000 : Nat) = 9999 + 1 from rfl, run_equalIn_agg w 9999 99 _ _ hS hp]
  simp only [Program.fieldsOf, Tryz.underlying99]
  go_simp
  unfold eqB
  cases h1 : x.1.toList == y.1.toList <;> cases h2 : x.2.toList == y.2.toList <;> simp_all

/-- Are labels few and short enough? -/
def shortB (x : Lab) : Bool := !decide ((200 : Int) < x.1.size) && !decide ((200 : Int) < x.2.size)
def lightB (xs : List Lab) : Bool := (xs.take 30).all shortB && decide ((xs.length : Int) ≤ 20)

set_option maxHeartbeats 2000000 in
set_option maxRecDepth 100000 in
theorem light_any (o : Option Addr) (cap : Nat) (xs : List Lab) (w : World) (hm : xs.length ≤ maxLen) (hS : SeesO w o xs) :
    Calls Tryz.prog 68 #[.slice o xs.length cap] w fun e w' => e = .returned (.bool (lightB xs)) ∧ Below w.heap.size w w' := by
  obtain ⟨n, hn⟩ : ∃ n, xs.length = n := ⟨_, rfl⟩
  have HN := Lib.hid hn
  rw [hn] at hm ⊢
  clear hn
  unfold maxLen at hm
  have HSO := Lib.hid hS
  clear hS
  go_enter Tryz.func68, Tryz.ntmps68
  go_wp2
  go_loopw [3] (fun v3 wr => ∃ k : Nat, v3 = .int .i64 k ∧ k ≤ n ∧ k ≤ 30 ∧ Hid (Below w.heap.size w wr) ∧ Hid ((xs.take k).all shortB = true)) (fun v3 _ => n - (Go.RowKit.intOf v3).toNat)
  case atStart => exact ⟨0, rfl, Nat.zero_le _, Nat.zero_le _, Below.refl _ _, rfl⟩
  case round =>
    obtain ⟨k, rfl, hk, hk30, HB, H⟩ := hrel
    by_cases hkn : k < n ∧ k < 30
    · obtain ⟨hkn, hk3⟩ := hkn
      have j1 : (k : Int) < n := by omega
      have j2 : (k : Int) < 30 := by omega
      have t1 : decide ((k : Int) < n) = true := by simpa using j1
      have t2 : decide ((k : Int) < 30) = true := by simpa using j2
      obtain ⟨x, hx⟩ := get_lt HN.out hkn
      obtain ⟨b, off, rfl, hS⟩ := (HSO.out.below (HB.out.mono (Nat.le_refl _))).at hx
      have c0 := hS.at0 k x hx
      have c1 := hS.at1 k x hx
      have HX := Lib.hid hx
      clear hS hx
      have hbad : shortB x = false → lightB xs = false := fun h => by
        unfold lightB
        have : (xs.take 30).all shortB = false := by
          rw [List.all_eq_false]
          exact ⟨x, List.mem_of_getElem? (by rw [List.getElem?_take_of_lt hk3]; exact HX.out), by simp [h]⟩
        rw [this, Bool.false_and]
      by_cases h1 : (200 : Int) < x.1.size
      · have H2 := Lib.hid (show false = lightB xs from (hbad (by unfold shortB; simp [h1])).symm)
        have u1 : decide ((200 : Int) < x.1.size) = true := by simpa using h1
        clear hbad
        go_wp2
        go_ret
        exact ⟨ret_bool H2.out, HB.out⟩
      · have u1 : decide ((200 : Int) < x.1.size) = false := by simpa using h1
        have v1 : (x.1.size : Int) ≤ 200 := by omega
        by_cases h2 : (200 : Int) < x.2.size
        · have H2 := Lib.hid (show false = lightB xs from (hbad (by unfold shortB; simp [h2])).symm)
          have u2 : decide ((200 : Int) < x.2.size) = true := by simpa using h2
          clear hbad
          go_wp2
          go_ret
          exact ⟨ret_bool H2.out, HB.out⟩
        · have u2 : decide ((200 : Int) < x.2.size) = false := by simpa using h2
          have v2 : (x.2.size : Int) ≤ 200 := by omega
          have H2 := Lib.hid (show (xs.take (k + 1)).all shortB = true by
            rw [List.take_add_one, HX.out, List.all_append, H.out]
            simp [shortB, h1, h2])
          clear hbad
          go_wp2
          go_roundw
          case rel => exact ⟨k + 1, by go_num, by omega, by omega, HB, H2⟩
          case measure => simp [Go.RowKit.intOf]; omega
    · have HR := Lib.hid (show decide ((n : Int) ≤ 20) = lightB xs by
        unfold lightB
        rw [HN.out]
        by_cases hn : k = n
        · have : xs.take 30 = xs.take k := by rw [List.take_of_length_le (by rw [HN.out]; omega), List.take_of_length_le (by rw [HN.out]; omega)]
          rw [this, H.out, Bool.true_and]
        · have : decide ((n : Int) ≤ 20) = false := by simp; omega
          rw [this, Bool.and_false])
      have hkk : k = n ∨ (k < n ∧ k = 30) := by omega
      clear hkn
      rcases hkk with rfl | ⟨h1, rfl⟩
      · have t1 : decide ((k : Int) < k) = false := by simp
        go_wp2
        go_ret
        exact ⟨ret_bool HR.out, HB.out⟩
      · have j1 : ((30 : Nat) : Int) < n := by omega
        have t1 : decide ((30 : Int) < n) = true := by simp; omega
        go_wp2
        go_ret
        exact ⟨ret_bool HR.out, HB.out⟩
end Go.Proofs.YtlnlbahggbbaeaaGreat
end

section
/- Labels: the order of lists of labels, plain. -/

namespace Go.Proofs.YtlnlbahggbbaeaaGreat
open Go.RowKit Go.Lib Go.Sort

theorem cmpB_spec : ∀ (a b : List UInt8), (compareBytes a b < 0 ↔ a < b) ∧ (compareBytes a b = 0 ↔ a = b) ∧ (0 < compareBytes a b ↔ b < a)
  | [], [] => by simp [compareBytes]
  | [], d :: ds => by simp [compareBytes]
  | c :: cs, [] => by simp [compareBytes]
  | a :: at_, b :: bs => by
    obtain ⟨h1, h2, h3⟩ := cmpB_spec at_ bs
    simp only [compareBytes, List.cons_lt_cons_iff, List.cons.injEq]
    by_cases hab : a < b
    · have n1 : ¬ a = b := fun e => by subst e; exact absurd hab (UInt8.lt_irrefl a)
      have n2 : ¬ b < a := fun e => absurd (UInt8.lt_trans hab e) (UInt8.lt_irrefl a)
      have n3 : ¬ b = a := fun e => n1 e.symm
      simp [hab, n1, n2, n3]
    · by_cases hba : b < a
      · have n1 : ¬ a = b := fun e => by subst e; exact absurd hba (UInt8.lt_irrefl a)
        have n3 : ¬ b = a := fun e => n1 e.symm
        simp [hab, hba, n1, n3]
      · have e : a = b := UInt8.le_antisymm (UInt8.not_lt.1 hba) (UInt8.not_lt.1 hab)
        subst e
        simp [UInt8.lt_irrefl, h1, h2, h3]
theorem cmpB_swap (a b : List UInt8) : compareBytes b a = -compareBytes a b := by
  induction a generalizing b with
  | nil => cases b <;> simp [compareBytes]
  | cons x xs ih =>
    cases b with
    | nil => simp [compareBytes]
    | cons y ys =>
      simp only [compareBytes]
      by_cases h1 : x < y
      · have n2 : ¬ y < x := fun e => absurd (UInt8.lt_trans h1 e) (UInt8.lt_irrefl x)
        simp [h1, n2]
      · by_cases h2 : y < x
        · simp [h1, h2]
        · simp [h1, h2, ih]
theorem lt_asymm' {a b : List UInt8} (h : a < b) : ¬ b < a := by
  intro h2
  have h1 := (cmpB_spec a b).1.2 h
  have h3 := (cmpB_spec a b).2.2.2 h2
  omega
theorem lt_trans' {a b c : List UInt8} (h : a < b) (h2 : b < c) : a < c := List.lt_trans h h2
theorem lt_of_not {a b : List UInt8} (h : ¬ a < b) (hne : a ≠ b) : b < a := by
  obtain ⟨h1, h2, h3⟩ := cmpB_spec a b
  rw [← h1] at h
  rw [← h3]
  have : compareBytes a b ≠ 0 := fun e => hne (h2.1 e)
  omega
theorem bytes_ext {a b : ByteArray} (h : a.data.toList = b.data.toList) : a = b := by
  cases a; cases b; congr 1; exact Array.ext' h
theorem toList_inj {a b : ByteArray} : a.toList = b.toList ↔ a = b := by
  rw [ByteArray.toList_eq, ByteArray.toList_eq]; exact ⟨bytes_ext, fun h => by rw [h]⟩
theorem sameL_iff : ∀ (xs ys : List Lab), sameL xs ys = true ↔ xs = ys
  | [], [] => by simp [sameL]
  | [], _ :: _ => by simp [sameL]
  | _ :: _, [] => by simp [sameL]
  | x :: xs, y :: ys => by
    simp only [sameL, eqB, Bool.and_eq_true, beq_iff_eq, sameL_iff xs ys, List.cons.injEq, toList_inj]
    constructor
    · rintro ⟨⟨h1, h2⟩, h3⟩; exact ⟨Prod.ext h1 h2, h3⟩
    · rintro ⟨h1, h3⟩; subst h1; exact ⟨⟨rfl, rfl⟩, h3⟩
theorem sameL_refl (xs : List Lab) : sameL xs xs = true := (sameL_iff xs xs).2 rfl
theorem cmpN_swap (x y : Lab) : cmpN y x = -cmpN x y := cmpB_swap _ _
theorem cmpV_swap (x y : Lab) : cmpV y x = -cmpV x y := cmpB_swap _ _
theorem cmp2_swap (x y : Lab) : cmp2 y x = -cmp2 x y := by
  unfold cmp2
  rw [cmpN_swap x y, cmpV_swap x y]
  by_cases h : cmpN x y = 0
  · rw [if_pos h, if_pos (by omega)]
  · rw [if_neg h, if_neg (by omega)]
theorem cmpL_swap : ∀ (xs ys : List Lab), cmpL ys xs = -cmpL xs ys
  | [], [] => rfl
  | [], _ :: _ => rfl
  | _ :: _, [] => rfl
  | x :: xs, y :: ys => by
    rw [cmpL, cmpL, cmp2_swap x y, cmpL_swap xs ys]
    by_cases h : cmp2 x y = 0
    · rw [if_pos h, if_pos (by omega)]
    · rw [if_neg h, if_neg (by omega)]
theorem cmp2_zero (x y : Lab) : cmp2 x y = 0 ↔ x = y := by
  unfold cmp2
  by_cases h : cmpN x y = 0
  · rw [if_pos h]
    have h1 := (cmpB_spec _ _).2.1.1 h
    constructor
    · intro h2; exact Prod.ext (bytes_ext h1) (bytes_ext ((cmpB_spec _ _).2.1.1 h2))
    · intro e; subst e; exact (cmpB_spec _ _).2.1.2 rfl
  · rw [if_neg h]
    constructor
    · intro h2; exact absurd h2 h
    · intro e; subst e; exact (cmpB_spec _ _).2.1.2 rfl
theorem cmpL_zero : ∀ (xs ys : List Lab), cmpL xs ys = 0 ↔ xs = ys
  | [], [] => by simp [cmpL]
  | [], _ :: _ => by simp [cmpL]
  | _ :: _, [] => by simp [cmpL]
  | x :: xs, y :: ys => by
    rw [cmpL]
    by_cases h : cmp2 x y = 0
    · rw [if_pos h, cmpL_zero xs ys, (cmp2_zero x y).1 h]; simp
    · rw [if_neg h]
      constructor
      · intro e; exact absurd e h
      · intro e; injection e with e1 _; exact absurd ((cmp2_zero x y).2 e1) h
theorem cmp2_trans {x y z : Lab} (h1 : cmp2 x y < 0) (h2 : cmp2 y z < 0) : cmp2 x z < 0 := by
  have tr : ∀ a b c : List UInt8, compareBytes a b < 0 → compareBytes b c < 0 → compareBytes a c < 0 := fun a b c p q =>
    (cmpB_spec a c).1.2 (lt_trans' ((cmpB_spec a b).1.1 p) ((cmpB_spec b c).1.1 q))
  have eqz : ∀ a b : List UInt8, compareBytes a b = 0 → a = b := fun a b h => (cmpB_spec a b).2.1.1 h
  unfold cmp2 cmpN cmpV at *
  by_cases a : compareBytes x.1.data.toList y.1.data.toList = 0
  · rw [if_pos a] at h1
    have e := eqz _ _ a
    rw [e]
    by_cases b : compareBytes y.1.data.toList z.1.data.toList = 0
    · rw [if_pos b] at h2 ⊢
      exact tr _ _ _ h1 h2
    · rw [if_neg b] at h2 ⊢
      exact h2
  · rw [if_neg a] at h1
    by_cases b : compareBytes y.1.data.toList z.1.data.toList = 0
    · have e := eqz _ _ b
      rw [← e, if_neg a]
      exact h1
    · rw [if_neg b] at h2
      have := tr _ _ _ h1 h2
      rw [if_neg (by omega)]
      exact this
theorem cmpL_trans : ∀ (xs ys zs : List Lab), cmpL xs ys ≤ 0 → cmpL ys zs ≤ 0 → cmpL xs zs ≤ 0
  | [], _, [], _, _ => by simp [cmpL]
  | [], _, _ :: _, _, _ => by simp [cmpL]
  | _ :: _, [], _, h, _ => by simp [cmpL] at h
  | _ :: _, _ :: _, [], _, h => by simp [cmpL] at h
  | x :: xs, y :: ys, z :: zs, h1, h2 => by
    rw [cmpL] at *
    by_cases a : cmp2 x y = 0
    · rw [if_pos a] at h1
      have e := (cmp2_zero x y).1 a
      subst e
      by_cases b : cmp2 x z = 0
      · rw [if_pos b] at h2 ⊢; exact cmpL_trans xs ys zs h1 h2
      · rw [if_neg b] at h2 ⊢; exact h2
    · rw [if_neg a] at h1
      by_cases b : cmp2 y z = 0
      · have e := (cmp2_zero y z).1 b
        subst e
        rw [if_neg a]; exact h1
      · rw [if_neg b] at h2
        have := cmp2_trans (x := x) (y := y) (z := z) (by omega) (by omega)
        rw [if_neg (by omega)]; omega
theorem cmpL_lt_trans {a b c : List Lab} (h1 : cmpL a b < 0) (h2 : cmpL b c < 0) : cmpL a c < 0 := by
  have h := cmpL_trans a b c (by omega) (by omega)
  rcases Int.lt_or_eq_of_le h with h3 | h3
  · exact h3
  · have e := (cmpL_zero a c).1 h3
    subst e
    have := cmpL_swap a b
    omega
end Go.Proofs.YtlnlbahggbbaeaaGreat
end
