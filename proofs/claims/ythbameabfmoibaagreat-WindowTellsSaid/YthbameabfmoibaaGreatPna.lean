/- Lists of points: read, copied, lent, compared. -/
import Derived.Test.YthbameabfmoibaaGreatProg
import Derived.WalkKit
import Derived.BigCall
import Derived.Lib.OthersKept
import Derived.Lib.Hide
import Derived.Laws.OwnMore
import Derived.Laws.Cover1
import Derived.Laws.StructEq
import Derived.Deep.DeepMust
import Derived.BigQuiet
import Derived.Deep.QuietTactic
namespace Go.Proofs.YthbameabfmoibaaGreat.Pnt
open Go.RowKit Go.Lib

abbrev Pt := Int × Int
/-- Cells that read as these points. -/
structure Sees (w : World) (b off : Nat) (xs : List Pt) : Prop where
  low : b < w.heap.size
  at0 : ∀ (j : Nat) (x : Pt), xs[j]? = some x → w.cell? ⟨b, off + j * 2, none⟩ = some (.int .i64 x.1)
  at1 : ∀ (j : Nat) (x : Pt), xs[j]? = some x → w.cell? ⟨b, off + j * 2 + 1, none⟩ = some (.int .i64 x.2)
/-- A slice that reads as these points. -/
def SeesO (w : World) (o : Option Addr) (xs : List Pt) : Prop := xs = [] ∨ ∃ b off, o = some ⟨b, off, none⟩ ∧ Sees w b off xs
theorem Sees.below {w w' : World} {b off : Nat} {xs : List Pt} (h : Sees w b off xs) (hb : Below w.heap.size w w') : Sees w' b off xs :=
  ⟨Nat.lt_of_lt_of_le h.low hb.size, fun j x hx => (hb.cell (p := ⟨b, off + j * 2, none⟩) h.low).trans (h.at0 j x hx), fun j x hx => (hb.cell (p := ⟨b, off + j * 2 + 1, none⟩) h.low).trans (h.at1 j x hx)⟩
theorem SeesO.below {w w' : World} {o : Option Addr} {xs : List Pt} (h : SeesO w o xs) (hb : Below w.heap.size w w') : SeesO w' o xs :=
  h.imp id fun ⟨b, off, e, hs⟩ => ⟨b, off, e, hs.below hb⟩
theorem SeesO.at {w : World} {o : Option Addr} {xs : List Pt} (h : SeesO w o xs) {k : Nat} {x : Pt} (hx : xs[k]? = some x) : ∃ b off, o = some ⟨b, off, none⟩ ∧ Sees w b off xs := by
  rcases h with rfl | h
  · simp at hx
  · exact h
theorem get_lt {xs : List Pt} {n k : Nat} (hn : xs.length = n) (hk : k < n) : ∃ x, xs[k]? = some x := ⟨xs[k]'(by omega), List.getElem?_eq_getElem _⟩


theorem drop_at {xs : List Pt} {k : Nat} {x : Pt} (h : xs[k]? = some x) : xs.drop k = x :: xs.drop (k + 1) := by
  obtain ⟨hk, e⟩ := List.getElem?_eq_some_iff.1 h
  rw [List.drop_eq_getElem_cons hk, e]


theorem info38 : (Tryz.prog.info? 43).map (fun i => (i.zero, i.size, i.bytes)) = some (some (.agg #[.int .i64 0, .int .i64 0]), 2, 16) := by kernel_rfl

def flatL (xs : List Pt) : List Value := xs.flatMap fun x => [.int .i64 x.1, .int .i64 x.2]
theorem flatL_len (xs : List Pt) : (flatL xs).length = xs.length * 2 := by
  induction xs with
  | nil => rfl
  | cons x xs ih => rw [flatL, List.flatMap_cons, List.length_append]; simp [flatL] at ih ⊢; omega
theorem flatL_snoc (xs : List Pt) (x : Pt) : flatL (xs ++ [x]) = flatL xs ++ [.int .i64 x.1, .int .i64 x.2] := by simp [flatL]
theorem cells_2 (w : World) (a b : Value) (t : TypeId) : ∀ j u, [a, b][j]? = some u → (w.alloc (.cells #[a, b] t)).cell? ((⟨w.heap.size, 0, none⟩ : Addr).add j) = some u := by
  intro j u hj
  match j, hj with
  | 0, hj => simp at hj; subst hj; simp [Addr.add]
  | 1, hj => simp at hj; subst hj; simp [Addr.add]
  | j + 2, hj => simp at hj
theorem one_2 (a b : Int) : ∀ v ∈ [Value.int .i64 a, Value.int .i64 b], v.oneCell' = true := by
  intro v hv; simp at hv; rcases hv with rfl | rfl <;> rfl

theorem own_grown {w w' : World} {B e size n : Nat} {v : Value} {xs : List Value} (h : w.ownsRow B e size v n xs) (hb : Below w.heap.size w w') : w'.ownsRow B e size v n xs :=
  h.kept (row := none) ⟨hb.os, hb.tape, hb.output, hb.size, fun k hk _ => hb.block k hk⟩ (by cases hv : v.ownBlock <;> simp)
theorem filter_step {pr : Pt → Bool} {xs ys : List Pt} {k : Nat} {x : Pt} (h : ys = (xs.take k).filter pr) (hx : xs[k]? = some x) : (xs.take (k + 1)).filter pr = if pr x then ys ++ [x] else ys := by
  rw [List.take_add_one, hx, List.filter_append, ← h]
  by_cases hp : pr x = true <;> simp [hp]

theorem own_mono {w : World} {base base' e size n : Nat} {v : Value} {xs : List Value} (h : w.ownsRow base e size v n xs) (hb : base' ≤ base) : w.ownsRow base' e size v n xs :=
  ⟨h.1, h.2.imp id fun ⟨g, cap, cur, h1, h2, h3⟩ => ⟨g, cap, cur, h1, Nat.le_trans hb h2, h3⟩⟩
theorem flatL_at : ∀ (xs : List Pt) (j : Nat) (x : Pt), xs[j]? = some x → (flatL xs)[j * 2]? = some (.int .i64 x.1) ∧ (flatL xs)[j * 2 + 1]? = some (.int .i64 x.2)
  | [], j, x, h => by simp at h
  | y :: ys, 0, x, h => by simp at h; subst h; simp [flatL]
  | y :: ys, j + 1, x, h => by
    have := flatL_at ys j x (by simpa using h)
    rw [show (j + 1) * 2 = j * 2 + 1 + 1 by omega]
    simpa [flatL] using this
/-- A slice of the call's own reads as its points. -/
theorem own_sees {w : World} {B : Nat} {v : Value} {xs : List Pt} (h : w.ownsRow B 43 2 v xs.length (flatL xs)) : ∃ o c, v = .slice o xs.length c ∧ SeesO w o xs ∧ xs.length ≤ maxLen := by
  rcases h.2 with ⟨rfl, h0⟩ | ⟨g, cap, cur, rfl, hg, hh, hn, hcap, hsz, htake⟩
  · have h0' : xs = [] := List.eq_nil_of_length_eq_zero h0
    subst h0'
    exact ⟨none, 0, rfl, .inl rfl, Nat.zero_le _⟩
  · refine ⟨_, cap, rfl, .inr ⟨g, 0, rfl, (Array.getElem?_eq_some_iff.1 hh).1, fun j x hx => ?_, fun j x hx => ?_⟩, Nat.le_trans hn hcap⟩
    · have := h.cells (g := g) rfl (j * 2) _ (flatL_at xs j x hx).1
      rw [← this]; congr 1; simp [Addr.add]
    · have := h.cells (g := g) rfl (j * 2 + 1) _ (flatL_at xs j x hx).2
      rw [← this]; congr 1


def eqB (x y : Pt) : Bool := x.1 == y.1 && x.2 == y.2
def sameL : List Pt → List Pt → Bool
  | [], [] => true
  | x :: xs, y :: ys => eqB x y && sameL xs ys
  | _, _ => false
theorem sameL_len : ∀ (xs ys : List Pt), xs.length ≠ ys.length → sameL xs ys = false
  | [], [], h => absurd rfl h
  | [], _ :: _, _ => rfl
  | _ :: _, [], _ => rfl
  | x :: xs, y :: ys, h => by rw [sameL, sameL_len xs ys (by simpa using h), Bool.and_false]

theorem ret_bool {a b : Bool} (h : a = b) : Ending.returned (.bool a) = .returned (.bool b) := by rw [h]

set_option maxHeartbeats 1000000 in
theorem equalIn38 (x y : Pt) (w : World) : (Op.equalIn 10000 43 (.agg #[.int .i64 x.1, .int .i64 x.2]) (.agg #[.int .i64 y.1, .int .i64 y.2])).run Tryz.prog w = .ok (eqB x y) w := by
  have u9 := Tryz.underlying3
  have a9 := Tryz.isAgg3
  have z9 := Tryz.sizeOf3
  have hS : Tryz.prog.underlying 43 = some (.struct (Tryz.prog.fieldsOf 43)) := by kernel_rfl
  have hp : Tryz.prog.stoodInHeld 43 = false := by kernel_rfl
  rw [show (10000 : Nat) = 9999 + 1 from rfl, run_equalIn_agg w 9999 43 _ _ hS hp]
  simp only [Program.fieldsOf, Tryz.underlying43]
  go_simp
  unfold eqB
  cases h1 : x.1 == y.1 <;> cases h2 : x.2 == y.2 <;> simp_all


set_option maxHeartbeats 2000000 in
set_option maxRecDepth 100000 in
theorem samePoints_any (o1 o2 : Option Addr) (c1 c2 : Nat) (xs ys : List Pt) (w : World) (hm : xs.length ≤ maxLen) (hm2 : ys.length ≤ maxLen) (h1 : SeesO w o1 xs) (h2 : SeesO w o2 ys) :
    Calls Tryz.prog 14 #[.slice o1 xs.length c1, .slice o2 ys.length c2] w fun e w' => e = .returned (.bool (sameL xs ys)) ∧ Below w.heap.size w w' := by
  obtain ⟨n, hn⟩ : ∃ n, xs.length = n := ⟨_, rfl⟩
  obtain ⟨m, hm'⟩ : ∃ m, ys.length = m := ⟨_, rfl⟩
  have HN := Lib.hid hn
  have HM := Lib.hid hm'
  rw [hn] at hm ⊢
  rw [hm'] at hm2 ⊢
  clear hn hm'
  unfold maxLen at hm hm2
  by_cases hnm : n = m
  · subst hnm
    have HS1 := Lib.hid h1
    have HS2 := Lib.hid h2
    clear h1 h2
    go_enter Tryz.func14, Tryz.ntmps14
    go_wp2
    go_loopw [5] (fun v13 wr => ∃ k : Nat, v13 = .int .i64 k ∧ k ≤ n ∧ Hid (Below w.heap.size w wr) ∧ Hid (sameL (xs.drop k) (ys.drop k) = sameL xs ys)) (fun v13 _ => n - (intOf v13).toNat)
    case atStart => exact ⟨0, rfl, Nat.zero_le _, Below.refl _ _, rfl⟩
    case round =>
      obtain ⟨k, rfl, hk, HB, H⟩ := hrel
      by_cases hkn : k < n
      · have j1 : (k : Int) < n := by omega
        obtain ⟨x, hx⟩ := get_lt HN.out hkn
        obtain ⟨b, off, rfl, hS⟩ := (HS1.out.below (HB.out.mono (Nat.le_refl _))).at hx
        obtain ⟨y, hy⟩ := get_lt HM.out hkn
        obtain ⟨b2, off2, rfl, hS2⟩ := (HS2.out.below (HB.out.mono (Nat.le_refl _))).at hy
        have c0 : ∀ n, (wr.drewN n).cell? ⟨b, off + k * 2, none⟩ = some (.int .i64 x.1) := fun _ => hS.at0 k x hx
        have c1 : ∀ n, (wr.drewN n).cell? ⟨b, off + k * 2 + 1, none⟩ = some (.int .i64 x.2) := fun _ => hS.at1 k x hx
        have d0 : ∀ n, (wr.drewN n).cell? ⟨b2, off2 + k * 2, none⟩ = some (.int .i64 y.1) := fun _ => hS2.at0 k y hy
        have d1 : ∀ n, (wr.drewN n).cell? ⟨b2, off2 + k * 2 + 1, none⟩ = some (.int .i64 y.2) := fun _ => hS2.at1 k y hy
        have HX := Lib.hid (drop_at hx)
        have HY := Lib.hid (drop_at hy)
        clear hS hS2 hx hy
        go_wp2_with fail
        have hq : Tryz.prog.eqGuardType Tryz.prog.depth 43 = false := by kernel_rfl
        have hS : Tryz.prog.underlying 43 = some (.struct (Tryz.prog.fieldsOf 43)) := by kernel_rfl
        have hp : Tryz.prog.stoodInHeld 43 = false := by kernel_rfl
        have hr : ∀ w, (Op.equalIn 10000 43 (.agg #[.int .i64 x.1, .int .i64 x.2]) (.agg #[.int .i64 y.1, .int .i64 y.2])).run Tryz.prog w = .ok (eqB x y) w := fun w => equalIn38 x y w
        go_quiet (fail)
        clear hq hS hp hr
        have HBq := Lib.hid (show Below w.heap.size w (wr.drewN nq) from HB.out.trans ⟨rfl, rfl, rfl, Nat.le_refl _, fun _ _ => rfl⟩)
        cases he : eqB x y with
        | true =>
          have H2 := Lib.hid (show sameL (xs.drop (k + 1)) (ys.drop (k + 1)) = sameL xs ys by rw [← H.out, HX.out, HY.out, sameL, he, Bool.true_and])
          clear he
          go_wp2
          go_roundw
          case rel => exact ⟨k + 1, by go_num, by omega, HBq, H2⟩
          case measure => simp [intOf]; omega
        | false =>
          have H2 := Lib.hid (show false = sameL xs ys by rw [← H.out, HX.out, HY.out, sameL, he, Bool.false_and])
          clear he
          go_wp2
          go_ret
          exact ⟨ret_bool H2.out, HBq.out⟩
      · have j1 : (n : Int) ≤ k := by omega
        have H2 := Lib.hid (show true = sameL xs ys by
          have e1 : xs.drop k = [] := List.drop_eq_nil_of_le (by rw [HN.out]; omega)
          have e2 : ys.drop k = [] := List.drop_eq_nil_of_le (by rw [HM.out]; omega)
          rw [← H.out, e1, e2, sameL])
        go_wp2
        go_ret
        exact ⟨ret_bool H2.out, HB.out⟩
  · have H2 := Lib.hid (show false = sameL xs ys from (sameL_len xs ys (by rw [HN.out, HM.out]; exact hnm)).symm)
    have t1 : ((n : Int) != (m : Int)) = true := by rw [bne_iff_ne]; omega
    have t2 : ((n : Int) == (m : Int)) = false := by rw [beq_eq_false_iff_ne]; omega
    clear hnm
    go_enter Tryz.func14, Tryz.ntmps14
    go_wp2
    go_ret
    exact ⟨ret_bool H2.out, Below.refl _ _⟩
end Go.Proofs.YthbameabfmoibaaGreat.Pnt
