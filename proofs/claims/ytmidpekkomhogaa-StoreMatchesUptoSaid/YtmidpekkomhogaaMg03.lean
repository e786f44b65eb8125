import Derived.Test.YtmidpekkomhogaaMg02
import Derived.Sort.Walk0
import Derived.Test.YtmidpekkomhogaaProg
import Derived.WalkKit
import Derived.BigCall
import Derived.Lib.OthersKept
import Derived.Lib.Hide
import Derived.Laws.OwnMore
import Derived.Laws.Cover1
import Derived.Laws.StructEq
import Derived.Deep.DeepMust
import Derived.BigQuiet
import Derived.Deep.QuietTactic
section
/- Labels: those of some names, and all others: the calls. -/

namespace Go.Proofs.Ytmidpekkomhogaa
open Go.RowKit

theorem own_mono {w : World} {base base' e size n : Nat} {v : Value} {xs : List Value} (h : w.ownsRow base e size v n xs) (hb : base' ≤ base) : w.ownsRow base' e size v n xs :=
  ⟨h.1, h.2.imp id fun ⟨g, cap, cur, h1, h2, h3⟩ => ⟨g, cap, cur, h1, Nat.le_trans hb h2, h3⟩⟩
theorem flatL_at : ∀ (xs : List Lab) (j : Nat) (x : Lab), xs[j]? = some x → (flatL xs)[j * 2]? = some (.string x.1) ∧ (flatL xs)[j * 2 + 1]? = some (.string x.2)
  | [], j, x, h => by simp at h
  | y :: ys, 0, x, h => by simp at h; subst h; simp [flatL]
  | y :: ys, j + 1, x, h => by
    have := flatL_at ys j x (by simpa using h)
    rw [show (j + 1) * 2 = j * 2 + 1 + 1 by omega]
    simpa [flatL] using this
/-- A slice of the call's own reads as its labels. -/
theorem own_sees {w : World} {B : Nat} {v : Value} {xs : List Lab} (h : w.ownsRow B 49 2 v xs.length (flatL xs)) : ∃ o c, v = .slice o xs.length c ∧ SeesO w o xs ∧ xs.length ≤ maxLen := by
  rcases h.2 with ⟨rfl, h0⟩ | ⟨g, cap, cur, rfl, hg, hh, hn, hcap, hsz, htake⟩
  · have h0' : xs = [] := List.eq_nil_of_length_eq_zero h0
    subst h0'
    exact ⟨none, 0, rfl, .inl rfl, Nat.zero_le _⟩
  · refine ⟨_, cap, rfl, .inr ⟨g, 0, rfl, (Array.getElem?_eq_some_iff.1 hh).1, fun j x hx => ?_, fun j x hx => ?_⟩, Nat.le_trans hn hcap⟩
    · have := h.cells (g := g) rfl (j * 2) _ (flatL_at xs j x hx).1
      rw [← this]; congr 1; simp [Addr.add]
    · have := h.cells (g := g) rfl (j * 2 + 1) _ (flatL_at xs j x hx).2
      rw [← this]; congr 1

set_option maxHeartbeats 2000000 in
set_option maxRecDepth 100000 in
theorem keepW_any (p : Nat) (pr : Lab → Bool) (o : Option Addr) (cap : Nat) (xs : List Lab) (w : World) (hm : xs.length ≤ 1000000) (hS : SeesO w o xs) (hv : ∀ x ∈ xs, x.1.size ≤ 281474976710656 ∧ x.2.size ≤ 281474976710656)
    (hp : ∀ (x : Lab) (W : World), Below w.heap.size w W → Calls Try.prog 49 #[.agg #[.string x.1, .string x.2], .pointer (some ⟨p, 0, none⟩)] W fun e w' => e = .returned (.bool (pr x)) ∧ Below W.heap.size W w') :
    Calls Try.prog 48 #[.slice o xs.length cap, .func (.func 49) #[] #[.pointer (some ⟨p, 0, none⟩)]] w fun e w' => (∃ v, e = .returned v ∧ w'.ownsRow w.heap.size 49 2 v (xs.filter pr).length (flatL (xs.filter pr))) ∧ Below w.heap.size w w' := by
  obtain ⟨i0, hi, hz0, hz1, hz2⟩ := info_parts info38
  obtain ⟨n, hn⟩ : ∃ n, xs.length = n := ⟨_, rfl⟩
  have HN := Lib.hid hn
  rw [hn] at hm ⊢
  clear hn
  have HSO := Lib.hid hS
  have HV := Lib.hid hv
  have HP := Lib.hid hp
  have HC := Lib.hid (fun (x : Lab) W (h : x.1.size ≤ 281474976710656 ∧ x.2.size ≤ 281474976710656) => cloneL_any x.1 x.2 W h.1 h.2)
  clear hS hv hp
  go_enter Try.func48, Try.ntmps48
  go_wp2
  go_loopw [5, 7, 10] (fun v5 v7 v10 wr => ∃ (k : Nat) (ys : List Lab), v10 = .int .i64 k ∧ k ≤ n ∧ ys.length ≤ k ∧ Hid (ys = (xs.take k).filter pr) ∧ wr.ownsRow w.heap.size 49 2 v5 ys.length (flatL ys) ∧ Hid (Below w.heap.size w wr)) (fun _ _ v10 _ => n - (Go.RowKit.intOf v10).toNat)
  case atStart => exact ⟨0, [], rfl, Nat.zero_le _, Nat.zero_le _, rfl, World.ownsRow_nil _ _ _ _, Below.refl _ _⟩
  case round =>
    obtain ⟨k, ys, rfl, hk, hyk, HY, hown, HB⟩ := hrel
    by_cases hkn : k < n
    · have j1 : (k : Int) < n := by omega
      obtain ⟨x, hx⟩ := get_lt HN.out hkn
      obtain ⟨b, off, rfl, hS⟩ := (HSO.out.below (HB.out.mono (Nat.le_refl _))).at hx
      have c0 := hS.at0 k x hx
      have c1 := hS.at1 k x hx
      have HX := Lib.hid hx
      have hsz := Lib.hid (HV.out x (List.mem_of_getElem? hx))
      have HB1 := Lib.hid (show Below w.heap.size w (wr.alloc (Obj.cells #[Value.string x.1, Value.string x.2] 49)) from HB.out.alloc (by have := HB.out.size; omega) _)
      have HO := Lib.hid hown
      clear hS hx hown
      go_wp2_with fail
      refine (HP.out x _ HB1.out).mono ?_
      rintro e wq ⟨rfl, bq⟩
      have hbox := box_reads (box_cells wr x) bq
      obtain ⟨r0, r1⟩ := hbox
      have HBq := Lib.hid (HB1.out.trans (bq.mono (by have := HB1.out.size; exact this)))
      have HOq := Lib.hid (own_grown (HO.out.alloc (Obj.cells #[Value.string x.1, Value.string x.2] 49)) bq)
      have hwz := HBq.out.size
      have HZ := Lib.hid hwz
      clear bq hwz
      cases hpx : pr x with
      | false =>
        have H2 := Lib.hid (show ys = (xs.take (k + 1)).filter pr by rw [filter_step HY.out HX.out, hpx]; simp)
        clear hpx
        go_wp2
        go_roundw
        case rel => exact ⟨k + 1, ys, by go_num, by omega, by omega, H2, HOq.out, HBq⟩
        case measure => simp [Go.RowKit.intOf]; omega
      | true =>
        have H2 := Lib.hid (show ys ++ [x] = (xs.take (k + 1)).filter pr by rw [filter_step HY.out HX.out, hpx]; simp)
        clear hpx
        go_wp2_with fail
        refine (HC.out x _ hsz.out).mono ?_
        rintro e w2 ⟨rfl, b2⟩
        have HB2 := Lib.hid (HBq.out.trans (b2.mono HZ.out))
        have hO2 := own_grown HOq.out b2
        have hzw := HB2.out.size
        clear b2
        go_wp2_with (at_builtin; go_must (refine wpList_append_own _ rfl _ _ 34 rfl w.heap.size 49 i0 (.agg #[.string ⟨#[]⟩, .string ⟨#[]⟩]) 2 32 Try.underlying34 hi hz0 hz1 hz2 rfl (by decide) _ _ _ rfl (hO2.alloc _) ⟨w2.heap.size, 0, none⟩ 1 1 [.string x.1, .string x.2] rfl rfl (cells_2 _ _ _ _) (one_2 _ _) (by unfold maxLen; omega) (by omega) (by simp; omega) ?_); intro v' w3 hown' hgrow3 hnil3)
        have hB3 : Below w.heap.size w w3 := Below.grown (HB2.out.alloc (by omega) _) hgrow3 (by simp; omega) (fun j hj => by have := (hO2.lt _ hj).1; omega)
        have hO3 : w3.ownsRow w.heap.size 49 2 v' (ys ++ [x]).length (flatL (ys ++ [x])) := by
          rw [List.length_append, flatL_snoc]; exact hown'
        have HB3 := Lib.hid hB3
        clear hown' hgrow3 hnil3 hO2 hB3 hzw
        go_roundw
        case rel => exact ⟨k + 1, ys ++ [x], by go_num, by omega, by simp; omega, H2, hO3, HB3⟩
        case measure => simp [Go.RowKit.intOf]; omega
    · have H2 := Lib.hid (show ys = xs.filter pr by rw [HY.out, List.take_of_length_le (by rw [HN.out]; omega)])
      go_wp2
      go_ret
      refine ⟨?_, HB.out⟩
      rw [← H2.out]
      exact ⟨_, rfl, hown⟩

set_option maxHeartbeats 2000000 in
set_option maxRecDepth 100000 in
/-- Without no name: all labels, in a row of their own. -/
theorem without_none (o : Option Addr) (cap : Nat) (xs : List Lab) (w : World) (hm : xs.length ≤ 1000000) (hS : SeesO w o xs) (hv : ∀ x ∈ xs, x.1.size ≤ 281474976710656 ∧ x.2.size ≤ 281474976710656) :
    Calls Try.prog 34 #[.slice o xs.length cap, .slice none 0 0] w fun e w' => (∃ v, e = .returned v ∧ w'.ownsRow w.heap.size 49 2 v xs.length (flatL xs)) ∧ Below w.heap.size w w' := by
  have hb : Below w.heap.size w (w.alloc (Obj.cells #[Value.slice none 0 0] 97)) := (Below.refl _ _).alloc (Nat.le_refl _) _
  have hcell : (w.alloc (Obj.cells #[Value.slice none 0 0] 97)).cell? ⟨w.heap.size, 0, none⟩ = some (.slice none 0 0) := by simp
  have hlt : w.heap.size < (w.alloc (Obj.cells #[Value.slice none 0 0] 97)).heap.size := by simp
  have hc := keepW_any w.heap.size (fun _ => true) o cap xs (w.alloc (Obj.cells #[Value.slice none 0 0] 97)) hm (hS.below hb) hv (fun x W hW => without1_none w.heap.size x W (Nat.lt_of_lt_of_le hlt hW.size) ((hW.cell (p := ⟨w.heap.size, 0, none⟩) hlt).trans hcell))
  rw [List.filter_eq_self.2 (fun _ _ => rfl)] at hc
  have HC := Lib.hid hc
  clear hS hv hcell hlt hb hc
  go_enter Try.func34, Try.ntmps34
  go_wp2_with fail
  refine HC.out.mono ?_
  rintro e w' ⟨⟨v, rfl, hown⟩, hb⟩
  have HO := Lib.hid hown
  clear hown
  go_wp2
  go_ret
  refine ⟨⟨v, rfl, own_mono HO.out (by simp)⟩, ((Below.refl _ _).alloc (Nat.le_refl _) _).trans (hb.mono (by simp))⟩
end Go.Proofs.Ytmidpekkomhogaa
end

section
/- Labels: the order of lists of labels, plain. -/

namespace Go.Proofs.Ytmidpekkomhogaa
open Go.RowKit Go.Lib Go.Sort

theorem cmpB_spec : ∀ (a b : List UInt8), (compareBytes a b < 0 ↔ a < b) ∧ (compareBytes a b = 0 ↔ a = b) ∧ (0 < compareBytes a b ↔ b < a)
  | [], [] => by simp [compareBytes]
  | [], d :: ds => by simp [compareBytes]
  | c :: cs, [] => by simp [compareBytes]
  | a :: at_, b :: bs => by
    obtain ⟨h1, h2, h3⟩ := cmpB_spec at_ bs
    simp only [compareBytes, List.cons_lt_cons_iff, List.cons.injEq]
    by_cases hab : a < b
    · have n1 : ¬ a = b := fun e => by subst e; exact absurd hab (UInt8.lt_irrefl a)
      have n2 : ¬ b < a := fun e => absurd (UInt8.lt_trans hab e) (UInt8.lt_irrefl a)
      have n3 : ¬ b = a := fun e => n1 e.symm
      simp [hab, n1, n2, n3]
    · by_cases hba : b < a
      · have n1 : ¬ a = b := fun e => by subst e; exact absurd hba (UInt8.lt_irrefl a)
        have n3 : ¬ b = a := fun e => n1 e.symm
        simp [hab, hba, n1, n3]
      · have e : a = b := UInt8.le_antisymm (UInt8.not_lt.1 hba) (UInt8.not_lt.1 hab)
        subst e
        simp [UInt8.lt_irrefl, h1, h2, h3]
theorem cmpB_swap (a b : List UInt8) : compareBytes b a = -compareBytes a b := by
  induction a generalizing b with
  | nil => cases b <;> simp [compareBytes]
  | cons x xs ih =>
    cases b with
    | nil => simp [compareBytes]
    | cons y ys =>
      simp only [compareBytes]
      by_cases h1 : x < y
      · have n2 : ¬ y < x := fun e => absurd (UInt8.lt_trans h1 e) (UInt8.lt_irrefl x)
        simp [h1, n2]
      · by_cases h2 : y < x
        · simp [h1, h2]
        · simp [h1, h2, ih]
theorem lt_trans' {a b c : List UInt8} (h : a < b) (h2 : b < c) : a < c := List.lt_trans h h2
theorem bytes_ext {a b : ByteArray} (h : a.data.toList = b.data.toList) : a = b := by
  cases a; cases b; congr 1; exact Array.ext' h
theorem toList_inj {a b : ByteArray} : a.toList = b.toList ↔ a = b := by
  rw [ByteArray.toList_eq, ByteArray.toList_eq]; exact ⟨bytes_ext, fun h => by rw [h]⟩
theorem sameL_iff : ∀ (xs ys : List Lab), sameL xs ys = true ↔ xs = ys
  | [], [] => by simp [sameL]
  | [], _ :: _ => by simp [sameL]
  | _ :: _, [] => by simp [sameL]
  | x :: xs, y :: ys => by
    simp only [sameL, eqB, Bool.and_eq_true, beq_iff_eq, sameL_iff xs ys, List.cons.injEq, toList_inj]
    constructor
    · rintro ⟨⟨h1, h2⟩, h3⟩; exact ⟨Prod.ext h1 h2, h3⟩
    · rintro ⟨h1, h3⟩; subst h1; exact ⟨⟨rfl, rfl⟩, h3⟩
theorem sameL_refl (xs : List Lab) : sameL xs xs = true := (sameL_iff xs xs).2 rfl
theorem cmpN_swap (x y : Lab) : cmpN y x = -cmpN x y := cmpB_swap _ _
theorem cmpV_swap (x y : Lab) : cmpV y x = -cmpV x y := cmpB_swap _ _
theorem cmp2_swap (x y : Lab) : cmp2 y x = -cmp2 x y := by
  unfold cmp2
  rw [cmpN_swap x y, cmpV_swap x y]
  by_cases h : cmpN x y = 0
  · rw [if_pos h, if_pos (by omega)]
  · rw [if_neg h, if_neg (by omega)]
theorem cmpL_swap : ∀ (xs ys : List Lab), cmpL ys xs = -cmpL xs ys
  | [], [] => rfl
  | [], _ :: _ => rfl
  | _ :: _, [] => rfl
  | x :: xs, y :: ys => by
    rw [cmpL, cmpL, cmp2_swap x y, cmpL_swap xs ys]
    by_cases h : cmp2 x y = 0
    · rw [if_pos h, if_pos (by omega)]
    · rw [if_neg h, if_neg (by omega)]
theorem cmp2_zero (x y : Lab) : cmp2 x y = 0 ↔ x = y := by
  unfold cmp2
  by_cases h : cmpN x y = 0
  · rw [if_pos h]
    have h1 := (cmpB_spec _ _).2.1.1 h
    constructor
    · intro h2; exact Prod.ext (bytes_ext h1) (bytes_ext ((cmpB_spec _ _).2.1.1 h2))
    · intro e; subst e; exact (cmpB_spec _ _).2.1.2 rfl
  · rw [if_neg h]
    constructor
    · intro h2; exact absurd h2 h
    · intro e; subst e; exact (cmpB_spec _ _).2.1.2 rfl
theorem cmpL_zero : ∀ (xs ys : List Lab), cmpL xs ys = 0 ↔ xs = ys
  | [], [] => by simp [cmpL]
  | [], _ :: _ => by simp [cmpL]
  | _ :: _, [] => by simp [cmpL]
  | x :: xs, y :: ys => by
    rw [cmpL]
    by_cases h : cmp2 x y = 0
    · rw [if_pos h, cmpL_zero xs ys, (cmp2_zero x y).1 h]; simp
    · rw [if_neg h]
      constructor
      · intro e; exact absurd e h
      · intro e; injection e with e1 _; exact absurd ((cmp2_zero x y).2 e1) h
theorem cmp2_trans {x y z : Lab} (h1 : cmp2 x y < 0) (h2 : cmp2 y z < 0) : cmp2 x z < 0 := by
  have tr : ∀ a b c : List UInt8, compareBytes a b < 0 → compareBytes b c < 0 → compareBytes a c < 0 := fun a b c p q =>
    (cmpB_spec a c).1.2 (lt_trans' ((cmpB_spec a b).1.1 p) ((cmpB_spec b c).1.1 q))
  have eqz : ∀ a b : List UInt8, compareBytes a b = 0 → a = b := fun a b h => (cmpB_spec a b).2.1.1 h
  unfold cmp2 cmpN cmpV at *
  by_cases a : compareBytes x.1.data.toList y.1.data.toList = 0
  · rw [if_pos a] at h1
    have e := eqz _ _ a
    rw [e]
    by_cases b : compareBytes y.1.data.toList z.1.data.toList = 0
    · rw [if_pos b] at h2 ⊢
      exact tr _ _ _ h1 h2
    · rw [if_neg b] at h2 ⊢
      exact h2
  · rw [if_neg a] at h1
    by_cases b : compareBytes y.1.data.toList z.1.data.toList = 0
    · have e := eqz _ _ b
      rw [← e, if_neg a]
      exact h1
    · rw [if_neg b] at h2
      have := tr _ _ _ h1 h2
      rw [if_neg (by omega)]
      exact this
theorem cmpL_trans : ∀ (xs ys zs : List Lab), cmpL xs ys ≤ 0 → cmpL ys zs ≤ 0 → cmpL xs zs ≤ 0
  | [], _, [], _, _ => by simp [cmpL]
  | [], _, _ :: _, _, _ => by simp [cmpL]
  | _ :: _, [], _, h, _ => by simp [cmpL] at h
  | _ :: _, _ :: _, [], _, h => by simp [cmpL] at h
  | x :: xs, y :: ys, z :: zs, h1, h2 => by
    rw [cmpL] at *
    by_cases a : cmp2 x y = 0
    · rw [if_pos a] at h1
      have e := (cmp2_zero x y).1 a
      subst e
      by_cases b : cmp2 x z = 0
      · rw [if_pos b] at h2 ⊢; exact cmpL_trans xs ys zs h1 h2
      · rw [if_neg b] at h2 ⊢; exact h2
    · rw [if_neg a] at h1
      by_cases b : cmp2 y z = 0
      · have e := (cmp2_zero y z).1 b
        subst e
        rw [if_neg a]; exact h1
      · rw [if_neg b] at h2
        have := cmp2_trans (x := x) (y := y) (z := z) (by omega) (by omega)
        rw [if_neg (by omega)]; omega
theorem cmpL_lt_trans {a b c : List Lab} (h1 : cmpL a b < 0) (h2 : cmpL b c < 0) : cmpL a c < 0 := by
  have h := cmpL_trans a b c (by omega) (by omega)
  rcases Int.lt_or_eq_of_le h with h3 | h3
  · exact h3
  · have e := (cmpL_zero a c).1 h3
    subst e
    have := cmpL_swap a b
    omega
end Go.Proofs.Ytmidpekkomhogaa
end

section
/- Two lists of labels compared: a call that only reads. -/

namespace Go.Proofs.Ytmidpekkomhogaa
open Go.RowKit

end Go.Proofs.Ytmidpekkomhogaa
end

section
/- Lists of points: read, copied, lent, compared. -/

namespace Go.Proofs.Ytmidpekkomhogaa.Pnt
open Go.RowKit Go.Lib

abbrev Pt := Int × Int
/-- Cells that read as these points. -/
structure Sees (w : World) (b off : Nat) (xs : List Pt) : Prop where
  low : b < w.heap.size
  at0 : ∀ (j : Nat) (x : Pt), xs[j]? = some x → w.cell? ⟨b, off + j * 2, none⟩ = some (.int .i64 x.1)
  at1 : ∀ (j : Nat) (x : Pt), xs[j]? = some x → w.cell? ⟨b, off + j * 2 + 1, none⟩ = some (.int .i64 x.2)
/-- A slice that reads as these points. -/
def SeesO (w : World) (o : Option Addr) (xs : List Pt) : Prop := xs = [] ∨ ∃ b off, o = some ⟨b, off, none⟩ ∧ Sees w b off xs
theorem Sees.below {w w' : World} {b off : Nat} {xs : List Pt} (h : Sees w b off xs) (hb : Below w.heap.size w w') : Sees w' b off xs :=
  ⟨Nat.lt_of_lt_of_le h.low hb.size, fun j x hx => (hb.cell (p := ⟨b, off + j * 2, none⟩) h.low).trans (h.at0 j x hx), fun j x hx => (hb.cell (p := ⟨b, off + j * 2 + 1, none⟩) h.low).trans (h.at1 j x hx)⟩
theorem SeesO.below {w w' : World} {o : Option Addr} {xs : List Pt} (h : SeesO w o xs) (hb : Below w.heap.size w w') : SeesO w' o xs :=
  h.imp id fun ⟨b, off, e, hs⟩ => ⟨b, off, e, hs.below hb⟩
theorem SeesO.at {w : World} {o : Option Addr} {xs : List Pt} (h : SeesO w o xs) {k : Nat} {x : Pt} (hx : xs[k]? = some x) : ∃ b off, o = some ⟨b, off, none⟩ ∧ Sees w b off xs := by
  rcases h with rfl | h
  · simp at hx
  · exact h
theorem get_lt {xs : List Pt} {n k : Nat} (hn : xs.length = n) (hk : k < n) : ∃ x, xs[k]? = some x := ⟨xs[k]'(by omega), List.getElem?_eq_getElem _⟩

theorem drop_at {xs : List Pt} {k : Nat} {x : Pt} (h : xs[k]? = some x) : xs.drop k = x :: xs.drop (k + 1) := by
  obtain ⟨hk, e⟩ := List.getElem?_eq_some_iff.1 h
  rw [List.drop_eq_getElem_cons hk, e]

theorem info38 : (Try.prog.info? 54).map (fun i => (i.zero, i.size, i.bytes)) = some (some (.agg #[.int .i64 0, .int .i64 0]), 2, 16) := by kernel_rfl

def flatL (xs : List Pt) : List Value := xs.flatMap fun x => [.int .i64 x.1, .int .i64 x.2]
theorem flatL_len (xs : List Pt) : (flatL xs).length = xs.length * 2 := by
  induction xs with
  | nil => rfl
  | cons x xs ih => rw [flatL, List.flatMap_cons, List.length_append]; simp [flatL] at ih ⊢; omega
theorem flatL_snoc (xs : List Pt) (x : Pt) : flatL (xs ++ [x]) = flatL xs ++ [.int .i64 x.1, .int .i64 x.2] := by simp [flatL]
theorem cells_2 (w : World) (a b : Value) (t : TypeId) : ∀ j u, [a, b][j]? = some u → (w.alloc (.cells #[a, b] t)).cell? ((⟨w.heap.size, 0, none⟩ : Addr).add j) = some u := by
  intro j u hj
  match j, hj with
  | 0, hj => simp at hj; subst hj; simp [Addr.add]
  | 1, hj => simp at hj; subst hj; simp [Addr.add]
  | j + 2, hj => simp at hj
theorem one_2 (a b : Int) : ∀ v ∈ [Value.int .i64 a, Value.int .i64 b], v.oneCell' = true := by
  intro v hv; simp at hv; rcases hv with rfl | rfl <;> rfl

theorem own_grown {w w' : World} {B e size n : Nat} {v : Value} {xs : List Value} (h : w.ownsRow B e size v n xs) (hb : Below w.heap.size w w') : w'.ownsRow B e size v n xs :=
  h.kept (row := none) ⟨hb.os, hb.tape, hb.output, hb.size, fun k hk _ => hb.block k hk⟩ (by cases hv : v.ownBlock <;> simp)
theorem filter_step {pr : Pt → Bool} {xs ys : List Pt} {k : Nat} {x : Pt} (h : ys = (xs.take k).filter pr) (hx : xs[k]? = some x) : (xs.take (k + 1)).filter pr = if pr x then ys ++ [x] else ys := by
  rw [List.take_add_one, hx, List.filter_append, ← h]
  by_cases hp : pr x = true <;> simp [hp]

theorem own_mono {w : World} {base base' e size n : Nat} {v : Value} {xs : List Value} (h : w.ownsRow base e size v n xs) (hb : base' ≤ base) : w.ownsRow base' e size v n xs :=
  ⟨h.1, h.2.imp id fun ⟨g, cap, cur, h1, h2, h3⟩ => ⟨g, cap, cur, h1, Nat.le_trans hb h2, h3⟩⟩
theorem flatL_at : ∀ (xs : List Pt) (j : Nat) (x : Pt), xs[j]? = some x → (flatL xs)[j * 2]? = some (.int .i64 x.1) ∧ (flatL xs)[j * 2 + 1]? = some (.int .i64 x.2)
  | [], j, x, h => by simp at h
  | y :: ys, 0, x, h => by simp at h; subst h; simp [flatL]
  | y :: ys, j + 1, x, h => by
    have := flatL_at ys j x (by simpa using h)
    rw [show (j + 1) * 2 = j * 2 + 1 + 1 by omega]
    simpa [flatL] using this
/-- A slice of the call's own reads as its points. -/
theorem own_sees {w : World} {B : Nat} {v : Value} {xs : List Pt} (h : w.ownsRow B 54 2 v xs.length (flatL xs)) : ∃ o c, v = .slice o xs.length c ∧ SeesO w o xs ∧ xs.length ≤ maxLen := by
  rcases h.2 with ⟨rfl, h0⟩ | ⟨g, cap, cur, rfl, hg, hh, hn, hcap, hsz, htake⟩
  · have h0' : xs = [] := List.eq_nil_of_length_eq_zero h0
    subst h0'
    exact ⟨none, 0, rfl, .inl rfl, Nat.zero_le _⟩
  · refine ⟨_, cap, rfl, .inr ⟨g, 0, rfl, (Array.getElem?_eq_some_iff.1 hh).1, fun j x hx => ?_, fun j x hx => ?_⟩, Nat.le_trans hn hcap⟩
    · have := h.cells (g := g) rfl (j * 2) _ (flatL_at xs j x hx).1
      rw [← this]; congr 1; simp [Addr.add]
    · have := h.cells (g := g) rfl (j * 2 + 1) _ (flatL_at xs j x hx).2
      rw [← this]; congr 1

def eqB (x y : Pt) : Bool := x.1 == y.1 && x.2 == y.2
def sameL : List Pt → List Pt → Bool
  | [], [] => true
  | x :: xs, y :: ys => eqB x y && sameL xs ys
  | _, _ => false

theorem ret_bool {a b : Bool} (h : a = b) : Ending.returned (.bool a) = .returned (.bool b) := by rw [h]

end Go.Proofs.Ytmidpekkomhogaa.Pnt
end

section
/- Lists of points: their cells; the same as itself. -/

namespace Go.Proofs.Ytmidpekkomhogaa.Pnt
open Go.RowKit Go.Lib

theorem sees_all {w : World} {b off : Nat} {xs : List Pt} (h : Sees w b off xs) : ∀ j u, (flatL xs)[j]? = some u → w.cell? ((⟨b, off, none⟩ : Addr).add j) = some u := by
  intro j u hj
  have hjl : j < xs.length * 2 := by have := (List.getElem?_eq_some_iff.1 hj).1; rw [flatL_len] at this; exact this
  have ha : (⟨b, off, none⟩ : Addr).add j = ⟨b, off + j, none⟩ := by
    unfold Addr.add; split
    · next h => subst h; rfl
    · rfl
  rw [ha]
  obtain ⟨x, hx⟩ : ∃ x, xs[j / 2]? = some x := ⟨_, List.getElem?_eq_getElem (by omega)⟩
  have hf := flatL_at _ _ _ hx
  rcases Nat.mod_two_eq_zero_or_one j with hm | hm
  · rw [show j = j / 2 * 2 by omega, hf.1] at hj
    have := h.at0 _ _ hx
    rw [show off + j / 2 * 2 = off + j by omega] at this
    rw [this]; exact hj
  · rw [show j = j / 2 * 2 + 1 by omega, hf.2] at hj
    have := h.at1 _ _ hx
    rw [show off + j / 2 * 2 + 1 = off + j by omega] at this
    rw [this]; exact hj
theorem flatL_cells (xs : List Pt) : ∀ v ∈ flatL xs, v.oneCell' = true := by
  intro v hv
  obtain ⟨x, _, hv⟩ := List.mem_flatMap.1 hv
  simp at hv
  rcases hv with rfl | rfl <;> rfl
theorem sameL_refl : ∀ xs : List Pt, sameL xs xs = true
  | [] => rfl
  | x :: xs => by rw [sameL, sameL_refl xs, Bool.and_true]; simp [eqB]
end Go.Proofs.Ytmidpekkomhogaa.Pnt
end

section
/- Two lists of points compared: a call that only reads. -/

namespace Go.Proofs.Ytmidpekkomhogaa.Pnt
open Go.RowKit Go.Lib

end Go.Proofs.Ytmidpekkomhogaa.Pnt
end

section
/- Lists of series: read, compared. -/

namespace Go.Proofs.Ytmidpekkomhogaa.Ser
open Go.RowKit

abbrev Ser := List Go.Proofs.Ytmidpekkomhogaa.Lab × List Pnt.Pt
/-- Two cells that read as a series. -/
def One (w : World) (u v : Value) (x : Ser) : Prop := ∃ oL cL oP cP, u = .slice oL x.1.length cL ∧ v = .slice oP x.2.length cP ∧ Go.Proofs.Ytmidpekkomhogaa.SeesO w oL x.1 ∧ Pnt.SeesO w oP x.2 ∧ x.1.length ≤ maxLen ∧ x.2.length ≤ maxLen
theorem One.below {w w' : World} {u v : Value} {x : Ser} (h : One w u v x) (hb : Below w.heap.size w w') : One w' u v x := by
  obtain ⟨oL, cL, oP, cP, h1, h2, h3, h4, h5⟩ := h
  exact ⟨oL, cL, oP, cP, h1, h2, h3.below hb, h4.below hb, h5⟩
/-- Cells that read as these series. -/
structure Sees (w : World) (b off : Nat) (xs : List Ser) : Prop where
  low : b < w.heap.size
  at0 : ∀ (j : Nat) (x : Ser), xs[j]? = some x → ∃ u v, w.cell? ⟨b, off + j * 2, none⟩ = some u ∧ w.cell? ⟨b, off + j * 2 + 1, none⟩ = some v ∧ One w u v x
/-- A slice that reads as these series. -/
def SeesO (w : World) (o : Option Addr) (xs : List Ser) : Prop := xs = [] ∨ ∃ b off, o = some ⟨b, off, none⟩ ∧ Sees w b off xs
theorem Sees.below {w w' : World} {b off : Nat} {xs : List Ser} (h : Sees w b off xs) (hb : Below w.heap.size w w') : Sees w' b off xs :=
  ⟨Nat.lt_of_lt_of_le h.low hb.size, fun j x hx => by
    obtain ⟨u, v, h1, h2, h3⟩ := h.at0 j x hx
    exact ⟨u, v, (hb.cell (p := ⟨b, off + j * 2, none⟩) h.low).trans h1, (hb.cell (p := ⟨b, off + j * 2 + 1, none⟩) h.low).trans h2, h3.below hb⟩⟩
theorem SeesO.below {w w' : World} {o : Option Addr} {xs : List Ser} (h : SeesO w o xs) (hb : Below w.heap.size w w') : SeesO w' o xs :=
  h.imp id fun ⟨b, off, e, hs⟩ => ⟨b, off, e, hs.below hb⟩
theorem SeesO.at {w : World} {o : Option Addr} {xs : List Ser} (h : SeesO w o xs) {k : Nat} {x : Ser} (hx : xs[k]? = some x) : ∃ b off, o = some ⟨b, off, none⟩ ∧ Sees w b off xs := by
  rcases h with rfl | h
  · simp at hx
  · exact h
theorem get_lt {xs : List Ser} {n k : Nat} (hn : xs.length = n) (hk : k < n) : ∃ x, xs[k]? = some x := ⟨xs[k]'(by omega), List.getElem?_eq_getElem _⟩
theorem drop_at {xs : List Ser} {k : Nat} {x : Ser} (h : xs[k]? = some x) : xs.drop k = x :: xs.drop (k + 1) := by
  obtain ⟨hk, e⟩ := List.getElem?_eq_some_iff.1 h
  rw [List.drop_eq_getElem_cons hk, e]
theorem info38 : (Try.prog.info? 52).map (fun i => (i.zero, i.size, i.bytes)) = some (some (.agg #[.slice none 0 0, .slice none 0 0]), 2, 48) := by kernel_rfl

/-- Are two series alike? -/
def eqB (x y : Ser) : Bool := Go.Proofs.Ytmidpekkomhogaa.sameL x.1 y.1 && Pnt.sameL x.2 y.2
def sameL : List Ser → List Ser → Bool
  | [], [] => true
  | x :: xs, y :: ys => eqB x y && sameL xs ys
  | _, _ => false
theorem sameL_refl : ∀ xs : List Ser, sameL xs xs = true
  | [] => rfl
  | x :: xs => by rw [sameL, sameL_refl xs, Bool.and_true]; unfold eqB; rw [Go.Proofs.Ytmidpekkomhogaa.sameL_refl, Pnt.sameL_refl]; rfl

end Go.Proofs.Ytmidpekkomhogaa.Ser
end

section
/- Lists of series that the call itself has built: their cells, one more, what a write to the list leaves alone. -/

namespace Go.Proofs.Ytmidpekkomhogaa.Ser
open Go.RowKit

/-- Of which type the block is in which a slice lies. -/
def Typ (w : World) (o : Option Addr) (t : TypeId) : Prop := ∀ b off, o = some ⟨b, off, none⟩ → ∃ cs m, w.heap[b]? = some (.cells cs t m)
theorem Typ.below {w w' : World} {o : Option Addr} {t : TypeId} (h : Typ w o t) (hb : Below w.heap.size w w') : Typ w' o t := fun b off e => by
  obtain ⟨cs, m, hh⟩ := h b off e
  exact ⟨cs, m, (hb.block b (Array.getElem?_eq_some_iff.1 hh).1).trans hh⟩
/-- Two cells that read as a series, whose lists lie in blocks of labels, of points. -/
def OneT (w : World) (u v : Value) (x : Ser) : Prop := ∃ oL cL oP cP, u = .slice oL x.1.length cL ∧ v = .slice oP x.2.length cP ∧ Go.Proofs.Ytmidpekkomhogaa.SeesO w oL x.1 ∧ Pnt.SeesO w oP x.2 ∧ x.1.length ≤ maxLen ∧ x.2.length ≤ maxLen ∧ Typ w oL 49 ∧ Typ w oP 54
theorem OneT.one {w : World} {u v : Value} {x : Ser} (h : OneT w u v x) : One w u v x := by
  obtain ⟨oL, cL, oP, cP, h1, h2, h3, h4, h5, h6, _⟩ := h
  exact ⟨oL, cL, oP, cP, h1, h2, h3, h4, h5, h6⟩
theorem OneT.below {w w' : World} {u v : Value} {x : Ser} (h : OneT w u v x) (hb : Below w.heap.size w w') : OneT w' u v x := by
  obtain ⟨oL, cL, oP, cP, h1, h2, h3, h4, h5, h6, h7, h8⟩ := h
  exact ⟨oL, cL, oP, cP, h1, h2, h3.below hb, h4.below hb, h5, h6, h7.below hb, h8.below hb⟩
/-- A write into a block of another type leaves a slice's cells as they were. -/
theorem typ_other {w w' : World} {o : Option Addr} {t t2 : TypeId} {row : Option Nat} (ht : Typ w o t) (hne : t ≠ t2) (hr : ∀ g, row = some g → ∃ cs m, w.heap[g]? = some (.cells cs t2 m)) (hg : w.grownBy w' row) :
    ∀ b off, o = some ⟨b, off, none⟩ → w'.heap[b]? = w.heap[b]? := by
  intro b off e
  obtain ⟨cs, m, hh⟩ := ht b off e
  refine hg.block b (Array.getElem?_eq_some_iff.1 hh).1 fun e2 => ?_
  obtain ⟨cs2, m2, hh2⟩ := hr b e2.symm
  rw [hh] at hh2
  cases hh2
  exact hne rfl
theorem cell_same {w w' : World} {b off : Nat} (h : w'.heap[b]? = w.heap[b]?) : w'.cell? ⟨b, off, none⟩ = w.cell? ⟨b, off, none⟩ := by
  simp [World.cell?, h]
theorem OneT.grown {w w' : World} {u v : Value} {x : Ser} {row : Option Nat} (h : OneT w u v x) (hr : ∀ g, row = some g → ∃ cs m, w.heap[g]? = some (.cells cs 52 m)) (hg : w.grownBy w' row) : OneT w' u v x := by
  obtain ⟨oL, cL, oP, cP, h1, h2, h3, h4, h5, h6, h7, h8⟩ := h
  have kL := typ_other h7 (by decide) hr hg
  have kP := typ_other h8 (by decide) hr hg
  have hs := hg.size
  refine ⟨oL, cL, oP, cP, h1, h2, ?_, ?_, h5, h6, ?_, ?_⟩
  · rcases h3 with h3 | ⟨b, off, e, hS⟩
    · exact .inl h3
    · exact .inr ⟨b, off, e, Nat.lt_of_lt_of_le hS.low hs, fun j x hx => (cell_same (kL b off e)).trans (hS.at0 j x hx), fun j x hx => (cell_same (kL b off e)).trans (hS.at1 j x hx)⟩
  · rcases h4 with h4 | ⟨b, off, e, hS⟩
    · exact .inl h4
    · exact .inr ⟨b, off, e, Nat.lt_of_lt_of_le hS.low hs, fun j x hx => (cell_same (kP b off e)).trans (hS.at0 j x hx), fun j x hx => (cell_same (kP b off e)).trans (hS.at1 j x hx)⟩
  · intro b off e
    obtain ⟨cs, m, hh⟩ := h7 b off e
    exact ⟨cs, m, (kL b off e).trans hh⟩
  · intro b off e
    obtain ⟨cs, m, hh⟩ := h8 b off e
    exact ⟨cs, m, (kP b off e).trans hh⟩

def flatU (us : List (Value × Value)) : List Value := us.flatMap fun p => [p.1, p.2]
theorem flatU_len (us : List (Value × Value)) : (flatU us).length = us.length * 2 := by
  induction us with
  | nil => rfl
  | cons x xs ih => rw [flatU, List.flatMap_cons, List.length_append]; simp [flatU] at ih ⊢; omega
theorem flatU_snoc (us : List (Value × Value)) (p : Value × Value) : flatU (us ++ [p]) = flatU us ++ [p.1, p.2] := by simp [flatU]
theorem flatU_at : ∀ (us : List (Value × Value)) (j : Nat) (p : Value × Value), us[j]? = some p → (flatU us)[j * 2]? = some p.1 ∧ (flatU us)[j * 2 + 1]? = some p.2
  | [], j, x, h => by simp at h
  | y :: ys, 0, x, h => by simp at h; subst h; simp [flatU]
  | y :: ys, j + 1, x, h => by
    have := flatU_at ys j x (by simpa using h)
    rw [show (j + 1) * 2 = j * 2 + 1 + 1 by omega]
    simpa [flatU] using this
/-- A list of series of the call's own: its cells, and what they read as. -/
structure OwnU (w : World) (B : Nat) (v : Value) (us : List (Value × Value)) (xs : List Ser) : Prop where
  len : us.length = xs.length
  own : w.ownsRow B 52 2 v us.length (flatU us)
  one : ∀ (j : Nat) (x : Ser), xs[j]? = some x → ∃ p, us[j]? = some p ∧ OneT w p.1 p.2 x
theorem OwnU.below {w w' : World} {B : Nat} {v : Value} {us : List (Value × Value)} {xs : List Ser} (h : OwnU w B v us xs) (hb : Below w.heap.size w w') : OwnU w' B v us xs :=
  ⟨h.len, Pnt.own_grown h.own hb, fun j x hx => by
    obtain ⟨p, h1, h2⟩ := h.one j x hx
    exact ⟨p, h1, h2.below hb⟩⟩
theorem own_row_typ {w : World} {B e n : Nat} {v : Value} {xs : List Value} (h : w.ownsRow B e 2 v n xs) : ∀ g, v.ownBlock = some g → ∃ cs m, w.heap[g]? = some (.cells cs e m) := by
  intro g hg
  rcases h.2 with ⟨rfl, _⟩ | ⟨g', cap, cur, rfl, _, hh, _⟩
  · cases hg
  · have : g' = g := by simpa [Value.ownBlock] using hg
    subst this
    exact ⟨_, _, hh⟩
/-- One more series. -/
theorem OwnU.snoc {w w' : World} {B : Nat} {v v' : Value} {us : List (Value × Value)} {xs : List Ser} {p : Value × Value} {x : Ser} (h : OwnU w B v us xs) (hx : OneT w p.1 p.2 x) (hown : w'.ownsRow B 52 2 v' (us.length + 1) (flatU us ++ [p.1, p.2])) (hg : w.grownBy w' v.ownBlock) : OwnU w' B v' (us ++ [p]) (xs ++ [x]) := by
  have hr := own_row_typ h.own
  refine ⟨by rw [List.length_append, List.length_append, h.len]; rfl, by rw [List.length_append, flatU_snoc]; exact hown, fun j y hy => ?_⟩
  by_cases hj : j < xs.length
  · rw [List.getElem?_append_left hj] at hy
    obtain ⟨q, h1, h2⟩ := h.one j y hy
    exact ⟨q, by rw [List.getElem?_append_left (by rw [h.len]; exact hj)]; exact h1, h2.grown hr hg⟩
  · have hjl := (List.getElem?_eq_some_iff.1 hy).1
    rw [List.length_append] at hjl
    simp at hjl
    obtain rfl : j = xs.length := by omega
    rw [List.getElem?_append_right (Nat.le_refl _), Nat.sub_self] at hy
    simp at hy; subst hy
    refine ⟨p, ?_, hx.grown hr hg⟩
    rw [← h.len, List.getElem?_append_right (Nat.le_refl _), Nat.sub_self]; rfl
/-- It reads as its series. -/
theorem OwnU.sees {w : World} {B : Nat} {v : Value} {us : List (Value × Value)} {xs : List Ser} (h : OwnU w B v us xs) : ∃ o c, v = .slice o xs.length c ∧ SeesO w o xs ∧ xs.length ≤ maxLen := by
  have hl := h.len
  rcases h.own.2 with ⟨rfl, h0⟩ | ⟨g, cap, cur, rfl, hg, hh, hn, hcap, hsz, htake⟩
  · have h0' : xs = [] := List.eq_nil_of_length_eq_zero (by rw [← hl]; exact h0)
    subst h0'
    exact ⟨none, 0, rfl, .inl rfl, Nat.zero_le _⟩
  · refine ⟨_, cap, by rw [hl], .inr ⟨g, 0, rfl, (Array.getElem?_eq_some_iff.1 hh).1, fun j x hx => ?_⟩, Nat.le_trans (by rw [← hl]; exact hn) hcap⟩
    obtain ⟨p, h1, h2⟩ := h.one j x hx
    refine ⟨p.1, p.2, ?_, ?_, h2.one⟩
    · have := h.own.cells (g := g) rfl (j * 2) _ (flatU_at us j p h1).1
      rw [← this]; congr 1; simp [Addr.add]
    · have := h.own.cells (g := g) rfl (j * 2 + 1) _ (flatU_at us j p h1).2
      rw [← this]; congr 1 <;> simp [Addr.add]
theorem cells_2v {n : Nat} (w : World) (a b : Value) (t : TypeId) (hn : w.heap.size = n) : ∀ j u, [a, b][j]? = some u → (w.alloc (.cells #[a, b] t)).cell? ((⟨n, 0, none⟩ : Addr).add j) = some u := by
  subst hn
  intro j u hj
  match j, hj with
  | 0, hj => simp at hj; subst hj; simp [Addr.add]
  | 1, hj => simp at hj; subst hj; simp [Addr.add]
  | j + 2, hj => simp at hj
theorem one_2v (o1 o2 : Option Addr) (n1 n2 c1 c2 : Nat) : ∀ v ∈ [Value.slice o1 n1 c1, Value.slice o2 n2 c2], v.oneCell' = true := by
  intro v hv; simp at hv; rcases hv with rfl | rfl <;> rfl
/-- A list of labels, of points, of the call's own: the block's type. -/
theorem typ_own {w : World} {B e n : Nat} {o : Option Addr} {c : Nat} {xs : List Value} (h : w.ownsRow B e 2 (.slice o n c) n xs) : Typ w o e := by
  intro b off eo
  rcases h.2 with ⟨e1, _⟩ | ⟨g, cap, cur, e1, _, hh, _⟩
  · cases e1; cases eo
  · cases e1; cases eo
    exact ⟨_, _, hh⟩
end Go.Proofs.Ytmidpekkomhogaa.Ser
end
