import Derived.Test.YtlnlbahggbbaeaaGreatGd
import Derived.Laws.OwnMore
import Derived.Deep.DeepMust
import Derived.Test.YtlnlbahggbbaeaaGreatGc
import Derived.Lib.BufferKept
import Derived.Test.YtlnlbahggbbaeaaGreatGa
section
/- Labels: those of some names, and all others. -/

namespace Go.Proofs.YtlnlbahggbbaeaaGreat
open Go.RowKit

theorem info38 : (Tryz.prog.info? 99).map (fun i => (i.zero, i.size, i.bytes)) = some (some (.agg #[.string ⟨#[]⟩, .string ⟨#[]⟩]), 2, 32) := by kernel_rfl
/-- A slice that reads as these names. -/
def SeesN (w : World) (o : Option Addr) (ns : List ByteArray) : Prop := ns = [] ∨ ∃ b off, o = some ⟨b, off, none⟩ ∧ b < w.heap.size ∧ ∀ j, j < ns.length → w.cell? ⟨b, off + j, none⟩ = some (.string (ns.getD j ByteArray.empty))
theorem SeesN.below {w w' : World} {o : Option Addr} {ns : List ByteArray} (h : SeesN w o ns) (hb : Below w.heap.size w w') : SeesN w' o ns :=
  h.imp id fun ⟨b, off, e, h1, h2⟩ => ⟨b, off, e, Nat.lt_of_lt_of_le h1 hb.size, fun j hj => (hb.cell (p := ⟨b, off + j, none⟩) h1).trans (h2 j hj)⟩
theorem contains_any (o : Option Addr) (c : Nat) (ns : List ByteArray) (x : ByteArray) (w : World) (hm : ns.length ≤ maxLen) (h : SeesN w o ns) :
    Calls Tryz.prog 76 #[.slice o ns.length c, .string x] w fun e w' => e = .returned (.bool (Lib.containsS ns x)) ∧ w' = w := by
  rcases h with rfl | ⟨b, off, rfl, _, hc⟩
  · exact Tryz.slices_Contains_string_empty o c x w
  · have := Tryz.slices_Contains_string b off ns.length c ns x w (Nat.le_refl _) (by unfold maxLen at hm; omega) hc
    rwa [List.take_length] at this

set_option maxHeartbeats 1000000 in
set_option maxRecDepth 100000 in
theorem without1_any (p : Nat) (o : Option Addr) (c : Nat) (ns : List ByteArray) (x : Lab) (w : World) (hm : ns.length ≤ maxLen) (hp : p < w.heap.size) (hc : w.cell? ⟨p, 0, none⟩ = some (.slice o ns.length c)) (h : SeesN w o ns) :
    Calls Tryz.prog 75 #[.agg #[.string x.1, .string x.2], .pointer (some ⟨p, 0, none⟩)] w fun e w' => e = .returned (.bool (!Lib.containsS ns x.1)) ∧ Below w.heap.size w w' := by
  have HC := Lib.hid (fun W (hb : Below w.heap.size w W) => contains_any o c ns x.1 W hm (h.below hb))
  obtain ⟨n, hn⟩ : ∃ n, ns.length = n := ⟨_, rfl⟩
  rw [hn] at hc HC
  clear h hm hn
  generalize Lib.containsS ns x.1 = r at HC ⊢
  go_enter Tryz.func75, Tryz.ntmps75
  go_wp2_with fail
  refine (HC.out _ ((Below.refl _ _).alloc (Nat.le_refl _) _)).mono ?_
  rintro e w' ⟨rfl, rfl⟩
  go_wp2
  go_ret
  exact ⟨rfl, (Below.refl _ _).alloc (Nat.le_refl _) _⟩

/-- The cells of labels. -/
def flatL (xs : List Lab) : List Value := xs.flatMap fun x => [.string x.1, .string x.2]
theorem flatL_len (xs : List Lab) : (flatL xs).length = xs.length * 2 := by
  induction xs with
  | nil => rfl
  | cons x xs ih => rw [flatL, List.flatMap_cons, List.length_append]; simp [flatL] at ih ⊢; omega
theorem flatL_snoc (xs : List Lab) (x : Lab) : flatL (xs ++ [x]) = flatL xs ++ [.string x.1, .string x.2] := by simp [flatL]
theorem cells_2 (w : World) (a b : Value) (t : TypeId) : ∀ j u, [a, b][j]? = some u → (w.alloc (.cells #[a, b] t)).cell? ((⟨w.heap.size, 0, none⟩ : Addr).add j) = some u := by
  intro j u hj
  match j, hj with
  | 0, hj => simp at hj; subst hj; simp [Addr.add]
  | 1, hj => simp at hj; subst hj; simp [Addr.add]
  | j + 2, hj => simp at hj
theorem one_2 (a b : ByteArray) : ∀ v ∈ [Value.string a, Value.string b], v.oneCell' = true := by
  intro v hv; simp at hv; rcases hv with rfl | rfl <;> rfl

theorem own_grown {w w' : World} {B e size n : Nat} {v : Value} {xs : List Value} (h : w.ownsRow B e size v n xs) (hb : Below w.heap.size w w') : w'.ownsRow B e size v n xs :=
  h.kept (row := none) ⟨hb.os, hb.tape, hb.output, hb.size, fun k hk _ => hb.block k hk⟩ (by cases hv : v.ownBlock <;> simp)
theorem filter_step {pr : Lab → Bool} {xs ys : List Lab} {k : Nat} {x : Lab} (h : ys = (xs.take k).filter pr) (hx : xs[k]? = some x) : (xs.take (k + 1)).filter pr = if pr x then ys ++ [x] else ys := by
  rw [List.take_add_one, hx, List.filter_append, ← h]
  by_cases hp : pr x = true <;> simp [hp]
theorem box_cells (w : World) (x : Lab) : (w.alloc (Obj.cells #[Value.string x.1, Value.string x.2] 99)).heap[w.heap.size]? = some (.cells #[.string x.1, .string x.2] 99 (0, 0)) := Array.getElem?_push_size
theorem box_reads {w W : World} {k : Nat} {x : Lab} (h : w.heap[k]? = some (.cells #[.string x.1, .string x.2] 99 (0, 0))) (hb : Below w.heap.size w W) : W.cell? ⟨k, 0, none⟩ = some (.string x.1) ∧ W.cell? ⟨k, 1, none⟩ = some (.string x.2) := by
  have h1 := (hb.block _ (Array.getElem?_eq_some_iff.1 h).1).trans h
  constructor <;> simp [World.cell?, h1]

end Go.Proofs.YtlnlbahggbbaeaaGreat
end

section
/- Labels: those of some names, and all others: the calls. -/

namespace Go.Proofs.YtlnlbahggbbaeaaGreat
open Go.RowKit

theorem own_mono {w : World} {base base' e size n : Nat} {v : Value} {xs : List Value} (h : w.ownsRow base e size v n xs) (hb : base' ≤ base) : w.ownsRow base' e size v n xs :=
  ⟨h.1, h.2.imp id fun ⟨g, cap, cur, h1, h2, h3⟩ => ⟨g, cap, cur, h1, Nat.le_trans hb h2, h3⟩⟩
theorem flatL_at : ∀ (xs : List Lab) (j : Nat) (x : Lab), xs[j]? = some x → (flatL xs)[j * 2]? = some (.string x.1) ∧ (flatL xs)[j * 2 + 1]? = some (.string x.2)
  | [], j, x, h => by simp at h
  | y :: ys, 0, x, h => by simp at h; subst h; simp [flatL]
  | y :: ys, j + 1, x, h => by
    have := flatL_at ys j x (by simpa using h)
    rw [show (j + 1) * 2 = j * 2 + 1 + 1 by omega]
    simpa [flatL] using this
/-- A slice of the call's own reads as its labels. -/
theorem own_sees {w : World} {B : Nat} {v : Value} {xs : List Lab} (h : w.ownsRow B 99 2 v xs.length (flatL xs)) : ∃ o c, v = .slice o xs.length c ∧ SeesO w o xs ∧ xs.length ≤ maxLen := by
  rcases h.2 with ⟨rfl, h0⟩ | ⟨g, cap, cur, rfl, hg, hh, hn, hcap, hsz, htake⟩
  · have h0' : xs = [] := List.eq_nil_of_length_eq_zero h0
    subst h0'
    exact ⟨none, 0, rfl, .inl rfl, Nat.zero_le _⟩
  · refine ⟨_, cap, rfl, .inr ⟨g, 0, rfl, (Array.getElem?_eq_some_iff.1 hh).1, fun j x hx => ?_, fun j x hx => ?_⟩, Nat.le_trans hn hcap⟩
    · have := h.cells (g := g) rfl (j * 2) _ (flatL_at xs j x hx).1
      rw [← this]; congr 1; simp [Addr.add]
    · have := h.cells (g := g) rfl (j * 2 + 1) _ (flatL_at xs j x hx).2
      rw [← this]; congr 1

def inB (ns : List ByteArray) (x : Lab) : Bool := Lib.containsS ns x.1
def outB (ns : List ByteArray) (x : Lab) : Bool := !Lib.containsS ns x.1

set_option maxHeartbeats 2000000 in
set_option maxRecDepth 100000 in
theorem keepW_any (p : Nat) (pr : Lab → Bool) (o : Option Addr) (cap : Nat) (xs : List Lab) (w : World) (hm : xs.length ≤ 1000000) (hS : SeesO w o xs) (hv : ∀ x ∈ xs, x.1.size ≤ 281474976710656 ∧ x.2.size ≤ 281474976710656)
    (hp : ∀ (x : Lab) (W : World), Below w.heap.size w W → Calls Tryz.prog 75 #[.agg #[.string x.1, .string x.2], .pointer (some ⟨p, 0, none⟩)] W fun e w' => e = .returned (.bool (pr x)) ∧ Below W.heap.size W w') :
    Calls Tryz.prog 74 #[.slice o xs.length cap, .func (.func 75) #[] #[.pointer (some ⟨p, 0, none⟩)]] w fun e w' => (∃ v, e = .returned v ∧ w'.ownsRow w.heap.size 99 2 v (xs.filter pr).length (flatL (xs.filter pr))) ∧ Below w.heap.size w w' := by
  obtain ⟨i0, hi, hz0, hz1, hz2⟩ := info_parts info38
  obtain ⟨n, hn⟩ : ∃ n, xs.length = n := ⟨_, rfl⟩
  have HN := Lib.hid hn
  rw [hn] at hm ⊢
  clear hn
  have HSO := Lib.hid hS
  have HV := Lib.hid hv
  have HP := Lib.hid hp
  have HC := Lib.hid (fun (x : Lab) W (h : x.1.size ≤ 281474976710656 ∧ x.2.size ≤ 281474976710656) => cloneL_any x.1 x.2 W h.1 h.2)
  clear hS hv hp
  go_enter Tryz.func74, Tryz.ntmps74
  go_wp2
  go_loopw [5, 7, 10] (fun v5 v7 v10 wr => ∃ (k : Nat) (ys : List Lab), v10 = .int .i64 k ∧ k ≤ n ∧ ys.length ≤ k ∧ Hid (ys = (xs.take k).filter pr) ∧ wr.ownsRow w.heap.size 99 2 v5 ys.length (flatL ys) ∧ Hid (Below w.heap.size w wr)) (fun _ _ v10 _ => n - (Go.RowKit.intOf v10).toNat)
  case atStart => exact ⟨0, [], rfl, Nat.zero_le _, Nat.zero_le _, rfl, World.ownsRow_nil _ _ _ _, Below.refl _ _⟩
  case round =>
    obtain ⟨k, ys, rfl, hk, hyk, HY, hown, HB⟩ := hrel
    by_cases hkn : k < n
    · have j1 : (k : Int) < n := by omega
      obtain ⟨x, hx⟩ := get_lt HN.out hkn
      obtain ⟨b, off, rfl, hS⟩ := (HSO.out.below (HB.out.mono (Nat.le_refl _))).at hx
      have c0 := hS.at0 k x hx
      have c1 := hS.at1 k x hx
      have HX := Lib.hid hx
      have hsz := Lib.hid (HV.out x (List.mem_of_getElem? hx))
      have HB1 := Lib.hid (show Below w.heap.size w (wr.alloc (Obj.cells #[Value.string x.1, Value.string x.2] 99)) from HB.out.alloc (by have := HB.out.size; omega) _)
      have HO := Lib.hid hown
      clear hS hx hown
      go_wp2_with fail
      refine (HP.out x _ HB1.out).mono ?_
      rintro e wq ⟨rfl, bq⟩
      have hbox := box_reads (box_cells wr x) bq
      obtain ⟨r0, r1⟩ := hbox
      have HBq := Lib.hid (HB1.out.trans (bq.mono (by have := HB1.out.size; exact this)))
      have HOq := Lib.hid (own_grown (HO.out.alloc (Obj.cells #[Value.string x.1, Value.string x.2] 99)) bq)
      have hwz := HBq.out.size
      have HZ := Lib.hid hwz
      clear bq hwz
      cases hpx : pr x with
      | false =>
        have H2 := Lib.hid (show ys = (xs.take (k + 1)).filter pr by rw [filter_step HY.out HX.out, hpx]; simp)
        clear hpx
        go_wp2
        go_roundw
        case rel => exact ⟨k + 1, ys, by go_num, by omega, by omega, H2, HOq.out, HBq⟩
        case measure => simp [Go.RowKit.intOf]; omega
      | true =>
        have H2 := Lib.hid (show ys ++ [x] = (xs.take (k + 1)).filter pr by rw [filter_step HY.out HX.out, hpx]; simp)
        clear hpx
        go_wp2_with fail
        refine (HC.out x _ hsz.out).mono ?_
        rintro e w2 ⟨rfl, b2⟩
        have HB2 := Lib.hid (HBq.out.trans (b2.mono HZ.out))
        have hO2 := own_grown HOq.out b2
        have hzw := HB2.out.size
        clear b2
        go_wp2_with (at_builtin; go_must (refine wpList_append_own _ rfl _ _ 49 rfl w.heap.size 99 i0 (.agg #[.string ⟨#[]⟩, .string ⟨#[]⟩]) 2 32 Tryz.underlying49 hi hz0 hz1 hz2 rfl (by decide) _ _ _ rfl (hO2.alloc _) ⟨w2.heap.size, 0, none⟩ 1 1 [.string x.1, .string x.2] rfl rfl (cells_2 _ _ _ _) (one_2 _ _) (by unfold maxLen; omega) (by omega) (by simp; omega) ?_); intro v' w3 hown' hgrow3 hnil3)
        have hB3 : Below w.heap.size w w3 := Below.grown (HB2.out.alloc (by omega) _) hgrow3 (by simp; omega) (fun j hj => by have := (hO2.lt _ hj).1; omega)
        have hO3 : w3.ownsRow w.heap.size 99 2 v' (ys ++ [x]).length (flatL (ys ++ [x])) := by
          rw [List.length_append, flatL_snoc]; exact hown'
        have HB3 := Lib.hid hB3
        clear hown' hgrow3 hnil3 hO2 hB3 hzw
        go_roundw
        case rel => exact ⟨k + 1, ys ++ [x], by go_num, by omega, by simp; omega, H2, hO3, HB3⟩
        case measure => simp [Go.RowKit.intOf]; omega
    · have H2 := Lib.hid (show ys = xs.filter pr by rw [HY.out, List.take_of_length_le (by rw [HN.out]; omega)])
      go_wp2
      go_ret
      refine ⟨?_, HB.out⟩
      rw [← H2.out]
      exact ⟨_, rfl, hown⟩

set_option maxHeartbeats 2000000 in
set_option maxRecDepth 100000 in
theorem without_any (o on : Option Addr) (cap cn : Nat) (xs : List Lab) (ns : List ByteArray) (w : World) (hm : xs.length ≤ 1000000) (hmn : ns.length ≤ maxLen) (hS : SeesO w o xs) (hN : SeesN w on ns) (hv : ∀ x ∈ xs, x.1.size ≤ 281474976710656 ∧ x.2.size ≤ 281474976710656) :
    Calls Tryz.prog 23 #[.slice o xs.length cap, .slice on ns.length cn] w fun e w' => (∃ v, e = .returned v ∧ w'.ownsRow w.heap.size 99 2 v (xs.filter (outB ns)).length (flatL (xs.filter (outB ns)))) ∧ Below w.heap.size w w' := by
  have hb : Below w.heap.size w (w.alloc (Obj.cells #[Value.slice on ns.length cn] 96)) := (Below.refl _ _).alloc (Nat.le_refl _) _
  have hcell : (w.alloc (Obj.cells #[Value.slice on ns.length cn] 96)).cell? ⟨w.heap.size, 0, none⟩ = some (.slice on ns.length cn) := by simp
  have hlt : w.heap.size < (w.alloc (Obj.cells #[Value.slice on ns.length cn] 96)).heap.size := by simp
  have HC := Lib.hid (keepW_any w.heap.size (outB ns) o cap xs (w.alloc (Obj.cells #[Value.slice on ns.length cn] 96)) hm (hS.below hb) hv (fun x W hW => without1_any w.heap.size on cn ns x W hmn (Nat.lt_of_lt_of_le hlt hW.size) ((hW.cell (p := ⟨w.heap.size, 0, none⟩) hlt).trans hcell) ((hN.below hb).below hW)))
  clear hS hN hv hcell hlt hb
  go_enter Tryz.func23, Tryz.ntmps23
  go_wp2_with fail
  refine HC.out.mono ?_
  rintro e w' ⟨⟨v, rfl, hown⟩, hb⟩
  have HO := Lib.hid hown
  clear hown
  go_wp2
  go_ret
  refine ⟨⟨v, rfl, own_mono HO.out (by simp)⟩, ((Below.refl _ _).alloc (Nat.le_refl _) _).trans (hb.mono (by simp))⟩
end Go.Proofs.YtlnlbahggbbaeaaGreat
end

section
/- Labels: brought into order, plain. -/

namespace Go.Proofs.YtlnlbahggbbaeaaGreat
open Go.RowKit Go.Lib Go.Sort

abbrev nm (x : Lab) : List UInt8 := x.1.data.toList
def leN (a b : Lab) : Bool := !decide (nm b < nm a)
def sortL (xs : List Lab) : List Lab := xs.mergeSort leN
def tidyB (xs : List Lab) : Bool := rightB (sortL xs)
theorem leN_trans (a b c : Lab) (h1 : leN a b = true) (h2 : leN b c = true) : leN a c = true := by
  simp only [leN, Bool.not_eq_true', decide_eq_false_iff_not] at *
  intro h
  by_cases e : nm c = nm b
  · rw [e] at h; exact h1 h
  · exact h1 (lt_trans' (lt_of_not h2 e) h)
theorem leN_total (a b : Lab) : (leN a b || leN b a) = true := by
  simp only [leN, Bool.or_eq_true, Bool.not_eq_true', decide_eq_false_iff_not]
  by_cases h : nm b < nm a
  · exact .inr (lt_asymm' h)
  · exact .inl h
theorem sortL_perm (xs : List Lab) : (sortL xs).Perm xs := List.mergeSort_perm _ _
theorem sortL_sorted (xs : List Lab) : (sortL xs).Pairwise (fun a b => leN a b = true) := List.pairwise_mergeSort leN_trans leN_total xs
theorem rises_some : ∀ (xs : List Lab) (n : ByteArray), risesB (some n) xs = true → (∀ x ∈ xs, n.data.toList < nm x) ∧ xs.Pairwise (fun a b => nm a < nm b) ∧ ∀ x ∈ xs, fitsB x.1 x.2 = true
  | [], n, _ => by simp
  | x :: xs, n, h => by
    simp only [risesB, Bool.and_eq_true, bytesLess_eq, decide_eq_true_eq, ByteArray.toList_eq] at h
    obtain ⟨⟨h1, h2⟩, h3⟩ := h
    obtain ⟨a1, a2, a3⟩ := rises_some xs x.1 h3
    refine ⟨?_, List.pairwise_cons.2 ⟨a1, a2⟩, ?_⟩
    · intro y hy
      rcases List.mem_cons.1 hy with rfl | hy
      · exact h2
      · exact lt_trans' h2 (a1 y hy)
    · intro y hy
      rcases List.mem_cons.1 hy with rfl | hy
      · exact h1
      · exact a3 y hy
theorem rises_none : ∀ (xs : List Lab), risesB none xs = true → xs.Pairwise (fun a b => nm a < nm b) ∧ ∀ x ∈ xs, fitsB x.1 x.2 = true
  | [], _ => by simp
  | x :: xs, h => by
    simp only [risesB, Bool.and_eq_true] at h
    obtain ⟨a1, a2, a3⟩ := rises_some xs x.1 h.2
    refine ⟨List.pairwise_cons.2 ⟨a1, a2⟩, ?_⟩
    intro y hy
    rcases List.mem_cons.1 hy with rfl | hy
    · exact h.1
    · exact a3 y hy
theorem rises_mk : ∀ (xs : List Lab) (n : Option ByteArray), (∀ m, n = some m → ∀ x ∈ xs, m.data.toList < nm x) → xs.Pairwise (fun a b => nm a < nm b) → (∀ x ∈ xs, fitsB x.1 x.2 = true) → risesB n xs = true
  | [], n, _, _, _ => by cases n <;> rfl
  | x :: xs, n, h1, h2, h3 => by
    have h2' := List.pairwise_cons.1 h2
    have ih := rises_mk xs (some x.1) (fun m e y hy => by cases e; exact h2'.1 y hy) h2'.2 (fun y hy => h3 y (List.mem_cons_of_mem _ hy))
    have hf := h3 x List.mem_cons_self
    cases n with
    | none => simp only [risesB, hf, ih, Bool.and_true]
    | some m =>
      have := h1 m rfl x List.mem_cons_self
      simp only [risesB, hf, ih, Bool.and_true, Bool.true_and, bytesLess_eq, decide_eq_true_eq, ByteArray.toList_eq]
      exact this
/-- Just the tidy lists are right. -/
theorem right_iff (xs : List Lab) : rightB xs = true ↔ xs.length ≤ 8 ∧ xs.Pairwise (fun a b => nm a < nm b) ∧ ∀ x ∈ xs, fitsB x.1 x.2 = true := by
  unfold rightB
  rw [Bool.and_eq_true, decide_eq_true_eq]
  exact ⟨fun ⟨h1, h2⟩ => ⟨h1, rises_none xs h2⟩, fun ⟨h1, h2, h3⟩ => ⟨h1, rises_mk xs none (fun m e => by cases e) h2 h3⟩⟩
theorem same_name {xs : List Lab} (h : xs.Pairwise (fun a b => nm a ≠ nm b)) : ∀ a ∈ xs, ∀ b ∈ xs, nm a = nm b → a = b := by
  induction xs with
  | nil => intro a ha; simp at ha
  | cons x xs ih =>
    obtain ⟨h1, h2⟩ := List.pairwise_cons.1 h
    intro a ha b hb e
    rcases List.mem_cons.1 ha with e1 | ha2 <;> rcases List.mem_cons.1 hb with e2 | hb2
    · rw [e1, e2]
    · exact absurd (by rw [← e1]; exact e) (h1 b hb2)
    · exact absurd (by rw [← e2]; exact e.symm) (h1 a ha2)
    · exact ih h2 a ha2 b hb2 e
/-- Lists in order, of the same labels, one of which is right, are the same. -/
theorem sorted_same {s t : List Lab} (hp : s.Perm t) (h1 : s.Pairwise (fun a b => leN a b = true)) (h2 : t.Pairwise (fun a b => leN a b = true)) (hr : rightB s = true) : s = t := by
  obtain ⟨_, hs, _⟩ := (right_iff s).1 hr
  have hd : s.Pairwise (fun a b => nm a ≠ nm b) := hs.imp fun {a b} h e => by rw [e] at h; exact lt_asymm' h h
  refine List.Perm.eq_of_pairwise (le := fun a b => leN a b = true) (fun a b ha hb hab hba => ?_) h1 h2 hp
  refine same_name hd a ha b (hp.mem_iff.2 hb) ?_
  simp only [leN, Bool.not_eq_true', decide_eq_false_iff_not] at hab hba
  exact Classical.byContradiction fun e => hba (lt_of_not hab (fun h => e h.symm))
theorem right_sorted {s : List Lab} (hr : rightB s = true) : s.Pairwise (fun a b => leN a b = true) :=
  ((right_iff s).1 hr).2.1.imp fun {a b} h => by simp only [leN, Bool.not_eq_true', decide_eq_false_iff_not]; exact lt_asymm' h
theorem sorted_right {s xs : List Lab} (hp : s.Perm xs) (h1 : s.Pairwise (fun a b => leN a b = true)) : (rightB s = true → s = sortL xs) ∧ rightB s = tidyB xs := by
  have hps : s.Perm (sortL xs) := hp.trans (sortL_perm xs).symm
  have e1 : rightB s = true → s = sortL xs := sorted_same hps h1 (sortL_sorted xs)
  refine ⟨e1, ?_⟩
  unfold tidyB
  cases hs : rightB s with
  | true => rw [← e1 hs, hs]
  | false =>
    cases ht : rightB (sortL xs) with
    | false => rfl
    | true => have := sorted_same hps.symm (sortL_sorted xs) h1 ht; rw [this, hs] at ht; cases ht
end Go.Proofs.YtlnlbahggbbaeaaGreat
end

section
/- Labels: their text. -/

namespace Go.Proofs.YtlnlbahggbbaeaaGreat
open Go.RowKit

def pairT (x : Lab) : List UInt8 := x.1.data.toList ++ (61 :: quoteL x.2.data.toList)
def tailT : List Lab → List UInt8
  | [] => [125]
  | x :: xs => 44 :: (pairT x ++ tailT xs)
def headT : List Lab → List UInt8
  | [] => [125]
  | x :: xs => pairT x ++ tailT xs
def textT (xs : List Lab) : List UInt8 := 123 :: headT xs

end Go.Proofs.YtlnlbahggbbaeaaGreat
end

section
/- Labels: two texts are the same just if the labels are; the order of lists: plain. -/

namespace Go.Proofs.YtlnlbahggbbaeaaGreat
open Go.RowKit Go.Lib Go.Sort

theorem encode_no61 (r : Nat) (h1 : r ≠ 61) : (61 : UInt8) ∉ Lib.encodeRune (r : Int) := by
  have key : ∀ z : Int, 0 ≤ z → z < 256 → z ≠ 61 → z.toNat.toUInt8 ≠ 61 := by
    intro z h0 h256 ha h
    have := congrArg UInt8.toNat h
    simp at this; omega
  unfold Lib.encodeRune Lib.encodeRuneZ
  intro hx
  split at hx
  · simp only [List.map_cons, List.map_nil, List.mem_singleton] at hx
    exact key _ (by omega) (by omega) (by omega) hx.symm
  · split at hx
    · simp only [List.map_cons, List.map_nil, List.mem_cons, List.not_mem_nil, or_false] at hx
      rcases hx with hx | hx <;> exact key _ (by omega) (by omega) (by omega) hx.symm
    · split at hx
      · simp only [List.map_cons, List.map_nil, List.mem_cons, List.not_mem_nil, or_false] at hx
        rcases hx with hx | hx | hx <;> exact key _ (by omega) (by omega) (by omega) hx.symm
      · split at hx
        · simp only [List.map_cons, List.map_nil, List.mem_cons, List.not_mem_nil, or_false] at hx
          rcases hx with hx | hx | hx | hx <;> exact key _ (by omega) (by omega) (by omega) hx.symm
        · simp only [List.map_cons, List.map_nil, List.mem_cons, List.not_mem_nil, or_false] at hx
          rcases hx with hx | hx | hx <;> revert hx <;> decide
theorem name_no61 {l : List UInt8} (h : nameB l = true) : (61 : UInt8) ∉ l := by
  rw [← sufs_heads l]
  intro hm
  obtain ⟨t, ht, hx⟩ := List.mem_flatMap.1 hm
  have hr := name_right l h t ht
  have hk := nameGo_kinds _ _ h (rune t) (by unfold spell; exact List.mem_map_of_mem ht)
  have he : head t = Lib.encodeRune ((Lib.decodeL t).1 : Int) := by
    unfold head; rw [Lib.encode_decode t (sufs_ne l t ht) hr]
  rw [he] at hx
  refine encode_no61 _ (fun e => ?_) hx
  have : rune t = 61 := by unfold rune; rw [e]; rfl
  rw [this] at hk
  revert hk; decide
theorem name_ne {l : List UInt8} (h : nameB l = true) : l ≠ [] := by
  rintro rfl; revert h; decide
theorem split61 : ∀ (a b u v : List UInt8), (61 : UInt8) ∉ a → (61 : UInt8) ∉ b → a ++ 61 :: u = b ++ 61 :: v → a = b ∧ u = v
  | [], [], u, v, _, _, h => by simpa using h
  | [], c :: b, u, v, _, h2, h => by simp at h; exact absurd h.1.symm (fun e => h2 (by rw [e]; simp))
  | c :: a, [], u, v, h1, _, h => by simp at h; exact absurd h.1 (fun e => h1 (by rw [e]; simp))
  | c :: a, d :: b, u, v, h1, h2, h => by
    simp only [List.cons_append, List.cons.injEq] at h
    obtain ⟨e1, e2⟩ := split61 a b u v (fun hm => h1 (List.mem_cons_of_mem _ hm)) (fun hm => h2 (List.mem_cons_of_mem _ hm)) h.2
    exact ⟨by rw [h.1, e1], e2⟩
theorem quote_app {a b u v : List UInt8} (h : quoteL a ++ u = quoteL b ++ v) : a = b ∧ u = v := by
  unfold quoteL at h
  simp only [List.cons_append, List.append_assoc, List.cons.injEq, true_and, List.nil_append] at h
  have h1 := rd_quote a u _ (Nat.le_refl _)
  have h2 := rd_quote b v _ (Nat.le_refl _)
  rw [h] at h1
  rw [h1] at h2
  have := Option.some.inj h2
  injection this with e1 e2
  exact ⟨e1, e2⟩
theorem pair_app {x y : Lab} {u v : List UInt8} (hx : nameB x.1.data.toList = true) (hy : nameB y.1.data.toList = true) (h : pairT x ++ u = pairT y ++ v) : x = y ∧ u = v := by
  unfold pairT at h
  rw [List.append_assoc, List.append_assoc, List.cons_append, List.cons_append] at h
  obtain ⟨e1, e2⟩ := split61 _ _ _ _ (name_no61 hx) (name_no61 hy) h
  obtain ⟨e3, e4⟩ := quote_app e2
  exact ⟨Prod.ext (bytes_ext e1) (bytes_ext e3), e4⟩
theorem tail_inj : ∀ (xs ys : List Lab), (∀ x ∈ xs, nameB x.1.data.toList = true) → (∀ y ∈ ys, nameB y.1.data.toList = true) → tailT xs = tailT ys → xs = ys
  | [], [], _, _, _ => rfl
  | [], y :: ys, _, _, h => by simp [tailT] at h
  | x :: xs, [], _, _, h => by simp [tailT] at h
  | x :: xs, y :: ys, hx, hy, h => by
    simp only [tailT, List.cons.injEq, true_and] at h
    obtain ⟨e1, e2⟩ := pair_app (hx x List.mem_cons_self) (hy y List.mem_cons_self) h
    rw [e1, tail_inj xs ys (fun z hz => hx z (List.mem_cons_of_mem _ hz)) (fun z hz => hy z (List.mem_cons_of_mem _ hz)) e2]
theorem pair_ne (x : Lab) (hx : nameB x.1.data.toList = true) (u : List UInt8) : pairT x ++ u ≠ [125] := by
  intro h
  have h1 := congrArg List.length h
  have h2 : 0 < x.1.data.toList.length := List.length_pos_iff.2 (name_ne hx)
  unfold pairT quoteL at h1
  simp only [List.length_append, List.length_cons, List.length_nil] at h1
  omega
theorem text_inj (xs ys : List Lab) (hx : ∀ x ∈ xs, nameB x.1.data.toList = true) (hy : ∀ y ∈ ys, nameB y.1.data.toList = true) (h : textT xs = textT ys) : xs = ys := by
  unfold textT at h
  simp only [List.cons.injEq, true_and] at h
  match xs, ys, hx, hy, h with
  | [], [], _, _, _ => rfl
  | [], y :: ys, _, hy, h => exact absurd h.symm (pair_ne y (hy y List.mem_cons_self) _)
  | x :: xs, [], hx, _, h => exact absurd h (pair_ne x (hx x List.mem_cons_self) _)
  | x :: xs, y :: ys, hx, hy, h =>
    obtain ⟨e1, e2⟩ := pair_app (hx x List.mem_cons_self) (hy y List.mem_cons_self) h
    rw [e1, tail_inj xs ys (fun z hz => hx z (List.mem_cons_of_mem _ hz)) (fun z hz => hy z (List.mem_cons_of_mem _ hz)) e2]
theorem right_names {xs : List Lab} (h : rightB xs = true) : ∀ x ∈ xs, nameB x.1.data.toList = true := fun x hx => by
  have := ((right_iff xs).1 h).2.2 x hx
  unfold fitsB at this
  rw [Bool.and_eq_true] at this
  exact this.1

/-! The order of two labels, of two lists. -/
end Go.Proofs.YtlnlbahggbbaeaaGreat
end

section
/- Two lists of labels compared: a call that only reads. -/

namespace Go.Proofs.YtlnlbahggbbaeaaGreat
open Go.RowKit

theorem quietB {w wr : World} (h : ∃ q, wr = w.drewN q) : Below w.heap.size w wr := by
  obtain ⟨q, rfl⟩ := h
  exact ⟨rfl, rfl, rfl, Nat.le_refl _, fun _ _ => rfl⟩
theorem quietQ {w wr : World} (h : ∃ q, wr = w.drewN q) (n : Nat) : ∃ q, wr.drewN n = w.drewN q := by
  obtain ⟨q, rfl⟩ := h
  exact ⟨q + n, World.drewN_drewN _ _ _⟩

set_option maxHeartbeats 2000000 in
set_option maxRecDepth 100000 in
theorem sameLabels_quiet (o1 o2 : Option Addr) (c1 c2 : Nat) (xs ys : List Lab) (w : World) (hm : xs.length ≤ maxLen) (hm2 : ys.length ≤ maxLen) (h1 : SeesO w o1 xs) (h2 : SeesO w o2 ys) :
    Calls Tryz.prog 25 #[.slice o1 xs.length c1, .slice o2 ys.length c2] w fun e w' => e = .returned (.bool (sameL xs ys)) ∧ ∃ q, w' = w.drewN q := by
  obtain ⟨n, hn⟩ : ∃ n, xs.length = n := ⟨_, rfl⟩
  obtain ⟨m, hm'⟩ : ∃ m, ys.length = m := ⟨_, rfl⟩
  have HN := Lib.hid hn
  have HM := Lib.hid hm'
  rw [hn] at hm ⊢
  rw [hm'] at hm2 ⊢
  clear hn hm'
  unfold maxLen at hm hm2
  by_cases hnm : n = m
  · subst hnm
    have HS1 := Lib.hid h1
    have HS2 := Lib.hid h2
    clear h1 h2
    go_enter Tryz.func25, Tryz.ntmps25
    go_wp2
    go_loopw [5] (fun v13 wr => ∃ k : Nat, v13 = .int .i64 k ∧ k ≤ n ∧ Hid (∃ q, wr = w.drewN q) ∧ Hid (sameL (xs.drop k) (ys.drop k) = sameL xs ys)) (fun v13 _ => n - (Go.RowKit.intOf v13).toNat)
    case atStart => exact ⟨0, rfl, Nat.zero_le _, ⟨0, rfl⟩, rfl⟩
    case round =>
      obtain ⟨k, rfl, hk, HB, H⟩ := hrel
      by_cases hkn : k < n
      · have j1 : (k : Int) < n := by omega
        obtain ⟨x, hx⟩ := get_lt HN.out hkn
        obtain ⟨b, off, rfl, hS⟩ := (HS1.out.below (quietB HB.out)).at hx
        obtain ⟨y, hy⟩ := get_lt HM.out hkn
        obtain ⟨b2, off2, rfl, hS2⟩ := (HS2.out.below (quietB HB.out)).at hy
        have c0 : ∀ n, (wr.drewN n).cell? ⟨b, off + k * 2, none⟩ = some (.string x.1) := fun _ => hS.at0 k x hx
        have c1 : ∀ n, (wr.drewN n).cell? ⟨b, off + k * 2 + 1, none⟩ = some (.string x.2) := fun _ => hS.at1 k x hx
        have d0 : ∀ n, (wr.drewN n).cell? ⟨b2, off2 + k * 2, none⟩ = some (.string y.1) := fun _ => hS2.at0 k y hy
        have d1 : ∀ n, (wr.drewN n).cell? ⟨b2, off2 + k * 2 + 1, none⟩ = some (.string y.2) := fun _ => hS2.at1 k y hy
        have HX := Lib.hid (drop_at hx)
        have HY := Lib.hid (drop_at hy)
        clear hS hS2 hx hy
        go_wp2_with fail
        have hq : Tryz.prog.eqGuardType Tryz.prog.depth 99 = false := by kernel_rfl
        have hS : Tryz.prog.underlying 99 = some (.struct (Tryz.prog.fieldsOf 99)) := by kernel_rfl
        have hp : Tryz.prog.stoodInHeld 99 = false := by kernel_rfl
        have hr : ∀ w, (Op.equalIn 10000 99 (.agg #[.string x.1, .string x.2]) (.agg #[.string y.1, .string y.2])).run Tryz.prog w = .ok (eqB x y) w := fun w => equalIn38 x y w
        go_quiet (fail)
        clear hq hS hp hr
        have HBq := Lib.hid (quietQ HB.out nq)
        cases he : eqB x y with
        | true =>
          have H2 := Lib.hid (show sameL (xs.drop (k + 1)) (ys.drop (k + 1)) = sameL xs ys by rw [← H.out, HX.out, HY.out, sameL, he, Bool.true_and])
          clear he
          go_wp2
          go_roundw
          case rel => exact ⟨k + 1, by go_num, by omega, HBq, H2⟩
          case measure => simp [Go.RowKit.intOf]; omega
        | false =>
          have H2 := Lib.hid (show false = sameL xs ys by rw [← H.out, HX.out, HY.out, sameL, he, Bool.false_and])
          clear he
          go_wp2
          go_ret
          exact ⟨ret_bool H2.out, HBq.out⟩
      · have j1 : (n : Int) ≤ k := by omega
        have H2 := Lib.hid (show true = sameL xs ys by
          have e1 : xs.drop k = [] := List.drop_eq_nil_of_le (by rw [HN.out]; omega)
          have e2 : ys.drop k = [] := List.drop_eq_nil_of_le (by rw [HM.out]; omega)
          rw [← H.out, e1, e2, sameL])
        go_wp2
        go_ret
        exact ⟨ret_bool H2.out, HB.out⟩
  · have H2 := Lib.hid (show false = sameL xs ys from (sameL_len xs ys (by rw [HN.out, HM.out]; exact hnm)).symm)
    have t1 : ((n : Int) != (m : Int)) = true := by rw [bne_iff_ne]; omega
    have t2 : ((n : Int) == (m : Int)) = false := by rw [beq_eq_false_iff_ne]; omega
    clear hnm
    go_enter Tryz.func25, Tryz.ntmps25
    go_wp2
    go_ret
    exact ⟨ret_bool H2.out, 0, rfl⟩
end Go.Proofs.YtlnlbahggbbaeaaGreat
end
