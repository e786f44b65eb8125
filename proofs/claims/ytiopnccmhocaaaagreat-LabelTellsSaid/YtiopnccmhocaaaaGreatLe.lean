/- Labels: those of some names, and all others. -/
import Derived.Test.YtiopnccmhocaaaaGreatLd
import Derived.Laws.OwnMore
import Derived.Deep.DeepMust
namespace Go.Proofs.YtiopnccmhocaaaaGreat
open Go.RowKit

theorem info38 : (Tryz.prog.info? 56).map (fun i => (i.zero, i.size, i.bytes)) = some (some (.agg #[.string ⟨#[]⟩, .string ⟨#[]⟩]), 2, 32) := by kernel_rfl
/-- A slice that reads as these names. -/
def SeesN (w : World) (o : Option Addr) (ns : List ByteArray) : Prop := ns = [] ∨ ∃ b off, o = some ⟨b, off, none⟩ ∧ b < w.heap.size ∧ ∀ j, j < ns.length → w.cell? ⟨b, off + j, none⟩ = some (.string (ns.getD j ByteArray.empty))
theorem SeesN.below {w w' : World} {o : Option Addr} {ns : List ByteArray} (h : SeesN w o ns) (hb : Below w.heap.size w w') : SeesN w' o ns :=
  h.imp id fun ⟨b, off, e, h1, h2⟩ => ⟨b, off, e, Nat.lt_of_lt_of_le h1 hb.size, fun j hj => (hb.cell (p := ⟨b, off + j, none⟩) h1).trans (h2 j hj)⟩
theorem contains_any (o : Option Addr) (c : Nat) (ns : List ByteArray) (x : ByteArray) (w : World) (hm : ns.length ≤ maxLen) (h : SeesN w o ns) :
    Calls Tryz.prog 36 #[.slice o ns.length c, .string x] w fun e w' => e = .returned (.bool (Lib.containsS ns x)) ∧ w' = w := by
  rcases h with rfl | ⟨b, off, rfl, _, hc⟩
  · exact Tryz.slices_Contains_string_empty o c x w
  · have := Tryz.slices_Contains_string b off ns.length c ns x w (Nat.le_refl _) (by unfold maxLen at hm; omega) hc
    rwa [List.take_length] at this

set_option maxHeartbeats 1000000 in
set_option maxRecDepth 100000 in
theorem only1_any (p : Nat) (o : Option Addr) (c : Nat) (ns : List ByteArray) (x : Lab) (w : World) (hm : ns.length ≤ maxLen) (hp : p < w.heap.size) (hc : w.cell? ⟨p, 0, none⟩ = some (.slice o ns.length c)) (h : SeesN w o ns) :
    Calls Tryz.prog 35 #[.agg #[.string x.1, .string x.2], .pointer (some ⟨p, 0, none⟩)] w fun e w' => e = .returned (.bool (Lib.containsS ns x.1)) ∧ Below w.heap.size w w' := by
  have HC := Lib.hid (fun W (hb : Below w.heap.size w W) => contains_any o c ns x.1 W hm (h.below hb))
  obtain ⟨n, hn⟩ : ∃ n, ns.length = n := ⟨_, rfl⟩
  rw [hn] at hc HC
  clear h hm hn
  generalize Lib.containsS ns x.1 = r at HC ⊢
  go_enter Tryz.func35, Tryz.ntmps35
  go_wp2_with fail
  refine (HC.out _ ((Below.refl _ _).alloc (Nat.le_refl _) _)).mono ?_
  rintro e w' ⟨rfl, rfl⟩
  go_wp2
  go_ret
  exact ⟨rfl, (Below.refl _ _).alloc (Nat.le_refl _) _⟩

set_option maxHeartbeats 1000000 in
set_option maxRecDepth 100000 in
theorem without1_any (p : Nat) (o : Option Addr) (c : Nat) (ns : List ByteArray) (x : Lab) (w : World) (hm : ns.length ≤ maxLen) (hp : p < w.heap.size) (hc : w.cell? ⟨p, 0, none⟩ = some (.slice o ns.length c)) (h : SeesN w o ns) :
    Calls Tryz.prog 37 #[.agg #[.string x.1, .string x.2], .pointer (some ⟨p, 0, none⟩)] w fun e w' => e = .returned (.bool (!Lib.containsS ns x.1)) ∧ Below w.heap.size w w' := by
  have HC := Lib.hid (fun W (hb : Below w.heap.size w W) => contains_any o c ns x.1 W hm (h.below hb))
  obtain ⟨n, hn⟩ : ∃ n, ns.length = n := ⟨_, rfl⟩
  rw [hn] at hc HC
  clear h hm hn
  generalize Lib.containsS ns x.1 = r at HC ⊢
  go_enter Tryz.func37, Tryz.ntmps37
  go_wp2_with fail
  refine (HC.out _ ((Below.refl _ _).alloc (Nat.le_refl _) _)).mono ?_
  rintro e w' ⟨rfl, rfl⟩
  go_wp2
  go_ret
  exact ⟨rfl, (Below.refl _ _).alloc (Nat.le_refl _) _⟩

/-- The cells of labels. -/
def flatL (xs : List Lab) : List Value := xs.flatMap fun x => [.string x.1, .string x.2]
theorem flatL_len (xs : List Lab) : (flatL xs).length = xs.length * 2 := by
  induction xs with
  | nil => rfl
  | cons x xs ih => rw [flatL, List.flatMap_cons, List.length_append]; simp [flatL] at ih ⊢; omega
theorem flatL_snoc (xs : List Lab) (x : Lab) : flatL (xs ++ [x]) = flatL xs ++ [.string x.1, .string x.2] := by simp [flatL]
theorem cells_2 (w : World) (a b : Value) (t : TypeId) : ∀ j u, [a, b][j]? = some u → (w.alloc (.cells #[a, b] t)).cell? ((⟨w.heap.size, 0, none⟩ : Addr).add j) = some u := by
  intro j u hj
  match j, hj with
  | 0, hj => simp at hj; subst hj; simp [Addr.add]
  | 1, hj => simp at hj; subst hj; simp [Addr.add]
  | j + 2, hj => simp at hj
theorem one_2 (a b : ByteArray) : ∀ v ∈ [Value.string a, Value.string b], v.oneCell' = true := by
  intro v hv; simp at hv; rcases hv with rfl | rfl <;> rfl

theorem own_grown {w w' : World} {B e size n : Nat} {v : Value} {xs : List Value} (h : w.ownsRow B e size v n xs) (hb : Below w.heap.size w w') : w'.ownsRow B e size v n xs :=
  h.kept (row := none) ⟨hb.os, hb.tape, hb.output, hb.size, fun k hk _ => hb.block k hk⟩ (by cases hv : v.ownBlock <;> simp)
theorem filter_step {pr : Lab → Bool} {xs ys : List Lab} {k : Nat} {x : Lab} (h : ys = (xs.take k).filter pr) (hx : xs[k]? = some x) : (xs.take (k + 1)).filter pr = if pr x then ys ++ [x] else ys := by
  rw [List.take_add_one, hx, List.filter_append, ← h]
  by_cases hp : pr x = true <;> simp [hp]
theorem box_cells (w : World) (x : Lab) : (w.alloc (Obj.cells #[Value.string x.1, Value.string x.2] 56)).heap[w.heap.size]? = some (.cells #[.string x.1, .string x.2] 56 (0, 0)) := Array.getElem?_push_size
theorem box_reads {w W : World} {k : Nat} {x : Lab} (h : w.heap[k]? = some (.cells #[.string x.1, .string x.2] 56 (0, 0))) (hb : Below w.heap.size w W) : W.cell? ⟨k, 0, none⟩ = some (.string x.1) ∧ W.cell? ⟨k, 1, none⟩ = some (.string x.2) := by
  have h1 := (hb.block _ (Array.getElem?_eq_some_iff.1 h).1).trans h
  constructor <;> simp [World.cell?, h1]

set_option maxHeartbeats 2000000 in
set_option maxRecDepth 100000 in
theorem keepO_any (p : Nat) (pr : Lab → Bool) (o : Option Addr) (cap : Nat) (xs : List Lab) (w : World) (hm : xs.length ≤ 1000000) (hS : SeesO w o xs) (hv : ∀ x ∈ xs, x.1.size ≤ 281474976710656 ∧ x.2.size ≤ 281474976710656)
    (hp : ∀ (x : Lab) (W : World), Below w.heap.size w W → Calls Tryz.prog 35 #[.agg #[.string x.1, .string x.2], .pointer (some ⟨p, 0, none⟩)] W fun e w' => e = .returned (.bool (pr x)) ∧ Below W.heap.size W w') :
    Calls Tryz.prog 34 #[.slice o xs.length cap, .func (.func 35) #[] #[.pointer (some ⟨p, 0, none⟩)]] w fun e w' => (∃ v, e = .returned v ∧ w'.ownsRow w.heap.size 56 2 v (xs.filter pr).length (flatL (xs.filter pr))) ∧ Below w.heap.size w w' := by
  obtain ⟨i0, hi, hz0, hz1, hz2⟩ := info_parts info38
  obtain ⟨n, hn⟩ : ∃ n, xs.length = n := ⟨_, rfl⟩
  have HN := Lib.hid hn
  rw [hn] at hm ⊢
  clear hn
  have HSO := Lib.hid hS
  have HV := Lib.hid hv
  have HP := Lib.hid hp
  have HC := Lib.hid (fun (x : Lab) W (h : x.1.size ≤ 281474976710656 ∧ x.2.size ≤ 281474976710656) => cloneL_any x.1 x.2 W h.1 h.2)
  clear hS hv hp
  go_enter Tryz.func34, Tryz.ntmps34
  go_wp2
  go_loopw [5, 7, 10] (fun v5 v7 v10 wr => ∃ (k : Nat) (ys : List Lab), v10 = .int .i64 k ∧ k ≤ n ∧ ys.length ≤ k ∧ Hid (ys = (xs.take k).filter pr) ∧ wr.ownsRow w.heap.size 56 2 v5 ys.length (flatL ys) ∧ Hid (Below w.heap.size w wr)) (fun _ _ v10 _ => n - (intOf v10).toNat)
  case atStart => exact ⟨0, [], rfl, Nat.zero_le _, Nat.zero_le _, rfl, World.ownsRow_nil _ _ _ _, Below.refl _ _⟩
  case round =>
    obtain ⟨k, ys, rfl, hk, hyk, HY, hown, HB⟩ := hrel
    by_cases hkn : k < n
    · have j1 : (k : Int) < n := by omega
      obtain ⟨x, hx⟩ := get_lt HN.out hkn
      obtain ⟨b, off, rfl, hS⟩ := (HSO.out.below (HB.out.mono (Nat.le_refl _))).at hx
      have c0 := hS.at0 k x hx
      have c1 := hS.at1 k x hx
      have HX := Lib.hid hx
      have hsz := Lib.hid (HV.out x (List.mem_of_getElem? hx))
      have HB1 := Lib.hid (show Below w.heap.size w (wr.alloc (Obj.cells #[Value.string x.1, Value.string x.2] 56)) from HB.out.alloc (by have := HB.out.size; omega) _)
      have HO := Lib.hid hown
      clear hS hx hown
      go_wp2_with fail
      refine (HP.out x _ HB1.out).mono ?_
      rintro e wq ⟨rfl, bq⟩
      have hbox := box_reads (box_cells wr x) bq
      obtain ⟨r0, r1⟩ := hbox
      have HBq := Lib.hid (HB1.out.trans (bq.mono (by have := HB1.out.size; exact this)))
      have HOq := Lib.hid (own_grown (HO.out.alloc (Obj.cells #[Value.string x.1, Value.string x.2] 56)) bq)
      have hwz := HBq.out.size
      have HZ := Lib.hid hwz
      clear bq hwz
      cases hpx : pr x with
      | false =>
        have H2 := Lib.hid (show ys = (xs.take (k + 1)).filter pr by rw [filter_step HY.out HX.out, hpx]; simp)
        clear hpx
        go_wp2
        go_roundw
        case rel => exact ⟨k + 1, ys, by go_num, by omega, by omega, H2, HOq.out, HBq⟩
        case measure => simp [intOf]; omega
      | true =>
        have H2 := Lib.hid (show ys ++ [x] = (xs.take (k + 1)).filter pr by rw [filter_step HY.out HX.out, hpx]; simp)
        clear hpx
        go_wp2_with fail
        refine (HC.out x _ hsz.out).mono ?_
        rintro e w2 ⟨rfl, b2⟩
        have HB2 := Lib.hid (HBq.out.trans (b2.mono HZ.out))
        have hO2 := own_grown HOq.out b2
        have hzw := HB2.out.size
        clear b2
        go_wp2_with (at_builtin; go_must (refine wpList_append_own _ rfl _ _ 22 rfl w.heap.size 56 i0 (.agg #[.string ⟨#[]⟩, .string ⟨#[]⟩]) 2 32 Tryz.underlying22 hi hz0 hz1 hz2 rfl (by decide) _ _ _ rfl (hO2.alloc _) ⟨w2.heap.size, 0, none⟩ 1 1 [.string x.1, .string x.2] rfl rfl (cells_2 _ _ _ _) (one_2 _ _) (by unfold maxLen; omega) (by omega) (by simp; omega) ?_); intro v' w3 hown' hgrow3 hnil3)
        have hB3 : Below w.heap.size w w3 := Below.grown (HB2.out.alloc (by omega) _) hgrow3 (by simp; omega) (fun j hj => by have := (hO2.lt _ hj).1; omega)
        have hO3 : w3.ownsRow w.heap.size 56 2 v' (ys ++ [x]).length (flatL (ys ++ [x])) := by
          rw [List.length_append, flatL_snoc]; exact hown'
        have HB3 := Lib.hid hB3
        clear hown' hgrow3 hnil3 hO2 hB3 hzw
        go_roundw
        case rel => exact ⟨k + 1, ys ++ [x], by go_num, by omega, by simp; omega, H2, hO3, HB3⟩
        case measure => simp [intOf]; omega
    · have H2 := Lib.hid (show ys = xs.filter pr by rw [HY.out, List.take_of_length_le (by rw [HN.out]; omega)])
      go_wp2
      go_ret
      refine ⟨?_, HB.out⟩
      rw [← H2.out]
      exact ⟨_, rfl, hown⟩
end Go.Proofs.YtiopnccmhocaaaaGreat
