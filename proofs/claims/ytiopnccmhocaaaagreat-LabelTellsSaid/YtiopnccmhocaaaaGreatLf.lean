/- Labels: those of some names, and all others: the calls. -/
import Derived.Test.YtiopnccmhocaaaaGreatLe
namespace Go.Proofs.YtiopnccmhocaaaaGreat
open Go.RowKit

theorem own_mono {w : World} {base base' e size n : Nat} {v : Value} {xs : List Value} (h : w.ownsRow base e size v n xs) (hb : base' ≤ base) : w.ownsRow base' e size v n xs :=
  ⟨h.1, h.2.imp id fun ⟨g, cap, cur, h1, h2, h3⟩ => ⟨g, cap, cur, h1, Nat.le_trans hb h2, h3⟩⟩
theorem flatL_at : ∀ (xs : List Lab) (j : Nat) (x : Lab), xs[j]? = some x → (flatL xs)[j * 2]? = some (.string x.1) ∧ (flatL xs)[j * 2 + 1]? = some (.string x.2)
  | [], j, x, h => by simp at h
  | y :: ys, 0, x, h => by simp at h; subst h; simp [flatL]
  | y :: ys, j + 1, x, h => by
    have := flatL_at ys j x (by simpa using h)
    rw [show (j + 1) * 2 = j * 2 + 1 + 1 by omega]
    simpa [flatL] using this
/-- A slice of the call's own reads as its labels. -/
theorem own_sees {w : World} {B : Nat} {v : Value} {xs : List Lab} (h : w.ownsRow B 56 2 v xs.length (flatL xs)) : ∃ o c, v = .slice o xs.length c ∧ SeesO w o xs ∧ xs.length ≤ maxLen := by
  rcases h.2 with ⟨rfl, h0⟩ | ⟨g, cap, cur, rfl, hg, hh, hn, hcap, hsz, htake⟩
  · have h0' : xs = [] := List.eq_nil_of_length_eq_zero h0
    subst h0'
    exact ⟨none, 0, rfl, .inl rfl, Nat.zero_le _⟩
  · refine ⟨_, cap, rfl, .inr ⟨g, 0, rfl, (Array.getElem?_eq_some_iff.1 hh).1, fun j x hx => ?_, fun j x hx => ?_⟩, Nat.le_trans hn hcap⟩
    · have := h.cells (g := g) rfl (j * 2) _ (flatL_at xs j x hx).1
      rw [← this]; congr 1; simp [Addr.add]
    · have := h.cells (g := g) rfl (j * 2 + 1) _ (flatL_at xs j x hx).2
      rw [← this]; congr 1

def inB (ns : List ByteArray) (x : Lab) : Bool := Lib.containsS ns x.1
def outB (ns : List ByteArray) (x : Lab) : Bool := !Lib.containsS ns x.1

set_option maxHeartbeats 2000000 in
set_option maxRecDepth 100000 in
theorem keepW_any (p : Nat) (pr : Lab → Bool) (o : Option Addr) (cap : Nat) (xs : List Lab) (w : World) (hm : xs.length ≤ 1000000) (hS : SeesO w o xs) (hv : ∀ x ∈ xs, x.1.size ≤ 281474976710656 ∧ x.2.size ≤ 281474976710656)
    (hp : ∀ (x : Lab) (W : World), Below w.heap.size w W → Calls Tryz.prog 37 #[.agg #[.string x.1, .string x.2], .pointer (some ⟨p, 0, none⟩)] W fun e w' => e = .returned (.bool (pr x)) ∧ Below W.heap.size W w') :
    Calls Tryz.prog 34 #[.slice o xs.length cap, .func (.func 37) #[] #[.pointer (some ⟨p, 0, none⟩)]] w fun e w' => (∃ v, e = .returned v ∧ w'.ownsRow w.heap.size 56 2 v (xs.filter pr).length (flatL (xs.filter pr))) ∧ Below w.heap.size w w' := by
  obtain ⟨i0, hi, hz0, hz1, hz2⟩ := info_parts info38
  obtain ⟨n, hn⟩ : ∃ n, xs.length = n := ⟨_, rfl⟩
  have HN := Lib.hid hn
  rw [hn] at hm ⊢
  clear hn
  have HSO := Lib.hid hS
  have HV := Lib.hid hv
  have HP := Lib.hid hp
  have HC := Lib.hid (fun (x : Lab) W (h : x.1.size ≤ 281474976710656 ∧ x.2.size ≤ 281474976710656) => cloneL_any x.1 x.2 W h.1 h.2)
  clear hS hv hp
  go_enter Tryz.func34, Tryz.ntmps34
  go_wp2
  go_loopw [5, 7, 10] (fun v5 v7 v10 wr => ∃ (k : Nat) (ys : List Lab), v10 = .int .i64 k ∧ k ≤ n ∧ ys.length ≤ k ∧ Hid (ys = (xs.take k).filter pr) ∧ wr.ownsRow w.heap.size 56 2 v5 ys.length (flatL ys) ∧ Hid (Below w.heap.size w wr)) (fun _ _ v10 _ => n - (intOf v10).toNat)
  case atStart => exact ⟨0, [], rfl, Nat.zero_le _, Nat.zero_le _, rfl, World.ownsRow_nil _ _ _ _, Below.refl _ _⟩
  case round =>
    obtain ⟨k, ys, rfl, hk, hyk, HY, hown, HB⟩ := hrel
    by_cases hkn : k < n
    · have j1 : (k : Int) < n := by omega
      obtain ⟨x, hx⟩ := get_lt HN.out hkn
      obtain ⟨b, off, rfl, hS⟩ := (HSO.out.below (HB.out.mono (Nat.le_refl _))).at hx
      have c0 := hS.at0 k x hx
      have c1 := hS.at1 k x hx
      have HX := Lib.hid hx
      have hsz := Lib.hid (HV.out x (List.mem_of_getElem? hx))
      have HB1 := Lib.hid (show Below w.heap.size w (wr.alloc (Obj.cells #[Value.string x.1, Value.string x.2] 56)) from HB.out.alloc (by have := HB.out.size; omega) _)
      have HO := Lib.hid hown
      clear hS hx hown
      go_wp2_with fail
      refine (HP.out x _ HB1.out).mono ?_
      rintro e wq ⟨rfl, bq⟩
      have hbox := box_reads (box_cells wr x) bq
      obtain ⟨r0, r1⟩ := hbox
      have HBq := Lib.hid (HB1.out.trans (bq.mono (by have := HB1.out.size; exact this)))
      have HOq := Lib.hid (own_grown (HO.out.alloc (Obj.cells #[Value.string x.1, Value.string x.2] 56)) bq)
      have hwz := HBq.out.size
      have HZ := Lib.hid hwz
      clear bq hwz
      cases hpx : pr x with
      | false =>
        have H2 := Lib.hid (show ys = (xs.take (k + 1)).filter pr by rw [filter_step HY.out HX.out, hpx]; simp)
        clear hpx
        go_wp2
        go_roundw
        case rel => exact ⟨k + 1, ys, by go_num, by omega, by omega, H2, HOq.out, HBq⟩
        case measure => simp [intOf]; omega
      | true =>
        have H2 := Lib.hid (show ys ++ [x] = (xs.take (k + 1)).filter pr by rw [filter_step HY.out HX.out, hpx]; simp)
        clear hpx
        go_wp2_with fail
        refine (HC.out x _ hsz.out).mono ?_
        rintro e w2 ⟨rfl, b2⟩
        have HB2 := Lib.hid (HBq.out.trans (b2.mono HZ.out))
        have hO2 := own_grown HOq.out b2
        have hzw := HB2.out.size
        clear b2
        go_wp2_with (at_builtin; go_must (refine wpList_append_own _ rfl _ _ 22 rfl w.heap.size 56 i0 (.agg #[.string ⟨#[]⟩, .string ⟨#[]⟩]) 2 32 Tryz.underlying22 hi hz0 hz1 hz2 rfl (by decide) _ _ _ rfl (hO2.alloc _) ⟨w2.heap.size, 0, none⟩ 1 1 [.string x.1, .string x.2] rfl rfl (cells_2 _ _ _ _) (one_2 _ _) (by unfold maxLen; omega) (by omega) (by simp; omega) ?_); intro v' w3 hown' hgrow3 hnil3)
        have hB3 : Below w.heap.size w w3 := Below.grown (HB2.out.alloc (by omega) _) hgrow3 (by simp; omega) (fun j hj => by have := (hO2.lt _ hj).1; omega)
        have hO3 : w3.ownsRow w.heap.size 56 2 v' (ys ++ [x]).length (flatL (ys ++ [x])) := by
          rw [List.length_append, flatL_snoc]; exact hown'
        have HB3 := Lib.hid hB3
        clear hown' hgrow3 hnil3 hO2 hB3 hzw
        go_roundw
        case rel => exact ⟨k + 1, ys ++ [x], by go_num, by omega, by simp; omega, H2, hO3, HB3⟩
        case measure => simp [intOf]; omega
    · have H2 := Lib.hid (show ys = xs.filter pr by rw [HY.out, List.take_of_length_le (by rw [HN.out]; omega)])
      go_wp2
      go_ret
      refine ⟨?_, HB.out⟩
      rw [← H2.out]
      exact ⟨_, rfl, hown⟩

set_option maxHeartbeats 2000000 in
set_option maxRecDepth 100000 in
theorem only_any (o on : Option Addr) (cap cn : Nat) (xs : List Lab) (ns : List ByteArray) (w : World) (hm : xs.length ≤ 1000000) (hmn : ns.length ≤ maxLen) (hS : SeesO w o xs) (hN : SeesN w on ns) (hv : ∀ x ∈ xs, x.1.size ≤ 281474976710656 ∧ x.2.size ≤ 281474976710656) :
    Calls Tryz.prog 10 #[.slice o xs.length cap, .slice on ns.length cn] w fun e w' => (∃ v, e = .returned v ∧ w'.ownsRow w.heap.size 56 2 v (xs.filter (inB ns)).length (flatL (xs.filter (inB ns)))) ∧ Below w.heap.size w w' := by
  have hb : Below w.heap.size w (w.alloc (Obj.cells #[Value.slice on ns.length cn] 23)) := (Below.refl _ _).alloc (Nat.le_refl _) _
  have hcell : (w.alloc (Obj.cells #[Value.slice on ns.length cn] 23)).cell? ⟨w.heap.size, 0, none⟩ = some (.slice on ns.length cn) := by simp
  have hlt : w.heap.size < (w.alloc (Obj.cells #[Value.slice on ns.length cn] 23)).heap.size := by simp
  have HC := Lib.hid (keepO_any w.heap.size (inB ns) o cap xs (w.alloc (Obj.cells #[Value.slice on ns.length cn] 23)) hm (hS.below hb) hv (fun x W hW => only1_any w.heap.size on cn ns x W hmn (Nat.lt_of_lt_of_le hlt hW.size) ((hW.cell (p := ⟨w.heap.size, 0, none⟩) hlt).trans hcell) ((hN.below hb).below hW)))
  clear hS hN hv hcell hlt hb
  go_enter Tryz.func10, Tryz.ntmps10
  go_wp2_with fail
  refine HC.out.mono ?_
  rintro e w' ⟨⟨v, rfl, hown⟩, hb⟩
  have HO := Lib.hid hown
  clear hown
  go_wp2
  go_ret
  refine ⟨⟨v, rfl, own_mono HO.out (by simp)⟩, ((Below.refl _ _).alloc (Nat.le_refl _) _).trans (hb.mono (by simp))⟩

set_option maxHeartbeats 2000000 in
set_option maxRecDepth 100000 in
theorem without_any (o on : Option Addr) (cap cn : Nat) (xs : List Lab) (ns : List ByteArray) (w : World) (hm : xs.length ≤ 1000000) (hmn : ns.length ≤ maxLen) (hS : SeesO w o xs) (hN : SeesN w on ns) (hv : ∀ x ∈ xs, x.1.size ≤ 281474976710656 ∧ x.2.size ≤ 281474976710656) :
    Calls Tryz.prog 11 #[.slice o xs.length cap, .slice on ns.length cn] w fun e w' => (∃ v, e = .returned v ∧ w'.ownsRow w.heap.size 56 2 v (xs.filter (outB ns)).length (flatL (xs.filter (outB ns)))) ∧ Below w.heap.size w w' := by
  have hb : Below w.heap.size w (w.alloc (Obj.cells #[Value.slice on ns.length cn] 23)) := (Below.refl _ _).alloc (Nat.le_refl _) _
  have hcell : (w.alloc (Obj.cells #[Value.slice on ns.length cn] 23)).cell? ⟨w.heap.size, 0, none⟩ = some (.slice on ns.length cn) := by simp
  have hlt : w.heap.size < (w.alloc (Obj.cells #[Value.slice on ns.length cn] 23)).heap.size := by simp
  have HC := Lib.hid (keepW_any w.heap.size (outB ns) o cap xs (w.alloc (Obj.cells #[Value.slice on ns.length cn] 23)) hm (hS.below hb) hv (fun x W hW => without1_any w.heap.size on cn ns x W hmn (Nat.lt_of_lt_of_le hlt hW.size) ((hW.cell (p := ⟨w.heap.size, 0, none⟩) hlt).trans hcell) ((hN.below hb).below hW)))
  clear hS hN hv hcell hlt hb
  go_enter Tryz.func11, Tryz.ntmps11
  go_wp2_with fail
  refine HC.out.mono ?_
  rintro e w' ⟨⟨v, rfl, hown⟩, hb⟩
  have HO := Lib.hid hown
  clear hown
  go_wp2
  go_ret
  refine ⟨⟨v, rfl, own_mono HO.out (by simp)⟩, ((Below.refl _ _).alloc (Nat.le_refl _) _).trans (hb.mono (by simp))⟩
end Go.Proofs.YtiopnccmhocaaaaGreat
