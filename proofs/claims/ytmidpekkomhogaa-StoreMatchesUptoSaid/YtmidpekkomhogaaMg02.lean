import Derived.Test.YtmidpekkomhogaaMg01
import Derived.Laws.Cover1
import Derived.Laws.StructEq
import Derived.Laws.OwnMore
import Derived.Deep.DeepMust
section
/- Labels: lists that are read; whether labels are tidy. -/

namespace Go.Proofs.Ytmidpekkomhogaa
open Go.RowKit

/-- A label: its name, its value. -/
abbrev Lab := ByteArray × ByteArray
/-- Cells that read as these labels. -/
structure Sees (w : World) (b off : Nat) (xs : List Lab) : Prop where
  low : b < w.heap.size
  at0 : ∀ (j : Nat) (x : Lab), xs[j]? = some x → w.cell? ⟨b, off + j * 2, none⟩ = some (.string x.1)
  at1 : ∀ (j : Nat) (x : Lab), xs[j]? = some x → w.cell? ⟨b, off + j * 2 + 1, none⟩ = some (.string x.2)
/-- A slice that reads as these labels. -/
def SeesO (w : World) (o : Option Addr) (xs : List Lab) : Prop := xs = [] ∨ ∃ b off, o = some ⟨b, off, none⟩ ∧ Sees w b off xs
theorem Sees.below {w w' : World} {b off : Nat} {xs : List Lab} (h : Sees w b off xs) (hb : Below w.heap.size w w') : Sees w' b off xs :=
  ⟨Nat.lt_of_lt_of_le h.low hb.size, fun j x hx => (hb.cell (p := ⟨b, off + j * 2, none⟩) h.low).trans (h.at0 j x hx), fun j x hx => (hb.cell (p := ⟨b, off + j * 2 + 1, none⟩) h.low).trans (h.at1 j x hx)⟩
theorem SeesO.below {w w' : World} {o : Option Addr} {xs : List Lab} (h : SeesO w o xs) (hb : Below w.heap.size w w') : SeesO w' o xs :=
  h.imp id fun ⟨b, off, e, hs⟩ => ⟨b, off, e, hs.below hb⟩
theorem SeesO.at {w : World} {o : Option Addr} {xs : List Lab} (h : SeesO w o xs) {k : Nat} {x : Lab} (hx : xs[k]? = some x) : ∃ b off, o = some ⟨b, off, none⟩ ∧ Sees w b off xs := by
  rcases h with rfl | h
  · simp at hx
  · exact h
theorem get_lt {xs : List Lab} {n k : Nat} (hn : xs.length = n) (hk : k < n) : ∃ x, xs[k]? = some x := ⟨xs[k]'(by omega), List.getElem?_eq_getElem _⟩

/-- The names rise, and each label may be. -/
def risesB : Option ByteArray → List Lab → Bool
  | _, [] => true
  | none, x :: xs => fitsB x.1 x.2 && risesB (some x.1) xs
  | some n, x :: xs => (fitsB x.1 x.2 && Op.bytesLess n.toList x.1.toList) && risesB (some x.1) xs
def rightB (xs : List Lab) : Bool := decide (xs.length ≤ 8) && risesB none xs

set_option maxHeartbeats 2000000 in
set_option maxRecDepth 100000 in
theorem right_any (o : Option Addr) (cap : Nat) (xs : List Lab) (w : World) (_hm : xs.length ≤ maxLen) (hS : SeesO w o xs) :
    Calls Try.prog 28 #[.slice o xs.length cap] w fun e w' => e = .returned (.bool (rightB xs)) ∧ Below w.heap.size w w' := by
  obtain ⟨n, hn⟩ : ∃ n, xs.length = n := ⟨_, rfl⟩
  have HN := Lib.hid hn
  rw [hn] at _hm ⊢
  clear hn
  by_cases h8 : 8 < n
  · have i1 : (8 : Int) < n := by omega
    go_enter Try.func28, Try.ntmps28
    go_wp2
    go_ret
    exact ⟨ret_bool (by unfold rightB; rw [HN.out]; simp; omega), Below.refl _ _⟩
  · have i1 : (n : Int) ≤ 8 := by omega
    have t1 : decide ((8 : Int) < n) = false := by simp; omega
    have HSO := Lib.hid hS
    clear hS
    go_enter Try.func28, Try.ntmps28
    go_wp2
    go_loopw [3, 4, 10] (fun v3 v4 v10 wr => ∃ k : Nat, v10 = .int .i64 k ∧ k ≤ n ∧ Hid (Below w.heap.size w wr) ∧ Hid (risesB ((xs.take k).getLast?.map (·.1)) (xs.drop k) = risesB none xs)) (fun _ _ v10 _ => n - (Go.RowKit.intOf v10).toNat)
    case atStart => exact ⟨0, rfl, Nat.zero_le _, Below.refl _ _, rfl⟩
    case round =>
      obtain ⟨k, rfl, hk, HB, H⟩ := hrel
      by_cases hkn : k < n
      · have j1 : (k : Int) < n := by omega
        obtain ⟨x, hx⟩ := get_lt HN.out hkn
        obtain ⟨b, off, rfl, hS⟩ := (HSO.out.below (HB.out.mono (Nat.le_refl _))).at hx
        have c0 := hS.at0 k x hx
        have c1 := hS.at1 k x hx
        have hlow := hS.low
        have HS := Lib.hid hS
        have HX := Lib.hid hx
        clear hS hx
        obtain ⟨W, hW⟩ : ∃ W, wr.alloc (Obj.cells #[Value.string x.1, Value.string x.2] 49) = W := ⟨_, rfl⟩
        have hBW : Below wr.heap.size wr W := by rw [← hW]; exact (Below.refl _ _).alloc (Nat.le_refl _) _
        have hWx : W.heap[wr.heap.size]? = some (.cells #[.string x.1, .string x.2] 49 (0, 0)) := by rw [← hW]; exact Array.getElem?_push_size
        have hWs : wr.heap.size < W.heap.size := (Array.getElem?_eq_some_iff.1 hWx).1
        have rd : ∀ W', Below W.heap.size W W' → W'.cell? ⟨wr.heap.size, 0, none⟩ = some (.string x.1) ∧ W'.cell? ⟨wr.heap.size, 1, none⟩ = some (.string x.2) := by
          intro W' h
          have h1 := (h.block _ hWs).trans hWx
          constructor <;> simp [World.cell?, h1]
        have RD := Lib.hid rd
        have HBW := Lib.hid (HB.out.trans (hBW.mono HB.out.size))
        have HBW0 := Lib.hid hBW
        have HW := Lib.hid hW
        clear hW hBW hWx rd hlow
        cases hfb : fitsB x.1 x.2 with
        | false =>
          have HR := Lib.hid (show risesB none xs = false by
            rw [← H.out, List.drop_eq_getElem_cons (by rw [HN.out]; exact hkn)]
            have e1 : xs[k]'(by rw [HN.out]; exact hkn) = x := by have := List.getElem?_eq_getElem (l := xs) (i := k) (by rw [HN.out]; exact hkn); rw [HX.out] at this; exact (Option.some.inj this).symm
            rw [e1]
            cases (xs.take k).getLast? <;> simp [risesB, hfb])
          have HC := Lib.hid (fun (W' : World) (h : Hid (Below W.heap.size W W')) => (fits_any x.1 x.2 W').mono (fun e w' q => show e = .returned (.bool false) ∧ w'.cell? ⟨wr.heap.size, 0, none⟩ = some (.string x.1) ∧ w'.cell? ⟨wr.heap.size, 1, none⟩ = some (.string x.2) ∧ Hid (Below W.heap.size W w') from
            have hb := h.out.trans (q.2.mono h.out.size)
            ⟨by rw [q.1, hfb], (RD.out _ hb).1, (RD.out _ hb).2, hb⟩))
          obtain ⟨r1, r2⟩ := RD.out W (Below.refl _ _)
          have r3 := Lib.hid (show Below W.heap.size W W.drew from (Below.refl _ _).drew)
          clear hfb
          go_wp2_with fail
          rw [HW.out]
          refine wp_region_any (by kernel_rfl) ?_
          change wpAny _ _ _ _ _ _ _ (World.drew _)
          refine wpAny_ready (rs := [0]) (by kernel_rfl) (by simp) ?_
          refine AllReady.cons rfl (fun K hK => ?_) AllReady.nil
          go_simp
          refine hK _ _ ?_
          clear hK K
          refine wpAny_ready (rs := [1]) (by kernel_rfl) (by simp) ?_
          refine AllReady.cons rfl (fun K hK => ?_) AllReady.nil
          go_simp
          refine (HC.out _ r3).mono ?_; rintro e wq ⟨rfl, s1, s2, s3⟩
          go_simp
          refine hK _ _ ?_
          clear hK K
          refine wpAny_take (i := 2) (v := ?_) rfl (by kernel_rfl) (by kernel_rfl) (by kernel_rfl) (fun _ _ _ h => h) (Or.inl ⟨by kernel_rfl, by intro w; go_simp; try with_reducible rfl⟩) ?_
          go_simp
          refine wpAny_take (i := 3) (v := ?_) rfl (by kernel_rfl) (by kernel_rfl) (by kernel_rfl) (fun _ _ _ h => h) (Or.inl ⟨by kernel_rfl, by intro w; go_simp; try with_reducible rfl⟩) ?_
          go_simp
          refine wpAny_take (i := 4) (v := undef) rfl (by kernel_rfl) (by kernel_rfl) (by kernel_rfl) (fun _ _ _ h => h) (Or.inr ⟨by kernel_rfl, rfl⟩) ?_
          go_simp
          refine wpAny_take (i := 5) (v := undef) rfl (by kernel_rfl) (by kernel_rfl) (by kernel_rfl) (fun _ _ _ h => h) (Or.inr ⟨by kernel_rfl, rfl⟩) ?_
          go_simp
          refine wpAny_take (i := 6) (v := undef) rfl (by kernel_rfl) (by kernel_rfl) (by kernel_rfl) (fun _ _ _ h => h) (Or.inr ⟨by kernel_rfl, rfl⟩) ?_
          go_simp
          refine wpAny_take (i := 7) (v := undef) rfl (by kernel_rfl) (by kernel_rfl) (by kernel_rfl) (fun _ _ _ h => h) (Or.inr ⟨by kernel_rfl, rfl⟩) ?_
          go_simp
          refine wpAny_take (i := 8) (v := undef) rfl (by kernel_rfl) (by kernel_rfl) (by kernel_rfl) (fun _ _ _ h => h) (Or.inr ⟨by kernel_rfl, rfl⟩) ?_
          go_simp
          refine wpAny_take (i := 9) (v := undef) rfl (by kernel_rfl) (by kernel_rfl) (by kernel_rfl) (fun _ _ _ h => h) (Or.inr ⟨by kernel_rfl, rfl⟩) ?_
          go_simp
          refine wpAny_take (i := 10) (v := undef) rfl (by kernel_rfl) (by kernel_rfl) (by kernel_rfl) (fun _ _ _ h => h) (Or.inr ⟨by kernel_rfl, rfl⟩) ?_
          go_simp
          refine wpAny_take (i := 11) (v := undef) rfl (by kernel_rfl) (by kernel_rfl) (by kernel_rfl) (fun _ _ _ h => h) (Or.inr ⟨by kernel_rfl, rfl⟩) ?_
          go_simp
          refine wpAny_take (i := 12) (v := undef) rfl (by kernel_rfl) (by kernel_rfl) (by kernel_rfl) (fun _ _ _ h => h) (Or.inr ⟨by kernel_rfl, rfl⟩) ?_
          go_simp
          refine wpAny_take (i := 13) (v := undef) rfl (by kernel_rfl) (by kernel_rfl) (by kernel_rfl) (fun _ _ _ h => h) (Or.inr ⟨by kernel_rfl, rfl⟩) ?_
          go_simp
          refine wpAny_take (i := 14) (v := undef) rfl (by kernel_rfl) (by kernel_rfl) (by kernel_rfl) (fun _ _ _ h => h) (Or.inr ⟨by kernel_rfl, rfl⟩) ?_
          go_simp
          refine wpAny_take (i := 15) (v := undef) rfl (by kernel_rfl) (by kernel_rfl) (by kernel_rfl) (fun _ _ _ h => h) (Or.inr ⟨by kernel_rfl, rfl⟩) ?_
          go_simp
          refine wpAny_take (i := 16) (v := undef) rfl (by kernel_rfl) (by kernel_rfl) (by kernel_rfl) (fun _ _ _ h => h) (Or.inr ⟨by kernel_rfl, rfl⟩) ?_
          go_simp
          refine wpAny_take (i := 17) (v := ?_) rfl (by kernel_rfl) (by kernel_rfl) (by kernel_rfl) (fun _ _ _ h => h) (Or.inl ⟨by kernel_rfl, by intro w; go_simp; try with_reducible rfl⟩) ?_
          go_simp
          refine wpAny_done (by kernel_rfl) ?_ _
          go_wp2
          go_ret
          exact ⟨ret_bool (by unfold rightB; rw [HR.out]; simp), HBW.out.trans (s3.out.mono (Nat.le_trans HB.out.size (Nat.le_of_lt hWs)))⟩
        | true =>
          have HE := Lib.hid (show xs.drop k = x :: xs.drop (k + 1) by
            rw [List.drop_eq_getElem_cons (by rw [HN.out]; exact hkn)]
            have e1 : xs[k]'(by rw [HN.out]; exact hkn) = x := by have := List.getElem?_eq_getElem (l := xs) (i := k) (by rw [HN.out]; exact hkn); rw [HX.out] at this; exact (Option.some.inj this).symm
            rw [e1])
          have HT := Lib.hid (show (xs.take (k + 1)).getLast? = some x by
            rw [List.take_add_one, HX.out]; simp)
          have HC := Lib.hid (fun (W' : World) (h : Hid (Below W.heap.size W W')) => (fits_any x.1 x.2 W').mono (fun e w' q => show e = .returned (.bool true) ∧ w'.cell? ⟨wr.heap.size, 0, none⟩ = some (.string x.1) ∧ w'.cell? ⟨wr.heap.size, 1, none⟩ = some (.string x.2) ∧ Hid (Below W.heap.size W w') from
            have hb := h.out.trans (q.2.mono h.out.size)
            ⟨by rw [q.1, hfb], (RD.out _ hb).1, (RD.out _ hb).2, hb⟩))
          have HF := Lib.hid hfb
          obtain ⟨r1, r2⟩ := RD.out W (Below.refl _ _)
          have r3 := Lib.hid (show Below W.heap.size W W.drew from (Below.refl _ _).drew)
          clear hfb
          by_cases hk0 : k = 0
          · subst hk0
            have H2 := Lib.hid (show risesB ((xs.take (0 + 1)).getLast?.map (·.1)) (xs.drop (0 + 1)) = risesB none xs by
              rw [← H.out, HE.out, HT.out]; simp [risesB, HF.out])
            clear HC HE HT
            have HC := Lib.hid (fun (W' : World) (h : Hid (Below W.heap.size W W')) => (fits_any x.1 x.2 W').mono (fun e w' q => show e = .returned (.bool true) ∧ w'.cell? ⟨wr.heap.size, 0, none⟩ = some (.string x.1) ∧ w'.cell? ⟨wr.heap.size, 1, none⟩ = some (.string x.2) ∧ Hid (Below W.heap.size W w') from
              have hb := h.out.trans (q.2.mono h.out.size)
              ⟨by rw [q.1, HF.out], (RD.out _ hb).1, (RD.out _ hb).2, hb⟩))
            simp only [Nat.zero_mul, Nat.add_zero] at c0 c1
            go_wp2_with fail
            rw [HW.out]
            refine wp_region_any (by kernel_rfl) ?_
            change wpAny _ _ _ _ _ _ _ (World.drew _)
            refine wpAny_ready (rs := [0]) (by kernel_rfl) (by simp) ?_
            refine AllReady.cons rfl (fun K hK => ?_) AllReady.nil
            go_simp
            refine hK _ _ ?_
            clear hK K
            refine wpAny_ready (rs := [1]) (by kernel_rfl) (by simp) ?_
            refine AllReady.cons rfl (fun K hK => ?_) AllReady.nil
            go_simp
            refine (HC.out _ r3).mono ?_; rintro e wq ⟨rfl, s1, s2, s3⟩
            go_simp
            refine hK _ _ ?_
            clear hK K
            refine wpAny_take (i := 2) (v := ?_) rfl (by kernel_rfl) (by kernel_rfl) (by kernel_rfl) (fun _ _ _ h => h) (Or.inl ⟨by kernel_rfl, by intro w; go_simp; try with_reducible rfl⟩) ?_
            go_simp
            refine wpAny_take (i := 3) (v := ?_) rfl (by kernel_rfl) (by kernel_rfl) (by kernel_rfl) (fun _ _ _ h => h) (Or.inl ⟨by kernel_rfl, by intro w; go_simp; try with_reducible rfl⟩) ?_
            go_simp
            refine wpAny_take (i := 4) (v := ?_) rfl (by kernel_rfl) (by kernel_rfl) (by kernel_rfl) (fun _ _ _ h => h) (Or.inl ⟨by kernel_rfl, by intro w; go_simp; try with_reducible rfl⟩) ?_
            go_simp
            refine wpAny_take (i := 5) (v := ?_) rfl (by kernel_rfl) (by kernel_rfl) (by kernel_rfl) (fun _ _ _ h => h) (Or.inl ⟨by kernel_rfl, by intro w; go_simp; try with_reducible rfl⟩) ?_
            go_simp
            refine wpAny_take (i := 6) (v := ?_) rfl (by kernel_rfl) (by kernel_rfl) (by kernel_rfl) (fun _ _ _ h => h) (Or.inl ⟨by kernel_rfl, by intro w; go_simp; try with_reducible rfl⟩) ?_
            go_simp
            refine wpAny_take (i := 7) (v := undef) rfl (by kernel_rfl) (by kernel_rfl) (by kernel_rfl) (fun _ _ _ h => h) (Or.inr ⟨by kernel_rfl, rfl⟩) ?_
            go_simp
            refine wpAny_take (i := 8) (v := undef) rfl (by kernel_rfl) (by kernel_rfl) (by kernel_rfl) (fun _ _ _ h => h) (Or.inr ⟨by kernel_rfl, rfl⟩) ?_
            go_simp
            refine wpAny_take (i := 9) (v := undef) rfl (by kernel_rfl) (by kernel_rfl) (by kernel_rfl) (fun _ _ _ h => h) (Or.inr ⟨by kernel_rfl, rfl⟩) ?_
            go_simp
            refine wpAny_take (i := 10) (v := undef) rfl (by kernel_rfl) (by kernel_rfl) (by kernel_rfl) (fun _ _ _ h => h) (Or.inr ⟨by kernel_rfl, rfl⟩) ?_
            go_simp
            refine wpAny_take (i := 11) (v := undef) rfl (by kernel_rfl) (by kernel_rfl) (by kernel_rfl) (fun _ _ _ h => h) (Or.inr ⟨by kernel_rfl, rfl⟩) ?_
            go_simp
            refine wpAny_take (i := 12) (v := undef) rfl (by kernel_rfl) (by kernel_rfl) (by kernel_rfl) (fun _ _ _ h => h) (Or.inr ⟨by kernel_rfl, rfl⟩) ?_
            go_simp
            refine wpAny_take (i := 13) (v := undef) rfl (by kernel_rfl) (by kernel_rfl) (by kernel_rfl) (fun _ _ _ h => h) (Or.inr ⟨by kernel_rfl, rfl⟩) ?_
            go_simp
            refine wpAny_take (i := 14) (v := undef) rfl (by kernel_rfl) (by kernel_rfl) (by kernel_rfl) (fun _ _ _ h => h) (Or.inr ⟨by kernel_rfl, rfl⟩) ?_
            go_simp
            refine wpAny_take (i := 15) (v := undef) rfl (by kernel_rfl) (by kernel_rfl) (by kernel_rfl) (fun _ _ _ h => h) (Or.inr ⟨by kernel_rfl, rfl⟩) ?_
            go_simp
            refine wpAny_take (i := 16) (v := ?_) rfl (by kernel_rfl) (by kernel_rfl) (by kernel_rfl) (fun _ _ _ h => h) (Or.inl ⟨by kernel_rfl, by intro w; go_simp; try with_reducible rfl⟩) ?_
            go_simp
            refine wpAny_take (i := 17) (v := ?_) rfl (by kernel_rfl) (by kernel_rfl) (by kernel_rfl) (fun _ _ _ h => h) (Or.inl ⟨by kernel_rfl, by intro w; go_simp; try with_reducible rfl⟩) ?_
            go_simp
            refine wpAny_done (by kernel_rfl) ?_ _
            have HBq := Lib.hid (HBW.out.trans (s3.out.mono (Nat.le_trans HB.out.size (Nat.le_of_lt hWs))))
            go_wp2
            go_roundw
            case rel => exact ⟨1, by go_num, by omega, HBq, H2⟩
            case measure => simp [Go.RowKit.intOf]; omega
          · obtain ⟨p, rfl⟩ : ∃ p, k = p + 1 := ⟨k - 1, by omega⟩
            obtain ⟨y, hy⟩ := get_lt HN.out (show p < n by omega)
            have HY := Lib.hid (show (xs.take (p + 1)).getLast? = some y by
              rw [List.take_add_one, hy]; simp)
            have ry : ∀ W', Below W.heap.size W W' → W'.cell? ⟨b, off + p * 2, none⟩ = some (.string y.1) := fun W' h =>
              (h.cell (p := ⟨b, off + p * 2, none⟩) (Nat.lt_trans HS.out.low hWs)).trans ((HBW0.out.cell (p := ⟨b, off + p * 2, none⟩) HS.out.low).trans (HS.out.at0 p y hy))
            have r4 := ry W (Below.refl _ _)
            have HRY := Lib.hid ry
            clear ry hy
            have HC2 := Lib.hid (fun (W' : World) (h : Hid (Below W.heap.size W W')) => (HC.out W' h).mono (fun e w' q => And.intro q.1 (And.intro q.2.1 (And.intro q.2.2.1 (And.intro (HRY.out _ q.2.2.2.out) q.2.2.2)))))
            have j2 : (p : Int) < n := by omega
            have j3 : IntKind.i64.wrap (p : Int) = p := by rw [IntKind.wrap_i64]; omega
            go_wp2_with fail
            rw [HW.out]
            go_region_held3 (fun w' => w'.cell? ⟨wr.heap.size, 0, none⟩ = some (.string x.1) ∧ w'.cell? ⟨wr.heap.size, 1, none⟩ = some (.string x.2) ∧ w'.cell? ⟨b, off + p * 2, none⟩ = some (.string y.1) ∧ Hid (Below W.heap.size W w')) (first | exact ⟨s1, s2, s4, s3⟩ | exact ⟨r1, r2, r4, r3⟩) (first | (go_at_call 39; refine (HC2.out _ (by first | exact s3 | exact r3)).mono ?_; rintro e wq ⟨rfl, s1, s2, s4, s3⟩))
            have HBq := Lib.hid (HBW.out.trans (s3.out.mono (Nat.le_trans HB.out.size (Nat.le_of_lt hWs))))
            cases hlt : Op.bytesLess y.1.toList x.1.toList with
            | false =>
              have HR := Lib.hid (show risesB none xs = false by
                rw [← H.out, HE.out, HY.out]; simp [risesB, hlt])
              clear hlt
              go_wp2
              go_ret
              exact ⟨ret_bool (by unfold rightB; rw [HR.out]; simp), HBq.out⟩
            | true =>
              have H2 := Lib.hid (show risesB ((xs.take (p + 1 + 1)).getLast?.map (·.1)) (xs.drop (p + 1 + 1)) = risesB none xs by
                rw [← H.out, HE.out, HY.out, HT.out]; simp [risesB, HF.out, hlt])
              clear hlt
              go_wp2
              go_roundw
              case rel => exact ⟨p + 1 + 1, by go_num, by omega, HBq, H2⟩
              case measure => simp [Go.RowKit.intOf]; omega
      · have j1 : (n : Int) ≤ k := by omega
        have HR := Lib.hid (show true = rightB xs by
          have h0 := H.out
          rw [List.drop_eq_nil_of_le (by rw [HN.out]; omega)] at h0
          unfold rightB
          rw [← h0, HN.out]
          cases (xs.take k).getLast? <;> simp [risesB] <;> omega)
        go_wp2
        go_ret
        exact ⟨ret_bool HR.out, HB.out⟩
end Go.Proofs.Ytmidpekkomhogaa
end

section
/- Labels: two labels compared; two lists compared. -/

namespace Go.Proofs.Ytmidpekkomhogaa
open Go.RowKit

def cmpN (x y : Lab) : Int := Lib.compareBytes x.1.data.toList y.1.data.toList
def cmpV (x y : Lab) : Int := Lib.compareBytes x.2.data.toList y.2.data.toList
def cmp2 (x y : Lab) : Int := if cmpN x y = 0 then cmpV x y else cmpN x y
def cmpL : List Lab → List Lab → Int
  | [], [] => 0
  | [], _ :: _ => -1
  | _ :: _, [] => 1
  | x :: xs, y :: ys => if cmp2 x y = 0 then cmpL xs ys else cmp2 x y

set_option maxHeartbeats 1000000 in
set_option maxRecDepth 100000 in
theorem two_any (x y : Lab) (w : World) :
    Calls Try.prog 42 #[.agg #[.string x.1, .string x.2], .agg #[.string y.1, .string y.2]] w fun e w' => e = .returned (.int .i64 (cmp2 x y)) ∧ Below w.heap.size w w' := by
  have HC := Lib.hid (fun W => show Calls Try.prog 53 #[.string x.1, .string y.1] W fun e w' => e = .returned (.int .i64 (cmpN x y)) ∧ w' = W from Try.strings_Compare _ _ W)
  have HD := Lib.hid (fun W => show Calls Try.prog 53 #[.string x.2, .string y.2] W fun e w' => e = .returned (.int .i64 (cmpV x y)) ∧ w' = W from Try.strings_Compare _ _ W)
  by_cases h : cmpN x y = 0
  · have e2 := Lib.hid (show cmpV x y = cmp2 x y by unfold cmp2; rw [if_pos h])
    have t1 : (cmpN x y != 0) = false := by rw [h]; rfl
    clear h
    go_enter Try.func42, Try.ntmps42
    go_wp2_with fail
    refine (HC.out _).mono ?_
    rintro e w' ⟨rfl, rfl⟩
    go_wp2_with fail
    refine (HD.out _).mono ?_
    rintro e w' ⟨rfl, rfl⟩
    go_wp2
    go_ret
    exact ⟨ret_int e2.out, ((Below.refl _ _).alloc (Nat.le_refl _) _).alloc (by simp) _⟩
  · have e2 := Lib.hid (show cmpN x y = cmp2 x y by unfold cmp2; rw [if_neg h])
    have t1 : (cmpN x y != 0) = true := by rw [bne_iff_ne]; exact h
    clear h
    go_enter Try.func42, Try.ntmps42
    go_wp2_with fail
    refine (HC.out _).mono ?_
    rintro e w' ⟨rfl, rfl⟩
    go_wp2
    go_ret
    exact ⟨ret_int e2.out, ((Below.refl _ _).alloc (Nat.le_refl _) _).alloc (by simp) _⟩

theorem drop_at {xs : List Lab} {k : Nat} {x : Lab} (h : xs[k]? = some x) : xs.drop k = x :: xs.drop (k + 1) := by
  obtain ⟨hk, e⟩ := List.getElem?_eq_some_iff.1 h
  rw [List.drop_eq_getElem_cons hk, e]

set_option maxHeartbeats 2000000 in
set_option maxRecDepth 100000 in
theorem cmpFunc_any (o1 o2 : Option Addr) (c1 c2 : Nat) (xs ys : List Lab) (w : World) (hm : xs.length ≤ maxLen) (_hm2 : ys.length ≤ maxLen) (h1 : SeesO w o1 xs) (h2 : SeesO w o2 ys) :
    Calls Try.prog 41 #[.slice o1 xs.length c1, .slice o2 ys.length c2, .func (.func 42) #[] #[]] w fun e w' => e = .returned (.int .i64 (cmpL xs ys)) ∧ Below w.heap.size w w' := by
  obtain ⟨n, hn⟩ : ∃ n, xs.length = n := ⟨_, rfl⟩
  obtain ⟨m, hm'⟩ : ∃ m, ys.length = m := ⟨_, rfl⟩
  have HN := Lib.hid hn
  have HM := Lib.hid hm'
  rw [hn] at hm ⊢
  rw [hm'] at _hm2 ⊢
  clear hn hm'
  unfold maxLen at hm _hm2
  have HS1 := Lib.hid h1
  have HS2 := Lib.hid h2
  have HC := Lib.hid (fun x y W => two_any x y W)
  clear h1 h2
  go_enter Try.func41, Try.ntmps41
  go_wp2
  go_loopw [7, 8, 9, 10, 13] (fun v7 v8 v9 v10 v13 wr => ∃ k : Nat, v13 = .int .i64 k ∧ k ≤ n ∧ k ≤ m ∧ Hid (Below w.heap.size w wr) ∧ Hid (cmpL (xs.drop k) (ys.drop k) = cmpL xs ys)) (fun _ _ _ _ v13 _ => n - (Go.RowKit.intOf v13).toNat)
  case atStart => exact ⟨0, rfl, Nat.zero_le _, Nat.zero_le _, Below.refl _ _, rfl⟩
  case round =>
    obtain ⟨k, rfl, hk, hk2, HB, H⟩ := hrel
    by_cases hkn : k < n
    · have j1 : (k : Int) < n := by omega
      obtain ⟨x, hx⟩ := get_lt HN.out hkn
      obtain ⟨b, off, rfl, hS⟩ := (HS1.out.below (HB.out.mono (Nat.le_refl _))).at hx
      have c0 := hS.at0 k x hx
      have c1 := hS.at1 k x hx
      have hl := hS.low
      have HL := Lib.hid hl
      have HX := Lib.hid hx
      by_cases hkm : k < m
      · have j2 : (k : Int) < m := by omega
        obtain ⟨y, hy⟩ := get_lt HM.out hkm
        obtain ⟨b2, off2, rfl, hS2⟩ := (HS2.out.below (HB.out.mono (Nat.le_refl _))).at hy
        have d0 := hS2.at0 k y hy
        have d1 := hS2.at1 k y hy
        have d2 := hS2.low
        have HY := Lib.hid hy
        have t1 : decide ((m : Int) ≤ k) = false := by simp; omega
        clear hS hS2 hx hy hl
        have hdr := Lib.hid (show xs.drop k = x :: xs.drop (k + 1) ∧ ys.drop k = y :: ys.drop (k + 1) from ⟨drop_at HX.out, drop_at HY.out⟩)
        go_wp2_with fail
        refine (HC.out _ _ _).mono ?_
        rintro e wq ⟨rfl, bq⟩
        have HBq := Lib.hid (show Below w.heap.size w wq from ((HB.out.alloc (by have := HB.out.size; omega) _).alloc (by have := HB.out.size; simp; omega) _).trans (bq.mono (by have := HB.out.size; simp; omega)))
        clear bq
        by_cases hc : cmp2 x y = 0
        · have H2 := Lib.hid (show cmpL (xs.drop (k + 1)) (ys.drop (k + 1)) = cmpL xs ys by
            rw [← H.out, hdr.out.1, hdr.out.2, cmpL, if_pos hc])
          have t2 : (cmp2 x y != 0) = false := by rw [hc]; rfl
          clear hc
          generalize cmp2 x y = c at t2
          go_wp2
          go_roundw
          case rel => exact ⟨k + 1, by go_num, by omega, by omega, HBq, H2⟩
          case measure => simp [Go.RowKit.intOf]; omega
        · have H2 := Lib.hid (show cmp2 x y = cmpL xs ys by
            rw [← H.out, hdr.out.1, hdr.out.2, cmpL, if_neg hc])
          have t2 : (cmp2 x y != 0) = true := by rw [bne_iff_ne]; exact hc
          clear hc
          obtain ⟨c, hc⟩ : ∃ c, cmp2 x y = c := ⟨_, rfl⟩
          rw [hc] at H2 t2 ⊢
          clear hc
          go_wp2
          go_ret
          exact ⟨ret_int H2.out, HBq.out⟩
      · have t1 : decide ((m : Int) ≤ k) = true := by simp; omega
        have j3 : (m : Int) ≤ k := by omega
        have H2 := Lib.hid (show (1 : Int) = cmpL xs ys by
          have e1 : ys.drop k = [] := List.drop_eq_nil_of_le (by rw [HM.out]; omega)
          rw [← H.out, drop_at HX.out, e1, cmpL])
        have HBq := Lib.hid (show Below w.heap.size w (wr.alloc (Obj.cells #[Value.string x.1, Value.string x.2] 49)) from HB.out.alloc (by have := HB.out.size; omega) _)
        clear hS hx hl
        go_wp2
        go_ret
        exact ⟨ret_int H2.out, HBq.out⟩
    · have j1 : (n : Int) ≤ k := by omega
      have hkn2 : k = n := by omega
      by_cases hnm : n < m
      · have j2 : (n : Int) < m := by omega
        have H2 := Lib.hid (show (-1 : Int) = cmpL xs ys by
          rw [← H.out, List.drop_eq_nil_of_le (by rw [HN.out]; omega)]
          obtain ⟨y, hy⟩ := get_lt HM.out (show k < m by omega)
          rw [drop_at hy, cmpL])
        clear hkn2
        go_wp2
        go_ret
        exact ⟨ret_int H2.out, HB.out⟩
      · have j2 : (m : Int) ≤ n := by omega
        have H2 := Lib.hid (show (0 : Int) = cmpL xs ys by
          rw [← H.out, List.drop_eq_nil_of_le (by rw [HN.out]; omega), List.drop_eq_nil_of_le (by rw [HM.out]; omega), cmpL])
        clear hkn2
        go_wp2
        go_ret
        exact ⟨ret_int H2.out, HB.out⟩

set_option maxHeartbeats 1000000 in
set_option maxRecDepth 100000 in
theorem compare_any (o1 o2 : Option Addr) (c1 c2 : Nat) (xs ys : List Lab) (w : World) (hm : xs.length ≤ maxLen) (hm2 : ys.length ≤ maxLen) (h1 : SeesO w o1 xs) (h2 : SeesO w o2 ys) :
    Calls Try.prog 30 #[.slice o1 xs.length c1, .slice o2 ys.length c2] w fun e w' => e = .returned (.int .i64 (cmpL xs ys)) ∧ Below w.heap.size w w' := by
  have HC := Lib.hid (cmpFunc_any o1 o2 c1 c2 xs ys w hm hm2 h1 h2)
  clear h1 h2 hm hm2
  go_enter Try.func30, Try.ntmps30
  go_wp2_with (go_at_call 41; refine HC.out.mono ?_; rintro e w' ⟨rfl, hb⟩)
  go_ret
  exact ⟨rfl, hb⟩
end Go.Proofs.Ytmidpekkomhogaa
end

section
/- Labels: the value of a name; are two lists alike; are they few and short. -/

namespace Go.Proofs.Ytmidpekkomhogaa
open Go.RowKit

theorem ret_s {a b : ByteArray} (h : a = b) : Ending.returned (.string a) = .returned (.string b) := by rw [h]
def getL (name : ByteArray) : List Lab → ByteArray
  | [] => ⟨#[]⟩
  | x :: xs => if x.1.toList = name.toList then x.2 else getL name xs

set_option maxHeartbeats 2000000 in
set_option maxRecDepth 100000 in
theorem get_any (o : Option Addr) (cap : Nat) (xs : List Lab) (name : ByteArray) (w : World) (hm : xs.length ≤ maxLen) (hS : SeesO w o xs) (hv : ∀ x ∈ xs, x.2.size ≤ 281474976710656) :
    Calls Try.prog 29 #[.slice o xs.length cap, .string name] w fun e w' => e = .returned (.string (getL name xs)) ∧ Below w.heap.size w w' := by
  obtain ⟨n, hn⟩ : ∃ n, xs.length = n := ⟨_, rfl⟩
  have HN := Lib.hid hn
  rw [hn] at hm ⊢
  clear hn
  unfold maxLen at hm
  have HSO := Lib.hid hS
  have HV := Lib.hid hv
  have HC := Lib.hid (fun s W h => clone_any s W h)
  clear hS hv
  go_enter Try.func29, Try.ntmps29
  go_wp2
  go_loopw [6, 9] (fun v6 v9 wr => ∃ k : Nat, v9 = .int .i64 k ∧ k ≤ n ∧ Hid (Below w.heap.size w wr) ∧ Hid (getL name (xs.drop k) = getL name xs)) (fun _ v9 _ => n - (Go.RowKit.intOf v9).toNat)
  case atStart => exact ⟨0, rfl, Nat.zero_le _, Below.refl _ _, rfl⟩
  case round =>
    obtain ⟨k, rfl, hk, HB, H⟩ := hrel
    by_cases hkn : k < n
    · have j1 : (k : Int) < n := by omega
      obtain ⟨x, hx⟩ := get_lt HN.out hkn
      obtain ⟨b, off, rfl, hS⟩ := (HSO.out.below (HB.out.mono (Nat.le_refl _))).at hx
      have c0 := hS.at0 k x hx
      have c1 := hS.at1 k x hx
      have hdr := Lib.hid (drop_at hx)
      have hsz := Lib.hid (HV.out x (List.mem_of_getElem? hx))
      have HBq := Lib.hid (show Below w.heap.size w (wr.alloc (Obj.cells #[Value.string x.1, Value.string x.2] 49)) from HB.out.alloc (by have := HB.out.size; omega) _)
      clear hS hx
      by_cases he : x.1.toList = name.toList
      · have H2 := Lib.hid (show x.2 = getL name xs by rw [← H.out, hdr.out, getL, if_pos he])
        have t1 : (x.1.toList == name.toList) = true := by rw [he]; exact beq_self_eq_true _
        go_wp2_with fail
        refine (HC.out _ _ hsz.out).mono ?_
        rintro e wq ⟨rfl, bq⟩
        go_wp2
        go_ret
        exact ⟨ret_s H2.out, HBq.out.trans (bq.mono (by have := HB.out.size; simp; omega))⟩
      · have H2 := Lib.hid (show getL name (xs.drop (k + 1)) = getL name xs by rw [← H.out, hdr.out, getL, if_neg he])
        have t1 : (x.1.toList == name.toList) = false := beq_eq_false_iff_ne.2 he
        go_wp2
        go_roundw
        case rel => exact ⟨k + 1, by go_num, by omega, HBq, H2⟩
        case measure => simp [Go.RowKit.intOf]; omega
    · have j1 : (n : Int) ≤ k := by omega
      have H2 := Lib.hid (show (⟨#[]⟩ : ByteArray) = getL name xs by rw [← H.out, List.drop_eq_nil_of_le (by rw [HN.out]; omega), getL])
      go_wp2
      go_ret
      exact ⟨ret_s H2.out, HB.out⟩

/-- Are two lists of labels alike? -/
def eqB (x y : Lab) : Bool := x.1.toList == y.1.toList && x.2.toList == y.2.toList
def sameL : List Lab → List Lab → Bool
  | [], [] => true
  | x :: xs, y :: ys => eqB x y && sameL xs ys
  | _, _ => false

/-- Are labels few and short enough? -/
def shortB (x : Lab) : Bool := !decide ((200 : Int) < x.1.size) && !decide ((200 : Int) < x.2.size)
def lightB (xs : List Lab) : Bool := (xs.take 30).all shortB && decide ((xs.length : Int) ≤ 20)

set_option maxHeartbeats 2000000 in
set_option maxRecDepth 100000 in
theorem light_any (o : Option Addr) (cap : Nat) (xs : List Lab) (w : World) (hm : xs.length ≤ maxLen) (hS : SeesO w o xs) :
    Calls Try.prog 10 #[.slice o xs.length cap] w fun e w' => e = .returned (.bool (lightB xs)) ∧ Below w.heap.size w w' := by
  obtain ⟨n, hn⟩ : ∃ n, xs.length = n := ⟨_, rfl⟩
  have HN := Lib.hid hn
  rw [hn] at hm ⊢
  clear hn
  unfold maxLen at hm
  have HSO := Lib.hid hS
  clear hS
  go_enter Try.func10, Try.ntmps10
  go_wp2
  go_loopw [3] (fun v3 wr => ∃ k : Nat, v3 = .int .i64 k ∧ k ≤ n ∧ k ≤ 30 ∧ Hid (Below w.heap.size w wr) ∧ Hid ((xs.take k).all shortB = true)) (fun v3 _ => n - (Go.RowKit.intOf v3).toNat)
  case atStart => exact ⟨0, rfl, Nat.zero_le _, Nat.zero_le _, Below.refl _ _, rfl⟩
  case round =>
    obtain ⟨k, rfl, hk, hk30, HB, H⟩ := hrel
    by_cases hkn : k < n ∧ k < 30
    · obtain ⟨hkn, hk3⟩ := hkn
      have j1 : (k : Int) < n := by omega
      have j2 : (k : Int) < 30 := by omega
      have t1 : decide ((k : Int) < n) = true := by simpa using j1
      have t2 : decide ((k : Int) < 30) = true := by simpa using j2
      obtain ⟨x, hx⟩ := get_lt HN.out hkn
      obtain ⟨b, off, rfl, hS⟩ := (HSO.out.below (HB.out.mono (Nat.le_refl _))).at hx
      have c0 := hS.at0 k x hx
      have c1 := hS.at1 k x hx
      have HX := Lib.hid hx
      clear hS hx
      have hbad : shortB x = false → lightB xs = false := fun h => by
        unfold lightB
        have : (xs.take 30).all shortB = false := by
          rw [List.all_eq_false]
          exact ⟨x, List.mem_of_getElem? (by rw [List.getElem?_take_of_lt hk3]; exact HX.out), by simp [h]⟩
        rw [this, Bool.false_and]
      by_cases h1 : (200 : Int) < x.1.size
      · have H2 := Lib.hid (show false = lightB xs from (hbad (by unfold shortB; simp [h1])).symm)
        have u1 : decide ((200 : Int) < x.1.size) = true := by simpa using h1
        clear hbad
        go_wp2
        go_ret
        exact ⟨ret_bool H2.out, HB.out⟩
      · have u1 : decide ((200 : Int) < x.1.size) = false := by simpa using h1
        have v1 : (x.1.size : Int) ≤ 200 := by omega
        by_cases h2 : (200 : Int) < x.2.size
        · have H2 := Lib.hid (show false = lightB xs from (hbad (by unfold shortB; simp [h2])).symm)
          have u2 : decide ((200 : Int) < x.2.size) = true := by simpa using h2
          clear hbad
          go_wp2
          go_ret
          exact ⟨ret_bool H2.out, HB.out⟩
        · have u2 : decide ((200 : Int) < x.2.size) = false := by simpa using h2
          have v2 : (x.2.size : Int) ≤ 200 := by omega
          have H2 := Lib.hid (show (xs.take (k + 1)).all shortB = true by
            rw [List.take_add_one, HX.out, List.all_append, H.out]
            simp [shortB, h1, h2])
          clear hbad
          go_wp2
          go_roundw
          case rel => exact ⟨k + 1, by go_num, by omega, by omega, HB, H2⟩
          case measure => simp [Go.RowKit.intOf]; omega
    · have HR := Lib.hid (show decide ((n : Int) ≤ 20) = lightB xs by
        unfold lightB
        rw [HN.out]
        by_cases hn : k = n
        · have : xs.take 30 = xs.take k := by rw [List.take_of_length_le (by rw [HN.out]; omega), List.take_of_length_le (by rw [HN.out]; omega)]
          rw [this, H.out, Bool.true_and]
        · have : decide ((n : Int) ≤ 20) = false := by simp; omega
          rw [this, Bool.and_false])
      have hkk : k = n ∨ (k < n ∧ k = 30) := by omega
      clear hkn
      rcases hkk with rfl | ⟨h1, rfl⟩
      · have t1 : decide ((k : Int) < k) = false := by simp
        go_wp2
        go_ret
        exact ⟨ret_bool HR.out, HB.out⟩
      · have j1 : ((30 : Nat) : Int) < n := by omega
        have t1 : decide ((30 : Int) < n) = true := by simp; omega
        go_wp2
        go_ret
        exact ⟨ret_bool HR.out, HB.out⟩
end Go.Proofs.Ytmidpekkomhogaa
end

section
/- Labels: those of some names, and all others. -/

namespace Go.Proofs.Ytmidpekkomhogaa
open Go.RowKit

theorem info38 : (Try.prog.info? 49).map (fun i => (i.zero, i.size, i.bytes)) = some (some (.agg #[.string ⟨#[]⟩, .string ⟨#[]⟩]), 2, 32) := by kernel_rfl
/-- A slice that reads as these names. -/
def SeesN (w : World) (o : Option Addr) (ns : List ByteArray) : Prop := ns = [] ∨ ∃ b off, o = some ⟨b, off, none⟩ ∧ b < w.heap.size ∧ ∀ j, j < ns.length → w.cell? ⟨b, off + j, none⟩ = some (.string (ns.getD j ByteArray.empty))
theorem SeesN.below {w w' : World} {o : Option Addr} {ns : List ByteArray} (h : SeesN w o ns) (hb : Below w.heap.size w w') : SeesN w' o ns :=
  h.imp id fun ⟨b, off, e, h1, h2⟩ => ⟨b, off, e, Nat.lt_of_lt_of_le h1 hb.size, fun j hj => (hb.cell (p := ⟨b, off + j, none⟩) h1).trans (h2 j hj)⟩
/-- No name is one of none. -/
theorem index_none (x : ByteArray) (w : World) : Calls Try.prog 61 #[.slice none 0 0, .string x] w fun e w' => e = .returned (.int .i64 (-1)) ∧ w' = w := by
  go_enter Try.func61, Try.ntmps61
  go_wp2
  go_loopw [5, 8] (fun _ v8 wr => v8 = .int .i64 0 ∧ wr = w) (fun _ _ _ => 0)
  case atStart => exact ⟨rfl, rfl⟩
  case round =>
    obtain ⟨rfl, rfl⟩ := hrel
    go_wp2
    go_ret
    exact ⟨rfl, rfl⟩
theorem contains_none (x : ByteArray) (w : World) : Calls Try.prog 50 #[.slice none 0 0, .string x] w fun e w' => e = .returned (.bool false) ∧ w' = w := by
  have HC := Lib.hid (fun W => index_none x W)
  go_enter Try.func50, Try.ntmps50
  go_wp2_with (go_at_call 61; refine (HC.out _).mono ?_; rintro e w' ⟨rfl, rfl⟩)
  go_ret
  exact ⟨rfl, rfl⟩

set_option maxHeartbeats 1000000 in
set_option maxRecDepth 100000 in
theorem without1_none (p : Nat) (x : Lab) (w : World) (hp : p < w.heap.size) (hc : w.cell? ⟨p, 0, none⟩ = some (.slice none 0 0)) :
    Calls Try.prog 49 #[.agg #[.string x.1, .string x.2], .pointer (some ⟨p, 0, none⟩)] w fun e w' => e = .returned (.bool true) ∧ Below w.heap.size w w' := by
  have HC := Lib.hid (fun W => contains_none x.1 W)
  go_enter Try.func49, Try.ntmps49
  go_wp2_with fail
  refine (HC.out _).mono ?_
  rintro e w' ⟨rfl, rfl⟩
  go_wp2
  go_ret
  exact ⟨rfl, (Below.refl _ _).alloc (Nat.le_refl _) _⟩

/-- The cells of labels. -/
def flatL (xs : List Lab) : List Value := xs.flatMap fun x => [.string x.1, .string x.2]
theorem flatL_len (xs : List Lab) : (flatL xs).length = xs.length * 2 := by
  induction xs with
  | nil => rfl
  | cons x xs ih => rw [flatL, List.flatMap_cons, List.length_append]; simp [flatL] at ih ⊢; omega
theorem flatL_snoc (xs : List Lab) (x : Lab) : flatL (xs ++ [x]) = flatL xs ++ [.string x.1, .string x.2] := by simp [flatL]
theorem cells_2 (w : World) (a b : Value) (t : TypeId) : ∀ j u, [a, b][j]? = some u → (w.alloc (.cells #[a, b] t)).cell? ((⟨w.heap.size, 0, none⟩ : Addr).add j) = some u := by
  intro j u hj
  match j, hj with
  | 0, hj => simp at hj; subst hj; simp [Addr.add]
  | 1, hj => simp at hj; subst hj; simp [Addr.add]
  | j + 2, hj => simp at hj
theorem one_2 (a b : ByteArray) : ∀ v ∈ [Value.string a, Value.string b], v.oneCell' = true := by
  intro v hv; simp at hv; rcases hv with rfl | rfl <;> rfl

theorem own_grown {w w' : World} {B e size n : Nat} {v : Value} {xs : List Value} (h : w.ownsRow B e size v n xs) (hb : Below w.heap.size w w') : w'.ownsRow B e size v n xs :=
  h.kept (row := none) ⟨hb.os, hb.tape, hb.output, hb.size, fun k hk _ => hb.block k hk⟩ (by cases hv : v.ownBlock <;> simp)
theorem filter_step {pr : Lab → Bool} {xs ys : List Lab} {k : Nat} {x : Lab} (h : ys = (xs.take k).filter pr) (hx : xs[k]? = some x) : (xs.take (k + 1)).filter pr = if pr x then ys ++ [x] else ys := by
  rw [List.take_add_one, hx, List.filter_append, ← h]
  by_cases hp : pr x = true <;> simp [hp]
theorem box_cells (w : World) (x : Lab) : (w.alloc (Obj.cells #[Value.string x.1, Value.string x.2] 49)).heap[w.heap.size]? = some (.cells #[.string x.1, .string x.2] 49 (0, 0)) := Array.getElem?_push_size
theorem box_reads {w W : World} {k : Nat} {x : Lab} (h : w.heap[k]? = some (.cells #[.string x.1, .string x.2] 49 (0, 0))) (hb : Below w.heap.size w W) : W.cell? ⟨k, 0, none⟩ = some (.string x.1) ∧ W.cell? ⟨k, 1, none⟩ = some (.string x.2) := by
  have h1 := (hb.block _ (Array.getElem?_eq_some_iff.1 h).1).trans h
  constructor <;> simp [World.cell?, h1]

end Go.Proofs.Ytmidpekkomhogaa
end
