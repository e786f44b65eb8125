/- Labels: lists that are read; whether labels are tidy. -/
import Derived.Test.YtiopnccmhocaaaaGreatLa
import Derived.Laws.Cover1
namespace Go.Proofs.YtiopnccmhocaaaaGreat
open Go.RowKit

/-- A label: its name, its value. -/
abbrev Lab := ByteArray × ByteArray
/-- Cells that read as these labels. -/
structure Sees (w : World) (b off : Nat) (xs : List Lab) : Prop where
  low : b < w.heap.size
  at0 : ∀ (j : Nat) (x : Lab), xs[j]? = some x → w.cell? ⟨b, off + j * 2, none⟩ = some (.string x.1)
  at1 : ∀ (j : Nat) (x : Lab), xs[j]? = some x → w.cell? ⟨b, off + j * 2 + 1, none⟩ = some (.string x.2)
/-- A slice that reads as these labels. -/
def SeesO (w : World) (o : Option Addr) (xs : List Lab) : Prop := xs = [] ∨ ∃ b off, o = some ⟨b, off, none⟩ ∧ Sees w b off xs
theorem Sees.below {w w' : World} {b off : Nat} {xs : List Lab} (h : Sees w b off xs) (hb : Below w.heap.size w w') : Sees w' b off xs :=
  ⟨Nat.lt_of_lt_of_le h.low hb.size, fun j x hx => (hb.cell (p := ⟨b, off + j * 2, none⟩) h.low).trans (h.at0 j x hx), fun j x hx => (hb.cell (p := ⟨b, off + j * 2 + 1, none⟩) h.low).trans (h.at1 j x hx)⟩
theorem SeesO.below {w w' : World} {o : Option Addr} {xs : List Lab} (h : SeesO w o xs) (hb : Below w.heap.size w w') : SeesO w' o xs :=
  h.imp id fun ⟨b, off, e, hs⟩ => ⟨b, off, e, hs.below hb⟩
theorem SeesO.at {w : World} {o : Option Addr} {xs : List Lab} (h : SeesO w o xs) {k : Nat} {x : Lab} (hx : xs[k]? = some x) : ∃ b off, o = some ⟨b, off, none⟩ ∧ Sees w b off xs := by
  rcases h with rfl | h
  · simp at hx
  · exact h
theorem get_lt {xs : List Lab} {n k : Nat} (hn : xs.length = n) (hk : k < n) : ∃ x, xs[k]? = some x := ⟨xs[k]'(by omega), List.getElem?_eq_getElem _⟩

/-- The names rise, and each label may be. -/
def risesB : Option ByteArray → List Lab → Bool
  | _, [] => true
  | none, x :: xs => fitsB x.1 x.2 && risesB (some x.1) xs
  | some n, x :: xs => (fitsB x.1 x.2 && Op.bytesLess n.toList x.1.toList) && risesB (some x.1) xs
def rightB (xs : List Lab) : Bool := decide (xs.length ≤ 8) && risesB none xs

set_option maxHeartbeats 2000000 in
set_option maxRecDepth 100000 in
theorem right_any (o : Option Addr) (cap : Nat) (xs : List Lab) (w : World) (_hm : xs.length ≤ maxLen) (hS : SeesO w o xs) :
    Calls Tryz.prog 20 #[.slice o xs.length cap] w fun e w' => e = .returned (.bool (rightB xs)) ∧ Below w.heap.size w w' := by
  obtain ⟨n, hn⟩ : ∃ n, xs.length = n := ⟨_, rfl⟩
  have HN := Lib.hid hn
  rw [hn] at _hm ⊢
  clear hn
  by_cases h8 : 8 < n
  · have i1 : (8 : Int) < n := by omega
    go_enter Tryz.func20, Tryz.ntmps20
    go_wp2
    go_ret
    exact ⟨ret_bool (by unfold rightB; rw [HN.out]; simp; omega), Below.refl _ _⟩
  · have i1 : (n : Int) ≤ 8 := by omega
    have t1 : decide ((8 : Int) < n) = false := by simp; omega
    have HSO := Lib.hid hS
    clear hS
    go_enter Tryz.func20, Tryz.ntmps20
    go_wp2
    go_loopw [3, 4, 10] (fun v3 v4 v10 wr => ∃ k : Nat, v10 = .int .i64 k ∧ k ≤ n ∧ Hid (Below w.heap.size w wr) ∧ Hid (risesB ((xs.take k).getLast?.map (·.1)) (xs.drop k) = risesB none xs)) (fun _ _ v10 _ => n - (intOf v10).toNat)
    case atStart => exact ⟨0, rfl, Nat.zero_le _, Below.refl _ _, rfl⟩
    case round =>
      obtain ⟨k, rfl, hk, HB, H⟩ := hrel
      by_cases hkn : k < n
      · have j1 : (k : Int) < n := by omega
        obtain ⟨x, hx⟩ := get_lt HN.out hkn
        obtain ⟨b, off, rfl, hS⟩ := (HSO.out.below (HB.out.mono (Nat.le_refl _))).at hx
        have c0 := hS.at0 k x hx
        have c1 := hS.at1 k x hx
        have hlow := hS.low
        have HS := Lib.hid hS
        have HX := Lib.hid hx
        clear hS hx
        obtain ⟨W, hW⟩ : ∃ W, wr.alloc (Obj.cells #[Value.string x.1, Value.string x.2] 56) = W := ⟨_, rfl⟩
        have hBW : Below wr.heap.size wr W := by rw [← hW]; exact (Below.refl _ _).alloc (Nat.le_refl _) _
        have hWx : W.heap[wr.heap.size]? = some (.cells #[.string x.1, .string x.2] 56 (0, 0)) := by rw [← hW]; exact Array.getElem?_push_size
        have hWs : wr.heap.size < W.heap.size := (Array.getElem?_eq_some_iff.1 hWx).1
        have rd : ∀ W', Below W.heap.size W W' → W'.cell? ⟨wr.heap.size, 0, none⟩ = some (.string x.1) ∧ W'.cell? ⟨wr.heap.size, 1, none⟩ = some (.string x.2) := by
          intro W' h
          have h1 := (h.block _ hWs).trans hWx
          constructor <;> simp [World.cell?, h1]
        have RD := Lib.hid rd
        have HBW := Lib.hid (HB.out.trans (hBW.mono HB.out.size))
        have HBW0 := Lib.hid hBW
        have HW := Lib.hid hW
        clear hW hBW hWx rd hlow
        cases hfb : fitsB x.1 x.2 with
        | false =>
          have HR := Lib.hid (show risesB none xs = false by
            rw [← H.out, List.drop_eq_getElem_cons (by rw [HN.out]; exact hkn)]
            have e1 : xs[k]'(by rw [HN.out]; exact hkn) = x := by have := List.getElem?_eq_getElem (l := xs) (i := k) (by rw [HN.out]; exact hkn); rw [HX.out] at this; exact (Option.some.inj this).symm
            rw [e1]
            cases (xs.take k).getLast? <;> simp [risesB, hfb])
          have HC := Lib.hid (fun (W' : World) (h : Hid (Below W.heap.size W W')) => (fits_any x.1 x.2 W').mono (fun e w' q => show e = .returned (.bool false) ∧ w'.cell? ⟨wr.heap.size, 0, none⟩ = some (.string x.1) ∧ w'.cell? ⟨wr.heap.size, 1, none⟩ = some (.string x.2) ∧ Hid (Below W.heap.size W w') from
            have hb := h.out.trans (q.2.mono h.out.size)
            ⟨by rw [q.1, hfb], (RD.out _ hb).1, (RD.out _ hb).2, hb⟩))
          obtain ⟨r1, r2⟩ := RD.out W (Below.refl _ _)
          have r3 := Lib.hid (show Below W.heap.size W W.drew from (Below.refl _ _).drew)
          clear hfb
          go_wp2_with fail
          rw [HW.out]
          refine wp_region_any (by kernel_rfl) ?_
          change wpAny _ _ _ _ _ _ _ (World.drew _)
          refine wpAny_ready (rs := [0]) (by kernel_rfl) (by simp) ?_
          refine AllReady.cons rfl (fun K hK => ?_) AllReady.nil
          go_simp
          refine hK _ _ ?_
          clear hK K
          refine wpAny_ready (rs := [1]) (by kernel_rfl) (by simp) ?_
          refine AllReady.cons rfl (fun K hK => ?_) AllReady.nil
          go_simp
          refine (HC.out _ r3).mono ?_; rintro e wq ⟨rfl, s1, s2, s3⟩
          go_simp
          refine hK _ _ ?_
          clear hK K
          refine wpAny_take (i := 2) (v := ?_) rfl (by kernel_rfl) (by kernel_rfl) (by kernel_rfl) (fun _ _ _ h => h) (Or.inl ⟨by kernel_rfl, by intro w; go_simp; try with_reducible rfl⟩) ?_
          go_simp
          refine wpAny_take (i := 3) (v := ?_) rfl (by kernel_rfl) (by kernel_rfl) (by kernel_rfl) (fun _ _ _ h => h) (Or.inl ⟨by kernel_rfl, by intro w; go_simp; try with_reducible rfl⟩) ?_
          go_simp
          refine wpAny_take (i := 4) (v := undef) rfl (by kernel_rfl) (by kernel_rfl) (by kernel_rfl) (fun _ _ _ h => h) (Or.inr ⟨by kernel_rfl, rfl⟩) ?_
          go_simp
          refine wpAny_take (i := 5) (v := undef) rfl (by kernel_rfl) (by kernel_rfl) (by kernel_rfl) (fun _ _ _ h => h) (Or.inr ⟨by kernel_rfl, rfl⟩) ?_
          go_simp
          refine wpAny_take (i := 6) (v := undef) rfl (by kernel_rfl) (by kernel_rfl) (by kernel_rfl) (fun _ _ _ h => h) (Or.inr ⟨by kernel_rfl, rfl⟩) ?_
          go_simp
          refine wpAny_take (i := 7) (v := undef) rfl (by kernel_rfl) (by kernel_rfl) (by kernel_rfl) (fun _ _ _ h => h) (Or.inr ⟨by kernel_rfl, rfl⟩) ?_
          go_simp
          refine wpAny_take (i := 8) (v := undef) rfl (by kernel_rfl) (by kernel_rfl) (by kernel_rfl) (fun _ _ _ h => h) (Or.inr ⟨by kernel_rfl, rfl⟩) ?_
          go_simp
          refine wpAny_take (i := 9) (v := undef) rfl (by kernel_rfl) (by kernel_rfl) (by kernel_rfl) (fun _ _ _ h => h) (Or.inr ⟨by kernel_rfl, rfl⟩) ?_
          go_simp
          refine wpAny_take (i := 10) (v := undef) rfl (by kernel_rfl) (by kernel_rfl) (by kernel_rfl) (fun _ _ _ h => h) (Or.inr ⟨by kernel_rfl, rfl⟩) ?_
          go_simp
          refine wpAny_take (i := 11) (v := undef) rfl (by kernel_rfl) (by kernel_rfl) (by kernel_rfl) (fun _ _ _ h => h) (Or.inr ⟨by kernel_rfl, rfl⟩) ?_
          go_simp
          refine wpAny_take (i := 12) (v := undef) rfl (by kernel_rfl) (by kernel_rfl) (by kernel_rfl) (fun _ _ _ h => h) (Or.inr ⟨by kernel_rfl, rfl⟩) ?_
          go_simp
          refine wpAny_take (i := 13) (v := undef) rfl (by kernel_rfl) (by kernel_rfl) (by kernel_rfl) (fun _ _ _ h => h) (Or.inr ⟨by kernel_rfl, rfl⟩) ?_
          go_simp
          refine wpAny_take (i := 14) (v := undef) rfl (by kernel_rfl) (by kernel_rfl) (by kernel_rfl) (fun _ _ _ h => h) (Or.inr ⟨by kernel_rfl, rfl⟩) ?_
          go_simp
          refine wpAny_take (i := 15) (v := undef) rfl (by kernel_rfl) (by kernel_rfl) (by kernel_rfl) (fun _ _ _ h => h) (Or.inr ⟨by kernel_rfl, rfl⟩) ?_
          go_simp
          refine wpAny_take (i := 16) (v := undef) rfl (by kernel_rfl) (by kernel_rfl) (by kernel_rfl) (fun _ _ _ h => h) (Or.inr ⟨by kernel_rfl, rfl⟩) ?_
          go_simp
          refine wpAny_take (i := 17) (v := ?_) rfl (by kernel_rfl) (by kernel_rfl) (by kernel_rfl) (fun _ _ _ h => h) (Or.inl ⟨by kernel_rfl, by intro w; go_simp; try with_reducible rfl⟩) ?_
          go_simp
          refine wpAny_done (by kernel_rfl) ?_ _
          go_wp2
          go_ret
          exact ⟨ret_bool (by unfold rightB; rw [HR.out]; simp), HBW.out.trans (s3.out.mono (Nat.le_trans HB.out.size (Nat.le_of_lt hWs)))⟩
        | true =>
          have HE := Lib.hid (show xs.drop k = x :: xs.drop (k + 1) by
            rw [List.drop_eq_getElem_cons (by rw [HN.out]; exact hkn)]
            have e1 : xs[k]'(by rw [HN.out]; exact hkn) = x := by have := List.getElem?_eq_getElem (l := xs) (i := k) (by rw [HN.out]; exact hkn); rw [HX.out] at this; exact (Option.some.inj this).symm
            rw [e1])
          have HT := Lib.hid (show (xs.take (k + 1)).getLast? = some x by
            rw [List.take_add_one, HX.out]; simp)
          have HC := Lib.hid (fun (W' : World) (h : Hid (Below W.heap.size W W')) => (fits_any x.1 x.2 W').mono (fun e w' q => show e = .returned (.bool true) ∧ w'.cell? ⟨wr.heap.size, 0, none⟩ = some (.string x.1) ∧ w'.cell? ⟨wr.heap.size, 1, none⟩ = some (.string x.2) ∧ Hid (Below W.heap.size W w') from
            have hb := h.out.trans (q.2.mono h.out.size)
            ⟨by rw [q.1, hfb], (RD.out _ hb).1, (RD.out _ hb).2, hb⟩))
          have HF := Lib.hid hfb
          obtain ⟨r1, r2⟩ := RD.out W (Below.refl _ _)
          have r3 := Lib.hid (show Below W.heap.size W W.drew from (Below.refl _ _).drew)
          clear hfb
          by_cases hk0 : k = 0
          · subst hk0
            have H2 := Lib.hid (show risesB ((xs.take (0 + 1)).getLast?.map (·.1)) (xs.drop (0 + 1)) = risesB none xs by
              rw [← H.out, HE.out, HT.out]; simp [risesB, HF.out])
            clear HC HE HT
            have HC := Lib.hid (fun (W' : World) (h : Hid (Below W.heap.size W W')) => (fits_any x.1 x.2 W').mono (fun e w' q => show e = .returned (.bool true) ∧ w'.cell? ⟨wr.heap.size, 0, none⟩ = some (.string x.1) ∧ w'.cell? ⟨wr.heap.size, 1, none⟩ = some (.string x.2) ∧ Hid (Below W.heap.size W w') from
              have hb := h.out.trans (q.2.mono h.out.size)
              ⟨by rw [q.1, HF.out], (RD.out _ hb).1, (RD.out _ hb).2, hb⟩))
            simp only [Nat.zero_mul, Nat.add_zero] at c0 c1
            go_wp2_with fail
            rw [HW.out]
            refine wp_region_any (by kernel_rfl) ?_
            change wpAny _ _ _ _ _ _ _ (World.drew _)
            refine wpAny_ready (rs := [0]) (by kernel_rfl) (by simp) ?_
            refine AllReady.cons rfl (fun K hK => ?_) AllReady.nil
            go_simp
            refine hK _ _ ?_
            clear hK K
            refine wpAny_ready (rs := [1]) (by kernel_rfl) (by simp) ?_
            refine AllReady.cons rfl (fun K hK => ?_) AllReady.nil
            go_simp
            refine (HC.out _ r3).mono ?_; rintro e wq ⟨rfl, s1, s2, s3⟩
            go_simp
            refine hK _ _ ?_
            clear hK K
            refine wpAny_take (i := 2) (v := ?_) rfl (by kernel_rfl) (by kernel_rfl) (by kernel_rfl) (fun _ _ _ h => h) (Or.inl ⟨by kernel_rfl, by intro w; go_simp; try with_reducible rfl⟩) ?_
            go_simp
            refine wpAny_take (i := 3) (v := ?_) rfl (by kernel_rfl) (by kernel_rfl) (by kernel_rfl) (fun _ _ _ h => h) (Or.inl ⟨by kernel_rfl, by intro w; go_simp; try with_reducible rfl⟩) ?_
            go_simp
            refine wpAny_take (i := 4) (v := ?_) rfl (by kernel_rfl) (by kernel_rfl) (by kernel_rfl) (fun _ _ _ h => h) (Or.inl ⟨by kernel_rfl, by intro w; go_simp; try with_reducible rfl⟩) ?_
            go_simp
            refine wpAny_take (i := 5) (v := ?_) rfl (by kernel_rfl) (by kernel_rfl) (by kernel_rfl) (fun _ _ _ h => h) (Or.inl ⟨by kernel_rfl, by intro w; go_simp; try with_reducible rfl⟩) ?_
            go_simp
            refine wpAny_take (i := 6) (v := ?_) rfl (by kernel_rfl) (by kernel_rfl) (by kernel_rfl) (fun _ _ _ h => h) (Or.inl ⟨by kernel_rfl, by intro w; go_simp; try with_reducible rfl⟩) ?_
            go_simp
            refine wpAny_take (i := 7) (v := undef) rfl (by kernel_rfl) (by kernel_rfl) (by kernel_rfl) (fun _ _ _ h => h) (Or.inr ⟨by kernel_rfl, rfl⟩) ?_
            go_simp
            refine wpAny_take (i := 8) (v := undef) rfl (by kernel_rfl) (by kernel_rfl) (by kernel_rfl) (fun _ _ _ h => h) (Or.inr ⟨by kernel_rfl, rfl⟩) ?_
            go_simp
            refine wpAny_take (i := 9) (v := undef) rfl (by kernel_rfl) (by kernel_rfl) (by kernel_rfl) (fun _ _ _ h => h) (Or.inr ⟨by kernel_rfl, rfl⟩) ?_
            go_simp
            refine wpAny_take (i := 10) (v := undef) rfl (by kernel_rfl) (by kernel_rfl) (by kernel_rfl) (fun _ _ _ h => h) (Or.inr ⟨by kernel_rfl, rfl⟩) ?_
            go_simp
            refine wpAny_take (i := 11) (v := undef) rfl (by kernel_rfl) (by kernel_rfl) (by kernel_rfl) (fun _ _ _ h => h) (Or.inr ⟨by kernel_rfl, rfl⟩) ?_
            go_simp
            refine wpAny_take (i := 12) (v := undef) rfl (by kernel_rfl) (by kernel_rfl) (by kernel_rfl) (fun _ _ _ h => h) (Or.inr ⟨by kernel_rfl, rfl⟩) ?_
            go_simp
            refine wpAny_take (i := 13) (v := undef) rfl (by kernel_rfl) (by kernel_rfl) (by kernel_rfl) (fun _ _ _ h => h) (Or.inr ⟨by kernel_rfl, rfl⟩) ?_
            go_simp
            refine wpAny_take (i := 14) (v := undef) rfl (by kernel_rfl) (by kernel_rfl) (by kernel_rfl) (fun _ _ _ h => h) (Or.inr ⟨by kernel_rfl, rfl⟩) ?_
            go_simp
            refine wpAny_take (i := 15) (v := undef) rfl (by kernel_rfl) (by kernel_rfl) (by kernel_rfl) (fun _ _ _ h => h) (Or.inr ⟨by kernel_rfl, rfl⟩) ?_
            go_simp
            refine wpAny_take (i := 16) (v := ?_) rfl (by kernel_rfl) (by kernel_rfl) (by kernel_rfl) (fun _ _ _ h => h) (Or.inl ⟨by kernel_rfl, by intro w; go_simp; try with_reducible rfl⟩) ?_
            go_simp
            refine wpAny_take (i := 17) (v := ?_) rfl (by kernel_rfl) (by kernel_rfl) (by kernel_rfl) (fun _ _ _ h => h) (Or.inl ⟨by kernel_rfl, by intro w; go_simp; try with_reducible rfl⟩) ?_
            go_simp
            refine wpAny_done (by kernel_rfl) ?_ _
            have HBq := Lib.hid (HBW.out.trans (s3.out.mono (Nat.le_trans HB.out.size (Nat.le_of_lt hWs))))
            go_wp2
            go_roundw
            case rel => exact ⟨1, by go_num, by omega, HBq, H2⟩
            case measure => simp [intOf]; omega
          · obtain ⟨p, rfl⟩ : ∃ p, k = p + 1 := ⟨k - 1, by omega⟩
            obtain ⟨y, hy⟩ := get_lt HN.out (show p < n by omega)
            have HY := Lib.hid (show (xs.take (p + 1)).getLast? = some y by
              rw [List.take_add_one, hy]; simp)
            have ry : ∀ W', Below W.heap.size W W' → W'.cell? ⟨b, off + p * 2, none⟩ = some (.string y.1) := fun W' h =>
              (h.cell (p := ⟨b, off + p * 2, none⟩) (Nat.lt_trans HS.out.low hWs)).trans ((HBW0.out.cell (p := ⟨b, off + p * 2, none⟩) HS.out.low).trans (HS.out.at0 p y hy))
            have r4 := ry W (Below.refl _ _)
            have HRY := Lib.hid ry
            clear ry hy
            have HC2 := Lib.hid (fun (W' : World) (h : Hid (Below W.heap.size W W')) => (HC.out W' h).mono (fun e w' q => And.intro q.1 (And.intro q.2.1 (And.intro q.2.2.1 (And.intro (HRY.out _ q.2.2.2.out) q.2.2.2)))))
            have j2 : (p : Int) < n := by omega
            have j3 : IntKind.i64.wrap (p : Int) = p := by rw [IntKind.wrap_i64]; omega
            go_wp2_with fail
            rw [HW.out]
            go_region_held3 (fun w' => w'.cell? ⟨wr.heap.size, 0, none⟩ = some (.string x.1) ∧ w'.cell? ⟨wr.heap.size, 1, none⟩ = some (.string x.2) ∧ w'.cell? ⟨b, off + p * 2, none⟩ = some (.string y.1) ∧ Hid (Below W.heap.size W w')) (first | exact ⟨s1, s2, s4, s3⟩ | exact ⟨r1, r2, r4, r3⟩) (first | (go_at_call 43; refine (HC2.out _ (by first | exact s3 | exact r3)).mono ?_; rintro e wq ⟨rfl, s1, s2, s4, s3⟩))
            have HBq := Lib.hid (HBW.out.trans (s3.out.mono (Nat.le_trans HB.out.size (Nat.le_of_lt hWs))))
            cases hlt : Op.bytesLess y.1.toList x.1.toList with
            | false =>
              have HR := Lib.hid (show risesB none xs = false by
                rw [← H.out, HE.out, HY.out]; simp [risesB, hlt])
              clear hlt
              go_wp2
              go_ret
              exact ⟨ret_bool (by unfold rightB; rw [HR.out]; simp), HBq.out⟩
            | true =>
              have H2 := Lib.hid (show risesB ((xs.take (p + 1 + 1)).getLast?.map (·.1)) (xs.drop (p + 1 + 1)) = risesB none xs by
                rw [← H.out, HE.out, HY.out, HT.out]; simp [risesB, HF.out, hlt])
              clear hlt
              go_wp2
              go_roundw
              case rel => exact ⟨p + 1 + 1, by go_num, by omega, HBq, H2⟩
              case measure => simp [intOf]; omega
      · have j1 : (n : Int) ≤ k := by omega
        have HR := Lib.hid (show true = rightB xs by
          have h0 := H.out
          rw [List.drop_eq_nil_of_le (by rw [HN.out]; omega)] at h0
          unfold rightB
          rw [← h0, HN.out]
          cases (xs.take k).getLast? <;> simp [risesB] <;> omega)
        go_wp2
        go_ret
        exact ⟨ret_bool HR.out, HB.out⟩
end Go.Proofs.YtiopnccmhocaaaaGreat
