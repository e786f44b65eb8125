/- The store of series that are handed in: fits, Of. -/
import Derived.Test.YtphkodkenkiecaaMg12
import Derived.Test.YtphkodkenkiecaaVb
namespace Go.Proofs.Ytphkodkenkiecaa.Sto
open Go.RowKit

/-- May a series be? -/
def fitB (x : Srs) : Bool := mayB x.1 && decide (0 < x.2.length) && Win.pointsB x.2

set_option maxHeartbeats 2000000 in
set_option maxRecDepth 100000 in
theorem fits_any (oL oP : Option Addr) (nL cL nP cP : Nat) (x : Srs) (w : World) (h1 : x.1.length = nL) (h2 : x.2.length = nP) (hs : Small x.1) (hx : nP ≤ 1000) (hL : SeesO w oL x.1) (hP : Pnt.SeesO w oP x.2) :
    Calls Try.prog 24 #[.agg #[.slice oL nL cL, .slice oP nP cP]] w fun e w' => e = .returned (.bool (fitB x)) ∧ Below w.heap.size w w' := by
  subst h1 h2
  have HM := Lib.hid (fun W (hb : Below w.heap.size w W) => may_any oL cL x.1 W hs (hL.below hb))
  have HW := Lib.hid (fun W (hb : Below w.heap.size w W) => Win.wright_any oP cP x.2 W (by unfold maxLen; omega) (hP.below hb))
  unfold fitB
  generalize x.1.length = nL at HM ⊢
  generalize x.2.length = nP at hx HW ⊢
  generalize Win.pointsB x.2 = q at HW ⊢
  have hb0 := (Below.refl w.heap.size w).alloc (Nat.le_refl _) (Obj.cells #[.slice oL nL cL, .slice oP nP cP] 28)
  have HB0 := Lib.hid hb0
  clear hb0 hs hL hP
  cases hm : mayB x.1 with
  | false =>
    rw [hm] at HM
    go_enter Try.func24, Try.ntmps24
    go_wp2_with fail
    refine (HM.out _ HB0.out).mono ?_
    rintro e w1 ⟨rfl, b1⟩
    go_wp2
    go_ret
    exact ⟨rfl, HB0.out.trans (b1.mono HB0.out.size)⟩
  | true =>
    rw [hm] at HM
    clear hm
    obtain ⟨W, hW⟩ : ∃ W, w.alloc (Obj.cells #[.slice oL nL cL, .slice oP nP cP] 28) = W := ⟨_, rfl⟩
    have hWx : W.heap[w.heap.size]? = some (.cells #[.slice oL nL cL, .slice oP nP cP] 28 (0, 0)) := by rw [← hW]; exact Array.getElem?_push_size
    have HBW := Lib.hid (show Below w.heap.size w W by rw [← hW]; exact HB0.out)
    have hWl := (Array.getElem?_eq_some_iff.1 hWx).1
    have hWc : W.cell? ⟨w.heap.size, 0, none⟩ = some (.slice oL nL cL) := by simp [World.cell?, hWx]
    by_cases h0 : 0 < nP
    · have j1 : (0 : Int) < nP := by omega
      have e0 : decide (0 < nP) = true := by simp [h0]
      rw [e0]
      go_enter Try.func24, Try.ntmps24
      go_wp2_with fail
      refine (HM.out _ HBW.out).mono ?_
      rintro e w1 ⟨rfl, b1⟩
      have k1 : w1.cell? ⟨w.heap.size, 1, none⟩ = some (.slice oP nP cP) := by
        have := (b1.block _ hWl).trans hWx
        simp [World.cell?, this]
      have HB1 := Lib.hid (HBW.out.trans (b1.mono HBW.out.size))
      clear b1 hW hWx hWl hWc
      go_wp2_with fail
      refine (HW.out _ HB1.out).mono ?_
      rintro e w2 ⟨rfl, b2⟩
      go_wp2
      go_ret
      exact ⟨rfl, HB1.out.trans (b2.mono HB1.out.size)⟩
    · have j1 : ¬ (0 : Int) < nP := by omega
      have e0 : decide (0 < nP) = false := by simp [h0]
      rw [e0]
      go_enter Try.func24, Try.ntmps24
      go_wp2_with fail
      refine (HM.out _ HBW.out).mono ?_
      rintro e w1 ⟨rfl, b1⟩
      have k1 : w1.cell? ⟨w.heap.size, 1, none⟩ = some (.slice oP nP cP) := by
        have := (b1.block _ hWl).trans hWx
        simp [World.cell?, this]
      have HB1 := Lib.hid (HBW.out.trans (b1.mono HBW.out.size))
      clear b1 hW hWx hWl hWc
      go_wp2
      go_ret
      exact ⟨rfl, HB1.out⟩
/-- May a series stand where it stands? -/
def nextB (xs : List Srs) (j : Nat) : Bool := match xs[j]? with
  | none => true
  | some x => fitB x && (match j with
    | 0 => true
    | i + 1 => match xs[i]? with
      | none => true
      | some y => decide (cmpL y.1 x.1 < 0))
def okB (xs : List Srs) : Bool := decide (xs.length ≤ 40) && (List.range xs.length).all (nextB xs)
theorem next_zero {xs : List Srs} {x : Srs} (h : xs[0]? = some x) : nextB xs 0 = fitB x := by
  unfold nextB; rw [h]; simp
theorem next_succ {xs : List Srs} {j : Nat} {x y : Srs} (h : xs[j + 1]? = some x) (hy : xs[j]? = some y) : nextB xs (j + 1) = (fitB x && decide (cmpL y.1 x.1 < 0)) := by
  unfold nextB; rw [h]; simp only [hy]
theorem ok_no {xs : List Srs} {j : Nat} (hj : j < xs.length) (h : nextB xs j = false) : okB xs = false := by
  unfold okB
  rw [Bool.and_eq_false_iff]
  refine .inr ?_
  rw [List.all_eq_false]
  exact ⟨j, List.mem_range.2 hj, by rw [h]; simp⟩

theorem cell_lt {w : World} {b o : Nat} {v : Value} (h : w.cell? ⟨b, o, none⟩ = some v) : b < w.heap.size := by
  by_cases hb : b < w.heap.size
  · exact hb
  · simp [World.cell?, Array.getElem?_eq_none (Nat.le_of_not_lt hb)] at h
theorem fit_next {xs : List Srs} {j : Nat} {x : Srs} (h : nextB xs j = true) (hx : xs[j]? = some x) : fitB x = true := by
  unfold nextB at h
  rw [hx] at h
  simp only [Bool.and_eq_true] at h
  exact h.1
theorem fit_pos {x : Srs} (h : fitB x = true) : 0 < x.2.length := by
  unfold fitB at h
  simp only [Bool.and_eq_true, decide_eq_true_eq] at h
  exact h.1.2

set_option maxHeartbeats 8000000 in
set_option maxRecDepth 100000 in
theorem of_any (o : Option Addr) (n c : Nat) (xs : List Srs) (w : World) (hn : xs.length = n) (hm : n ≤ maxLen) (hsm : ∀ x ∈ xs, Small x.1 ∧ x.2.length ≤ 1000) (hS : Ser.SeesO w o xs) :
    Calls Try.prog 12 #[.slice o n c] w fun e w' =>
      ((okB xs = false ∧ e = .returned (.tuple #[.pointer none, .int .i64 1])) ∨ (okB xs = true ∧ ∃ p, e = .returned (.tuple #[.pointer (some ⟨p, 0, none⟩), .int .i64 0]) ∧ Own w.heap.size w' p xs)) ∧ Below w.heap.size w w' := by
  have HS := Lib.hid hS
  have HN := Lib.hid hn
  have HSM := Lib.hid hsm
  unfold maxLen at hm
  clear hS hn hsm
  by_cases h40 : 40 < n
  · have j1 : (40 : Int) < n := by omega
    have hok : okB xs = false := by unfold okB; rw [HN.out]; simp; omega
    go_enter Try.func12, Try.ntmps12
    go_wp2
    go_ret2
    exact ⟨.inl ⟨hok, rfl⟩, Below.refl _ _⟩
  have j1 : ¬ (40 : Int) < n := by omega
  have HFit := Lib.hid (fun (oL oP : Option Addr) (nL cL nP cP : Nat) (x : Srs) (W : World) h1 h2 h3 h4 h5 h6 => fits_any oL oP nL cL nP cP x W h1 h2 h3 h4 h5 h6)
  have HCmp := Lib.hid (fun (o1 o2 : Option Addr) (n1 c1 n2 c2 : Nat) (a b : Labs) (W : World) (h1 : a.length = n1) (h2 : b.length = n2) (m1 : n1 ≤ maxLen) (m2 : n2 ≤ maxLen) (s1 : SeesO W o1 a) (s2 : SeesO W o2 b) => (show Calls Try.prog 25 #[.slice o1 n1 c1, .slice o2 n2 c2] W fun e w' => e = .returned (.int .i64 (cmpL a b)) ∧ Below W.heap.size W w' by
    subst h1 h2; exact compare_any o1 o2 c1 c2 a b W m1 m2 s1 s2))
  go_enter Try.func12, Try.ntmps12
  go_wp2
  go_loopw [11] (fun v11 wr => ∃ i : Nat, v11 = .int .i64 i ∧ i ≤ n ∧ Hid (∀ j, j < i → nextB xs j = true) ∧ Hid (Below w.heap.size w wr)) (fun v11 _ => n - (Go.RowKit.intOf v11).toNat)
  case atStart => exact ⟨0, rfl, Nat.zero_le _, fun j hj => absurd hj (Nat.not_lt_zero _), Below.refl _ _⟩
  case round =>
    obtain ⟨i, rfl, hi, HAll, HB⟩ := hrel
    by_cases hin : i < n
    · have j2 : (i : Int) < n := by omega
      obtain ⟨x, hx⟩ := Ser.get_lt HN.out hin
      obtain ⟨b, off, rfl, hSS⟩ := (HS.out.below HB.out).at hx
      obtain ⟨u, v, c0, c1, oL, cL, oP, cP, rfl, rfl, hL, hP, lL, lP⟩ := hSS.at0 _ x hx
      obtain ⟨e1, e2⟩ := HSM.out x (List.mem_of_getElem? hx)
      obtain ⟨nL, hnL⟩ : ∃ nL, x.1.length = nL := ⟨_, rfl⟩
      obtain ⟨nP, hnP⟩ : ∃ nP, x.2.length = nP := ⟨_, rfl⟩
      rw [hnL] at c0 lL
      rw [hnP] at c1 e2
      obtain ⟨W, hW⟩ : ∃ W, wr.alloc (Obj.cells #[.slice oL nL cL, .slice oP nP cP] 28) = W := ⟨_, rfl⟩
      have hBW : Below wr.heap.size wr W := by rw [← hW]; exact (Below.refl _ _).alloc (Nat.le_refl _) _
      have HF := Lib.hid (fun V (hb : Below wr.heap.size wr V) => HFit.out oL oP nL cL nP cP x V hnL hnP e1 e2 (hL.below hb) (hP.below hb))
      have hWx : W.heap[wr.heap.size]? = some (.cells #[.slice oL nL cL, .slice oP nP cP] 28 (0, 0)) := by rw [← hW]; exact Array.getElem?_push_size
      have hWs : wr.heap.size < W.heap.size := (Array.getElem?_eq_some_iff.1 hWx).1
      have rd : ∀ W', Below W.heap.size W W' → W'.cell? ⟨wr.heap.size, 0, none⟩ = some (.slice oL nL cL) ∧ W'.cell? ⟨wr.heap.size, 1, none⟩ = some (.slice oP nP cP) := fun W' h => by
        have h1 := (h.block _ hWs).trans hWx
        constructor <;> simp [World.cell?, h1]
      obtain ⟨r0, r1⟩ := rd W (Below.refl _ _)
      have HRD := Lib.hid rd
      have HBW := Lib.hid hBW
      have HX := Lib.hid hx
      have HLi := Lib.hid (fun V (hb : Below wr.heap.size wr V) => hL.below hb)
      clear hWx hWs rd hBW hx hSS hP lP
      cases hf : fitB x with
      | false =>
        rw [hf] at HF
        have hok : okB xs = false := ok_no (j := i) (by rw [HN.out]; exact hin) (by
          unfold nextB; rw [HX.out]; simp only; rw [hf]; rfl)
        go_wp2_with fail
        refine wp_region_held_drew (S := (fun V => V.cell? ⟨wr.heap.size, 0, none⟩ = some (.slice oL nL cL) ∧ V.cell? ⟨wr.heap.size, 1, none⟩ = some (.slice oP nP cP))) (by kernel_rfl) (HRD.out _ (Below.refl _ _).drew) (fun hHeld => ?_)
        refine wpAnyH_take (i := 0) (v := ?_) rfl (by kernel_rfl) (by kernel_rfl) (by kernel_rfl) (fun _ _ _ h => h) (Or.inl ⟨by kernel_rfl, by intro w hSw; (try dsimp only at hSw); obtain ⟨s1, s2⟩ := hSw; go_simp; try with_reducible rfl⟩) hHeld ?_
        go_simp
        refine wpAnyH_ready (rs := [1]) (by kernel_rfl) (by simp) ?_
        refine AllReadyH.cons rfl (fun K hK => ?_) AllReadyH.nil
        clear hHeld
        go_simp
        refine (HF.out _ (HBW.out.trans ((Below.refl _ _).drew.mono HBW.out.size))).mono ?_; rintro e w4 ⟨rfl, b4⟩; have HB4 := Lib.hid (Below.trans (Below.refl W.heap.size W).drew b4)
        go_simp
        refine hK.out _ _ (HRD.out _ HB4.out) (fun hHeld => ?_)
        clear hK K
        refine wpAnyH_take (i := 2) (v := ?_) rfl (by kernel_rfl) (by kernel_rfl) (by kernel_rfl) (fun _ _ _ h => h) (Or.inl ⟨by kernel_rfl, by intro w _; go_simp; try with_reducible rfl⟩) hHeld ?_
        go_simp
        refine wpAnyH_take (i := 3) (v := ?_) rfl (by kernel_rfl) (by kernel_rfl) (by kernel_rfl) (fun _ _ _ h => h) (Or.inl ⟨by kernel_rfl, by intro w _; go_simp; try with_reducible rfl⟩) hHeld ?_
        go_simp
        refine wpAnyH_take (i := 4) (v := undef) rfl (by kernel_rfl) (by kernel_rfl) (by kernel_rfl) (fun _ _ _ h => h) (Or.inr ⟨by kernel_rfl, rfl⟩) hHeld ?_
        go_simp
        refine wpAnyH_take (i := 5) (v := undef) rfl (by kernel_rfl) (by kernel_rfl) (by kernel_rfl) (fun _ _ _ h => h) (Or.inr ⟨by kernel_rfl, rfl⟩) hHeld ?_
        go_simp
        refine wpAnyH_take (i := 6) (v := undef) rfl (by kernel_rfl) (by kernel_rfl) (by kernel_rfl) (fun _ _ _ h => h) (Or.inr ⟨by kernel_rfl, rfl⟩) hHeld ?_
        go_simp
        refine wpAnyH_take (i := 7) (v := undef) rfl (by kernel_rfl) (by kernel_rfl) (by kernel_rfl) (fun _ _ _ h => h) (Or.inr ⟨by kernel_rfl, rfl⟩) hHeld ?_
        go_simp
        refine wpAnyH_take (i := 8) (v := undef) rfl (by kernel_rfl) (by kernel_rfl) (by kernel_rfl) (fun _ _ _ h => h) (Or.inr ⟨by kernel_rfl, rfl⟩) hHeld ?_
        go_simp
        refine wpAnyH_take (i := 9) (v := undef) rfl (by kernel_rfl) (by kernel_rfl) (by kernel_rfl) (fun _ _ _ h => h) (Or.inr ⟨by kernel_rfl, rfl⟩) hHeld ?_
        go_simp
        refine wpAnyH_take (i := 10) (v := undef) rfl (by kernel_rfl) (by kernel_rfl) (by kernel_rfl) (fun _ _ _ h => h) (Or.inr ⟨by kernel_rfl, rfl⟩) hHeld ?_
        go_simp
        refine wpAnyH_take (i := 11) (v := undef) rfl (by kernel_rfl) (by kernel_rfl) (by kernel_rfl) (fun _ _ _ h => h) (Or.inr ⟨by kernel_rfl, rfl⟩) hHeld ?_
        go_simp
        refine wpAnyH_take (i := 12) (v := undef) rfl (by kernel_rfl) (by kernel_rfl) (by kernel_rfl) (fun _ _ _ h => h) (Or.inr ⟨by kernel_rfl, rfl⟩) hHeld ?_
        go_simp
        refine wpAnyH_take (i := 13) (v := undef) rfl (by kernel_rfl) (by kernel_rfl) (by kernel_rfl) (fun _ _ _ h => h) (Or.inr ⟨by kernel_rfl, rfl⟩) hHeld ?_
        go_simp
        refine wpAnyH_take (i := 14) (v := undef) rfl (by kernel_rfl) (by kernel_rfl) (by kernel_rfl) (fun _ _ _ h => h) (Or.inr ⟨by kernel_rfl, rfl⟩) hHeld ?_
        go_simp
        refine wpAnyH_take (i := 15) (v := undef) rfl (by kernel_rfl) (by kernel_rfl) (by kernel_rfl) (fun _ _ _ h => h) (Or.inr ⟨by kernel_rfl, rfl⟩) hHeld ?_
        go_simp
        refine wpAnyH_take (i := 16) (v := undef) rfl (by kernel_rfl) (by kernel_rfl) (by kernel_rfl) (fun _ _ _ h => h) (Or.inr ⟨by kernel_rfl, rfl⟩) hHeld ?_
        go_simp
        refine wpAnyH_take (i := 17) (v := undef) rfl (by kernel_rfl) (by kernel_rfl) (by kernel_rfl) (fun _ _ _ h => h) (Or.inr ⟨by kernel_rfl, rfl⟩) hHeld ?_
        go_simp
        refine wpAnyH_take (i := 18) (v := ?_) rfl (by kernel_rfl) (by kernel_rfl) (by kernel_rfl) (fun _ _ _ h => h) (Or.inl ⟨by kernel_rfl, by intro w _; go_simp; try with_reducible rfl⟩) hHeld ?_
        go_simp
        refine wpAnyH_done (by kernel_rfl) ?_ _
        go_wp2
        go_ret2
        exact ⟨.inl ⟨hok, rfl⟩, HB.out.trans ((HBW.out.trans (HB4.out.mono HBW.out.size)).mono HB.out.size)⟩
      | true =>
        rw [hf] at HF
        obtain rfl | ⟨m, rfl⟩ : i = 0 ∨ ∃ m, i = m + 1 := by cases i <;> simp
        · have HNX := Lib.hid (show nextB xs 0 = true by rw [next_zero HX.out]; exact hf)
          rw [Nat.zero_mul, Nat.add_zero] at c0 c1
          go_wp2_with fail
          refine wp_region_held_drew (S := (fun V => V.cell? ⟨wr.heap.size, 0, none⟩ = some (.slice oL nL cL) ∧ V.cell? ⟨wr.heap.size, 1, none⟩ = some (.slice oP nP cP))) (by kernel_rfl) (HRD.out _ (Below.refl _ _).drew) (fun hHeld => ?_)
          refine wpAnyH_take (i := 0) (v := ?_) rfl (by kernel_rfl) (by kernel_rfl) (by kernel_rfl) (fun _ _ _ h => h) (Or.inl ⟨by kernel_rfl, by intro w hSw; (try dsimp only at hSw); obtain ⟨s1, s2⟩ := hSw; go_simp; try with_reducible rfl⟩) hHeld ?_
          go_simp
          refine wpAnyH_ready (rs := [1]) (by kernel_rfl) (by simp) ?_
          refine AllReadyH.cons rfl (fun K hK => ?_) AllReadyH.nil
          clear hHeld
          go_simp
          refine (HF.out _ (HBW.out.trans ((Below.refl _ _).drew.mono HBW.out.size))).mono ?_; rintro e w4 ⟨rfl, b4⟩; have HB4 := Lib.hid (Below.trans (Below.refl W.heap.size W).drew b4)
          go_simp
          refine hK.out _ _ (HRD.out _ HB4.out) (fun hHeld => ?_)
          clear hK K
          refine wpAnyH_take (i := 2) (v := ?_) rfl (by kernel_rfl) (by kernel_rfl) (by kernel_rfl) (fun _ _ _ h => h) (Or.inl ⟨by kernel_rfl, by intro w _; go_simp; try with_reducible rfl⟩) hHeld ?_
          go_simp
          refine wpAnyH_take (i := 3) (v := ?_) rfl (by kernel_rfl) (by kernel_rfl) (by kernel_rfl) (fun _ _ _ h => h) (Or.inl ⟨by kernel_rfl, by intro w _; go_simp; try with_reducible rfl⟩) hHeld ?_
          go_simp
          refine wpAnyH_take (i := 4) (v := ?_) rfl (by kernel_rfl) (by kernel_rfl) (by kernel_rfl) (fun _ _ _ h => h) (Or.inl ⟨by kernel_rfl, by intro w _; go_simp; try with_reducible rfl⟩) hHeld ?_
          go_simp
          refine wpAnyH_take (i := 5) (v := ?_) rfl (by kernel_rfl) (by kernel_rfl) (by kernel_rfl) (fun _ _ _ h => h) (Or.inl ⟨by kernel_rfl, by intro w _; go_simp; try with_reducible rfl⟩) hHeld ?_
          go_simp
          refine wpAnyH_take (i := 6) (v := ?_) rfl (by kernel_rfl) (by kernel_rfl) (by kernel_rfl) (fun _ _ _ h => h) (Or.inl ⟨by kernel_rfl, by intro w _; go_simp; try with_reducible rfl⟩) hHeld ?_
          go_simp
          refine wpAnyH_take (i := 7) (v := undef) rfl (by kernel_rfl) (by kernel_rfl) (by kernel_rfl) (fun _ _ _ h => h) (Or.inr ⟨by kernel_rfl, rfl⟩) hHeld ?_
          go_simp
          refine wpAnyH_take (i := 8) (v := undef) rfl (by kernel_rfl) (by kernel_rfl) (by kernel_rfl) (fun _ _ _ h => h) (Or.inr ⟨by kernel_rfl, rfl⟩) hHeld ?_
          go_simp
          refine wpAnyH_take (i := 9) (v := undef) rfl (by kernel_rfl) (by kernel_rfl) (by kernel_rfl) (fun _ _ _ h => h) (Or.inr ⟨by kernel_rfl, rfl⟩) hHeld ?_
          go_simp
          refine wpAnyH_take (i := 10) (v := undef) rfl (by kernel_rfl) (by kernel_rfl) (by kernel_rfl) (fun _ _ _ h => h) (Or.inr ⟨by kernel_rfl, rfl⟩) hHeld ?_
          go_simp
          refine wpAnyH_take (i := 11) (v := undef) rfl (by kernel_rfl) (by kernel_rfl) (by kernel_rfl) (fun _ _ _ h => h) (Or.inr ⟨by kernel_rfl, rfl⟩) hHeld ?_
          go_simp
          refine wpAnyH_take (i := 12) (v := undef) rfl (by kernel_rfl) (by kernel_rfl) (by kernel_rfl) (fun _ _ _ h => h) (Or.inr ⟨by kernel_rfl, rfl⟩) hHeld ?_
          go_simp
          refine wpAnyH_take (i := 13) (v := undef) rfl (by kernel_rfl) (by kernel_rfl) (by kernel_rfl) (fun _ _ _ h => h) (Or.inr ⟨by kernel_rfl, rfl⟩) hHeld ?_
          go_simp
          refine wpAnyH_take (i := 14) (v := undef) rfl (by kernel_rfl) (by kernel_rfl) (by kernel_rfl) (fun _ _ _ h => h) (Or.inr ⟨by kernel_rfl, rfl⟩) hHeld ?_
          go_simp
          refine wpAnyH_take (i := 15) (v := undef) rfl (by kernel_rfl) (by kernel_rfl) (by kernel_rfl) (fun _ _ _ h => h) (Or.inr ⟨by kernel_rfl, rfl⟩) hHeld ?_
          go_simp
          refine wpAnyH_take (i := 16) (v := undef) rfl (by kernel_rfl) (by kernel_rfl) (by kernel_rfl) (fun _ _ _ h => h) (Or.inr ⟨by kernel_rfl, rfl⟩) hHeld ?_
          go_simp
          refine wpAnyH_take (i := 17) (v := ?_) rfl (by kernel_rfl) (by kernel_rfl) (by kernel_rfl) (fun _ _ _ h => h) (Or.inl ⟨by kernel_rfl, by intro w _; go_simp; try with_reducible rfl⟩) hHeld ?_
          go_simp
          refine wpAnyH_take (i := 18) (v := ?_) rfl (by kernel_rfl) (by kernel_rfl) (by kernel_rfl) (fun _ _ _ h => h) (Or.inl ⟨by kernel_rfl, by intro w _; go_simp; try with_reducible rfl⟩) hHeld ?_
          go_simp
          refine wpAnyH_done (by kernel_rfl) ?_ _
          go_wp2
          go_roundw
          case rel => exact ⟨0 + 1, by go_num, by omega, Lib.hid (fun j hj => by
            have e : j = 0 := by omega
            rw [e]; exact HNX.out), Lib.hid (HB.out.trans ((HBW.out.trans (HB4.out.mono HBW.out.size)).mono HB.out.size))⟩
          case measure => simp [Go.RowKit.intOf]; omega
        · obtain ⟨y, hy⟩ := Ser.get_lt HN.out (show m < n by omega)
          obtain ⟨b', off', e, hSS⟩ := (HS.out.below HB.out).at hy
          cases e
          obtain ⟨u', v', d0, _, oM, cM, oQ, cQ, rfl, rfl, hM, _, lM, _⟩ := hSS.at0 _ y hy
          obtain ⟨nM, hnM⟩ : ∃ nM, y.1.length = nM := ⟨_, rfl⟩
          rw [hnM] at d0 lM
          have hbl : b < wr.heap.size := cell_lt d0
          have HYC := Lib.hid (fun V (hb : Below wr.heap.size wr V) => (hb.cell (p := ⟨b, off + m * 2, none⟩) hbl).trans d0)
          have HCm := Lib.hid (fun V (hb : Below wr.heap.size wr V) => HCmp.out oM oL nM cM nL cL y.1 x.1 V hnM hnL lM lL (hM.below hb) (HLi.out V hb))
          have HNS := Lib.hid (next_succ HX.out hy)
          have j3 : (0 : Int) < (m : Int) + 1 := by omega
          have j4 : (m : Int) < n := by omega
          have jw : IntKind.i64.wrap (m : Int) = (m : Int) := by rw [IntKind.wrap_i64]; omega
          obtain ⟨r, hr⟩ : ∃ r, cmpL y.1 x.1 = r := ⟨_, rfl⟩
          rw [hr] at HCm HNS
          clear d0 hbl hM lM hSS hy hr hnM
          by_cases hr0 : (0 : Int) ≤ r
          · have hok : okB xs = false := ok_no (j := m + 1) (by rw [HN.out]; exact hin) (by
              rw [HNS.out, hf]; simp; omega)
            go_wp2_with fail
            refine wp_region_held_drew (S := (fun V => (V.cell? ⟨wr.heap.size, 0, none⟩ = some (.slice oL nL cL) ∧ V.cell? ⟨wr.heap.size, 1, none⟩ = some (.slice oP nP cP)) ∧ V.cell? ⟨b, off + m * 2, none⟩ = some (.slice oM nM cM))) (by kernel_rfl) (⟨HRD.out _ (Below.refl _ _).drew, HYC.out _ (HBW.out.trans ((Below.refl _ _).drew.mono HBW.out.size))⟩) (fun hHeld => ?_)
            refine wpAnyH_take (i := 0) (v := ?_) rfl (by kernel_rfl) (by kernel_rfl) (by kernel_rfl) (fun _ _ _ h => h) (Or.inl ⟨by kernel_rfl, by intro w hSw; (try dsimp only at hSw); obtain ⟨⟨s1, s2⟩, s3⟩ := hSw; go_simp; try with_reducible rfl⟩) hHeld ?_
            go_simp
            refine wpAnyH_ready (rs := [1]) (by kernel_rfl) (by simp) ?_
            refine AllReadyH.cons rfl (fun K hK => ?_) AllReadyH.nil
            clear hHeld
            go_simp
            refine (HF.out _ (HBW.out.trans ((Below.refl _ _).drew.mono HBW.out.size))).mono ?_; rintro e w4 ⟨rfl, b4⟩; have HB4 := Lib.hid (Below.trans (Below.refl W.heap.size W).drew b4)
            go_simp
            refine hK.out _ _ (⟨HRD.out _ HB4.out, HYC.out _ (HBW.out.trans (HB4.out.mono HBW.out.size))⟩) (fun hHeld => ?_)
            clear hK K
            refine wpAnyH_take (i := 2) (v := ?_) rfl (by kernel_rfl) (by kernel_rfl) (by kernel_rfl) (fun _ _ _ h => h) (Or.inl ⟨by kernel_rfl, by intro w _; go_simp; try with_reducible rfl⟩) hHeld ?_
            go_simp
            refine wpAnyH_take (i := 3) (v := ?_) rfl (by kernel_rfl) (by kernel_rfl) (by kernel_rfl) (fun _ _ _ h => h) (Or.inl ⟨by kernel_rfl, by intro w _; go_simp; try with_reducible rfl⟩) hHeld ?_
            go_simp
            refine wpAnyH_take (i := 4) (v := ?_) rfl (by kernel_rfl) (by kernel_rfl) (by kernel_rfl) (fun _ _ _ h => h) (Or.inl ⟨by kernel_rfl, by intro w _; go_simp; try with_reducible rfl⟩) hHeld ?_
            go_simp
            refine wpAnyH_take (i := 5) (v := ?_) rfl (by kernel_rfl) (by kernel_rfl) (by kernel_rfl) (fun _ _ _ h => h) (Or.inl ⟨by kernel_rfl, by intro w _; go_simp; try with_reducible rfl⟩) hHeld ?_
            go_simp
            refine wpAnyH_take (i := 6) (v := ?_) rfl (by kernel_rfl) (by kernel_rfl) (by kernel_rfl) (fun _ _ _ h => h) (Or.inl ⟨by kernel_rfl, by intro w _; go_simp; try with_reducible rfl⟩) hHeld ?_
            go_simp
            refine wpAnyH_take (i := 7) (v := ?_) rfl (by kernel_rfl) (by kernel_rfl) (by kernel_rfl) (fun _ _ _ h => h) (Or.inl ⟨by kernel_rfl, by intro w _; go_simp; try with_reducible rfl⟩) hHeld ?_
            go_simp
            refine wpAnyH_take (i := 8) (v := ?_) rfl (by kernel_rfl) (by kernel_rfl) (by kernel_rfl) (fun _ _ _ h => h) (Or.inl ⟨by kernel_rfl, by intro w _; go_simp; try with_reducible rfl⟩) hHeld ?_
            go_simp
            refine wpAnyH_take (i := 9) (v := ?_) rfl (by kernel_rfl) (by kernel_rfl) (by kernel_rfl) (fun _ _ _ h => h) (Or.inl ⟨by kernel_rfl, by intro w _; go_simp; try with_reducible rfl⟩) hHeld ?_
            go_simp
            refine wpAnyH_take (i := 10) (v := ?_) rfl (by kernel_rfl) (by kernel_rfl) (by kernel_rfl) (fun _ _ _ h => h) (Or.inl ⟨by kernel_rfl, by intro w _; go_simp; try with_reducible rfl⟩) hHeld ?_
            go_simp
            refine wpAnyH_take (i := 11) (v := ?_) rfl (by kernel_rfl) (by kernel_rfl) (by kernel_rfl) (fun _ _ _ h => h) (Or.inl ⟨by kernel_rfl, by intro w _; go_simp; try with_reducible rfl⟩) hHeld ?_
            go_simp
            refine wpAnyH_take (i := 12) (v := ?_) rfl (by kernel_rfl) (by kernel_rfl) (by kernel_rfl) (fun _ _ _ h => h) (Or.inl ⟨by kernel_rfl, by intro w hSw; (try dsimp only at hSw); obtain ⟨⟨s1, s2⟩, s3⟩ := hSw; go_simp; try with_reducible rfl⟩) hHeld ?_
            go_simp
            refine wpAnyH_take (i := 13) (v := ?_) rfl (by kernel_rfl) (by kernel_rfl) (by kernel_rfl) (fun _ _ _ h => h) (Or.inl ⟨by kernel_rfl, by intro w _; go_simp; try with_reducible rfl⟩) hHeld ?_
            go_simp
            refine wpAnyH_take (i := 14) (v := ?_) rfl (by kernel_rfl) (by kernel_rfl) (by kernel_rfl) (fun _ _ _ h => h) (Or.inl ⟨by kernel_rfl, by intro w hSw; (try dsimp only at hSw); obtain ⟨⟨s1, s2⟩, s3⟩ := hSw; go_simp; try with_reducible rfl⟩) hHeld ?_
            go_simp
            refine wpAnyH_ready (rs := [15]) (by kernel_rfl) (by simp) ?_
            refine AllReadyH.cons rfl (fun K hK => ?_) AllReadyH.nil
            clear hHeld
            go_simp
            refine (HCm.out _ (HBW.out.trans (HB4.out.mono HBW.out.size))).mono ?_; rintro e w5 ⟨rfl, b5⟩; have HB5 := Lib.hid (HB4.out.trans (b5.mono HB4.out.size))
            go_simp
            refine hK.out _ _ (⟨HRD.out _ HB5.out, HYC.out _ (HBW.out.trans (HB5.out.mono HBW.out.size))⟩) (fun hHeld => ?_)
            clear hK K
            refine wpAnyH_take (i := 16) (v := ?_) rfl (by kernel_rfl) (by kernel_rfl) (by kernel_rfl) (fun _ _ _ h => h) (Or.inl ⟨by kernel_rfl, by intro w _; go_simp; try with_reducible rfl⟩) hHeld ?_
            go_simp
            refine wpAnyH_take (i := 17) (v := ?_) rfl (by kernel_rfl) (by kernel_rfl) (by kernel_rfl) (fun _ _ _ h => h) (Or.inl ⟨by kernel_rfl, by intro w _; go_simp; try with_reducible rfl⟩) hHeld ?_
            go_simp
            refine wpAnyH_take (i := 18) (v := ?_) rfl (by kernel_rfl) (by kernel_rfl) (by kernel_rfl) (fun _ _ _ h => h) (Or.inl ⟨by kernel_rfl, by intro w _; go_simp; try with_reducible rfl⟩) hHeld ?_
            go_simp
            refine wpAnyH_done (by kernel_rfl) ?_ _
            go_wp2
            go_ret2
            exact ⟨.inl ⟨hok, rfl⟩, HB.out.trans ((HBW.out.trans (HB5.out.mono HBW.out.size)).mono HB.out.size)⟩
          · have HNX := Lib.hid (show nextB xs (m + 1) = true by rw [HNS.out, hf]; simp; omega)
            have jr : r < (0 : Int) := by omega
            go_wp2_with fail
            refine wp_region_held_drew (S := (fun V => (V.cell? ⟨wr.heap.size, 0, none⟩ = some (.slice oL nL cL) ∧ V.cell? ⟨wr.heap.size, 1, none⟩ = some (.slice oP nP cP)) ∧ V.cell? ⟨b, off + m * 2, none⟩ = some (.slice oM nM cM))) (by kernel_rfl) (⟨HRD.out _ (Below.refl _ _).drew, HYC.out _ (HBW.out.trans ((Below.refl _ _).drew.mono HBW.out.size))⟩) (fun hHeld => ?_)
            refine wpAnyH_take (i := 0) (v := ?_) rfl (by kernel_rfl) (by kernel_rfl) (by kernel_rfl) (fun _ _ _ h => h) (Or.inl ⟨by kernel_rfl, by intro w hSw; (try dsimp only at hSw); obtain ⟨⟨s1, s2⟩, s3⟩ := hSw; go_simp; try with_reducible rfl⟩) hHeld ?_
            go_simp
            refine wpAnyH_ready (rs := [1]) (by kernel_rfl) (by simp) ?_
            refine AllReadyH.cons rfl (fun K hK => ?_) AllReadyH.nil
            clear hHeld
            go_simp
            refine (HF.out _ (HBW.out.trans ((Below.refl _ _).drew.mono HBW.out.size))).mono ?_; rintro e w4 ⟨rfl, b4⟩; have HB4 := Lib.hid (Below.trans (Below.refl W.heap.size W).drew b4)
            go_simp
            refine hK.out _ _ (⟨HRD.out _ HB4.out, HYC.out _ (HBW.out.trans (HB4.out.mono HBW.out.size))⟩) (fun hHeld => ?_)
            clear hK K
            refine wpAnyH_take (i := 2) (v := ?_) rfl (by kernel_rfl) (by kernel_rfl) (by kernel_rfl) (fun _ _ _ h => h) (Or.inl ⟨by kernel_rfl, by intro w _; go_simp; try with_reducible rfl⟩) hHeld ?_
            go_simp
            refine wpAnyH_take (i := 3) (v := ?_) rfl (by kernel_rfl) (by kernel_rfl) (by kernel_rfl) (fun _ _ _ h => h) (Or.inl ⟨by kernel_rfl, by intro w _; go_simp; try with_reducible rfl⟩) hHeld ?_
            go_simp
            refine wpAnyH_take (i := 4) (v := ?_) rfl (by kernel_rfl) (by kernel_rfl) (by kernel_rfl) (fun _ _ _ h => h) (Or.inl ⟨by kernel_rfl, by intro w _; go_simp; try with_reducible rfl⟩) hHeld ?_
            go_simp
            refine wpAnyH_take (i := 5) (v := ?_) rfl (by kernel_rfl) (by kernel_rfl) (by kernel_rfl) (fun _ _ _ h => h) (Or.inl ⟨by kernel_rfl, by intro w _; go_simp; try with_reducible rfl⟩) hHeld ?_
            go_simp
            refine wpAnyH_take (i := 6) (v := ?_) rfl (by kernel_rfl) (by kernel_rfl) (by kernel_rfl) (fun _ _ _ h => h) (Or.inl ⟨by kernel_rfl, by intro w _; go_simp; try with_reducible rfl⟩) hHeld ?_
            go_simp
            refine wpAnyH_take (i := 7) (v := ?_) rfl (by kernel_rfl) (by kernel_rfl) (by kernel_rfl) (fun _ _ _ h => h) (Or.inl ⟨by kernel_rfl, by intro w _; go_simp; try with_reducible rfl⟩) hHeld ?_
            go_simp
            refine wpAnyH_take (i := 8) (v := ?_) rfl (by kernel_rfl) (by kernel_rfl) (by kernel_rfl) (fun _ _ _ h => h) (Or.inl ⟨by kernel_rfl, by intro w _; go_simp; try with_reducible rfl⟩) hHeld ?_
            go_simp
            refine wpAnyH_take (i := 9) (v := ?_) rfl (by kernel_rfl) (by kernel_rfl) (by kernel_rfl) (fun _ _ _ h => h) (Or.inl ⟨by kernel_rfl, by intro w _; go_simp; try with_reducible rfl⟩) hHeld ?_
            go_simp
            refine wpAnyH_take (i := 10) (v := ?_) rfl (by kernel_rfl) (by kernel_rfl) (by kernel_rfl) (fun _ _ _ h => h) (Or.inl ⟨by kernel_rfl, by intro w _; go_simp; try with_reducible rfl⟩) hHeld ?_
            go_simp
            refine wpAnyH_take (i := 11) (v := ?_) rfl (by kernel_rfl) (by kernel_rfl) (by kernel_rfl) (fun _ _ _ h => h) (Or.inl ⟨by kernel_rfl, by intro w _; go_simp; try with_reducible rfl⟩) hHeld ?_
            go_simp
            refine wpAnyH_take (i := 12) (v := ?_) rfl (by kernel_rfl) (by kernel_rfl) (by kernel_rfl) (fun _ _ _ h => h) (Or.inl ⟨by kernel_rfl, by intro w hSw; (try dsimp only at hSw); obtain ⟨⟨s1, s2⟩, s3⟩ := hSw; go_simp; try with_reducible rfl⟩) hHeld ?_
            go_simp
            refine wpAnyH_take (i := 13) (v := ?_) rfl (by kernel_rfl) (by kernel_rfl) (by kernel_rfl) (fun _ _ _ h => h) (Or.inl ⟨by kernel_rfl, by intro w _; go_simp; try with_reducible rfl⟩) hHeld ?_
            go_simp
            refine wpAnyH_take (i := 14) (v := ?_) rfl (by kernel_rfl) (by kernel_rfl) (by kernel_rfl) (fun _ _ _ h => h) (Or.inl ⟨by kernel_rfl, by intro w hSw; (try dsimp only at hSw); obtain ⟨⟨s1, s2⟩, s3⟩ := hSw; go_simp; try with_reducible rfl⟩) hHeld ?_
            go_simp
            refine wpAnyH_ready (rs := [15]) (by kernel_rfl) (by simp) ?_
            refine AllReadyH.cons rfl (fun K hK => ?_) AllReadyH.nil
            clear hHeld
            go_simp
            refine (HCm.out _ (HBW.out.trans (HB4.out.mono HBW.out.size))).mono ?_; rintro e w5 ⟨rfl, b5⟩; have HB5 := Lib.hid (HB4.out.trans (b5.mono HB4.out.size))
            go_simp
            refine hK.out _ _ (⟨HRD.out _ HB5.out, HYC.out _ (HBW.out.trans (HB5.out.mono HBW.out.size))⟩) (fun hHeld => ?_)
            clear hK K
            refine wpAnyH_take (i := 16) (v := ?_) rfl (by kernel_rfl) (by kernel_rfl) (by kernel_rfl) (fun _ _ _ h => h) (Or.inl ⟨by kernel_rfl, by intro w _; go_simp; try with_reducible rfl⟩) hHeld ?_
            go_simp
            refine wpAnyH_take (i := 17) (v := ?_) rfl (by kernel_rfl) (by kernel_rfl) (by kernel_rfl) (fun _ _ _ h => h) (Or.inl ⟨by kernel_rfl, by intro w _; go_simp; try with_reducible rfl⟩) hHeld ?_
            go_simp
            refine wpAnyH_take (i := 18) (v := ?_) rfl (by kernel_rfl) (by kernel_rfl) (by kernel_rfl) (fun _ _ _ h => h) (Or.inl ⟨by kernel_rfl, by intro w _; go_simp; try with_reducible rfl⟩) hHeld ?_
            go_simp
            refine wpAnyH_done (by kernel_rfl) ?_ _
            go_wp2
            go_roundw
            case rel => exact ⟨m + 1 + 1, by go_num, by omega, Lib.hid (fun j hj => by
              by_cases hjm : j = m + 1
              · rw [hjm]; exact HNX.out
              · exact HAll.out j (by omega)), Lib.hid (HB.out.trans ((HBW.out.trans (HB5.out.mono HBW.out.size)).mono HB.out.size))⟩
            case measure => simp [Go.RowKit.intOf]; omega
    · have hall : ∀ j, j < xs.length → nextB xs j = true := fun j hj => HAll.out j (by rw [HN.out] at hj; omega)
      have hok : okB xs = true := by
        unfold okB; rw [Bool.and_eq_true]
        exact ⟨by rw [HN.out]; exact decide_eq_true (by omega), List.all_eq_true.2 fun j hj => hall j (List.mem_range.1 hj)⟩
      have hpos : ∀ x ∈ xs, Small x.1 ∧ 0 < x.2.length ∧ x.2.length ≤ 1000 := fun x hx => by
        obtain ⟨j, hj, hxj⟩ := List.getElem_of_mem hx
        have h1 := fit_pos (fit_next (hall j hj) (List.getElem?_eq_some_iff.2 ⟨hj, hxj⟩))
        have h2 := HSM.out x hx
        exact ⟨h2.1, h1, h2.2⟩
      have HCl := Lib.hid (cloneAll_any o n c xs wr HN.out (by omega) hpos (HS.out.below HB.out))
      clear hall hpos
      obtain ⟨wo, hwo⟩ : ∃ wo : World, wr = wo := ⟨wr, rfl⟩
      subst wr
      go_wp2_with fail
      refine HCl.out.mono ?_
      rintro e w1 ⟨⟨v, us, rfl, hA⟩, b1⟩
      obtain ⟨o2, c2, rfl, _⟩ := own_shape hA.own
      have HA := Lib.hid (alls_st hA b1.size)
      have HB1 := Lib.hid (HB.out.trans (b1.mono HB.out.size))
      have hz1 := b1.size
      have hz0 := HB.out.size
      clear hA b1
      go_wp2
      go_ret2
      have hs : (w1.alloc (Obj.cells #[.slice o2 us.length c2] 45)).heap.size = w1.heap.size + 1 := by simp
      exact ⟨.inr ⟨hok, _, rfl, HA.out.same (Nat.le_refl _) (fun _ _ => rfl) (fun k hk => ⟨by omega, by rw [hs]; exact hk.2⟩) fun k hk => hk.2⟩, HB1.out.alloc HB1.out.size _⟩
end Go.Proofs.Ytphkodkenkiecaa.Sto
