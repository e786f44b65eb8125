/- The book of rows, third part: what raw rows mean; lists of rows compared. -/
import Derived.Test.YtbdnonphkobkoaaGreatKrb
import Derived.Test.YtbdnonphkobkoaaGreatGg
import Derived.Deep.QuietTactic
namespace Go.Proofs.YtbdnonphkobkoaaGreat.BkR
open Go.RowKit
open Go.Proofs.YtbdnonphkobkoaaGreat.Vec (Rw RowsS ERow OwnG LabS Firm firmRow get_ltG drop_atG row_at)

theorem frow0 {B : Nat} : Firm (ERow B) 2 53 B := firmRow (by decide)
/-- Are two rows alike? -/
def eqR (x y : Rw) : Bool := Go.Proofs.YtbdnonphkobkoaaGreat.sameL x.1 y.1 && (x.2 == y.2)
def sameR : List Rw → List Rw → Bool
  | [], [] => true
  | x :: xs, y :: ys => eqR x y && sameR xs ys
  | _, _ => false
theorem sameR_len : ∀ (xs ys : List Rw), xs.length ≠ ys.length → sameR xs ys = false
  | [], [], h => absurd rfl h
  | [], _ :: _, _ => rfl
  | _ :: _, [], _ => rfl
  | x :: xs, y :: ys, h => by rw [sameR, sameR_len xs ys (by simpa using h), Bool.and_false]
theorem sameR_refl : ∀ xs : List Rw, sameR xs xs = true
  | [] => rfl
  | x :: xs => by rw [sameR, sameR_refl xs, Bool.and_true]; unfold eqR; rw [Go.Proofs.YtbdnonphkobkoaaGreat.sameL_refl]; simp

set_option maxHeartbeats 4000000 in
set_option maxRecDepth 100000 in
theorem sameRows_quiet (o1 o2 : Option Addr) (c1 c2 : Nat) (xs ys : List Rw) (w : World) (hm : xs.length ≤ maxLen) (hm2 : ys.length ≤ maxLen) (B : Nat) (h1 : RowsS w B o1 xs) (h2 : RowsS w B o2 ys) :
    Calls Tryz.prog 20 #[.slice o1 xs.length c1, .slice o2 ys.length c2] w fun e w' => e = .returned (.bool (sameR xs ys)) ∧ ∃ q, w' = w.drewN q := by
  obtain ⟨n, hn⟩ : ∃ n, xs.length = n := ⟨_, rfl⟩
  obtain ⟨m, hm'⟩ : ∃ m, ys.length = m := ⟨_, rfl⟩
  have HN := Lib.hid hn
  have HM := Lib.hid hm'
  rw [hn] at hm ⊢
  rw [hm'] at hm2 ⊢
  clear hn hm'
  unfold maxLen at hm hm2
  by_cases hnm : n = m
  · subst hnm
    have HS1 := Lib.hid h1
    have HS2 := Lib.hid h2
    clear h1 h2
    go_enter Tryz.func20, Tryz.ntmps20
    go_wp2
    go_loopw [5] (fun v13 wr => ∃ k : Nat, v13 = .int .i64 k ∧ k ≤ n ∧ Hid (∃ q, wr = w.drewN q) ∧ Hid (sameR (xs.drop k) (ys.drop k) = sameR xs ys)) (fun v13 _ => n - (intOf v13).toNat)
    case atStart => exact ⟨0, rfl, Nat.zero_le _, ⟨0, rfl⟩, rfl⟩
    case round =>
      obtain ⟨k, rfl, hk, HB, H⟩ := hrel
      by_cases hkn : k < n
      · have j1 : (k : Int) < n := by omega
        obtain ⟨x, hx⟩ := get_ltG HN.out hkn
        obtain ⟨b, off, rfl, hS⟩ := (HS1.out.below frow0 (quietB HB.out)).at hx
        obtain ⟨y, hy⟩ := get_ltG HM.out hkn
        obtain ⟨b2, off2, rfl, hS2⟩ := (HS2.out.below frow0 (quietB HB.out)).at hy
        obtain ⟨oL, cL, c0, c1, hL, lL⟩ := row_at hS hx
        obtain ⟨oM, cM, d0, d1, hM, lM⟩ := row_at hS2 hy
        have HX := Lib.hid (drop_atG hx)
        have HY := Lib.hid (drop_atG hy)
        have HCL := Lib.hid (fun q => Go.Proofs.YtbdnonphkobkoaaGreat.sameLabels_quiet oL oM cL cM x.1 y.1 (wr.drewN q) lL lM (hL.sees.below (quietB ⟨q, rfl⟩)) (hM.sees.below (quietB ⟨q, rfl⟩)))
        clear hS hS2 hx hy hL hM
        generalize x.1.length = nL at c0 HCL lL
        generalize y.1.length = nM at d0 HCL lM
        unfold maxLen at lL lM
        have HE := Lib.hid (show eqR x y = (Go.Proofs.YtbdnonphkobkoaaGreat.sameL x.1 y.1 && (x.2 == y.2)) from rfl)
        cases eP : x.2 == y.2 with
        | false =>
          rw [eP] at HE
          have H2 := Lib.hid (show false = sameR xs ys by rw [← H.out, HX.out, HY.out, sameR, HE.out]; simp)
          clear HCL
          go_wp2_with fail
          go_quiet (fail)
          have HBq := Lib.hid (quietQ HB.out nq)
          go_wp2
          go_ret
          exact ⟨ret_bool H2.out, HBq.out⟩
        | true =>
          cases eL : Go.Proofs.YtbdnonphkobkoaaGreat.sameL x.1 y.1 with
          | false =>
            rw [eL] at HCL HE
            have H2 := Lib.hid (show false = sameR xs ys by rw [← H.out, HX.out, HY.out, sameR, HE.out]; simp)
            clear eL
            go_wp2_with fail
            go_quiet (first | (go_at_call 21; exact Calls.quiet_of (HCL.out _)))
            have HBq := Lib.hid (quietQ HB.out nq)
            go_wp2
            go_ret
            exact ⟨ret_bool H2.out, HBq.out⟩
          | true =>
            rw [eL] at HCL HE
            rw [eP] at HE
            have H2 := Lib.hid (show sameR (xs.drop (k + 1)) (ys.drop (k + 1)) = sameR xs ys by rw [← H.out, HX.out, HY.out, sameR, HE.out]; simp)
            clear eL
            go_wp2_with fail
            go_quiet (first | (go_at_call 21; exact Calls.quiet_of (HCL.out _)))
            have HBq := Lib.hid (quietQ HB.out nq)
            go_wp2
            go_roundw
            case rel => exact ⟨k + 1, by go_num, by omega, HBq, H2⟩
            case measure => simp [intOf]; omega
      · have j1 : (n : Int) ≤ k := by omega
        have H2 := Lib.hid (show true = sameR xs ys by
          have e1 : xs.drop k = [] := List.drop_eq_nil_of_le (by rw [HN.out]; omega)
          have e2 : ys.drop k = [] := List.drop_eq_nil_of_le (by rw [HM.out]; omega)
          rw [← H.out, e1, e2, sameR])
        go_wp2
        go_ret
        exact ⟨ret_bool H2.out, HB.out⟩
  · have H2 := Lib.hid (show false = sameR xs ys from (sameR_len xs ys (by rw [HN.out, HM.out]; exact hnm)).symm)
    have t1 : ((n : Int) != (m : Int)) = true := by rw [bne_iff_ne]; omega
    have t2 : ((n : Int) == (m : Int)) = false := by rw [beq_eq_false_iff_ne]; omega
    clear hnm
    go_enter Tryz.func20, Tryz.ntmps20
    go_wp2
    go_ret
    exact ⟨ret_bool H2.out, 0, rfl⟩
theorem sameRows_any (o1 o2 : Option Addr) (c1 c2 : Nat) (xs ys : List Rw) (w : World) (hm : xs.length ≤ maxLen) (hm2 : ys.length ≤ maxLen) (B : Nat) (h1 : RowsS w B o1 xs) (h2 : RowsS w B o2 ys) :
    Calls Tryz.prog 20 #[.slice o1 xs.length c1, .slice o2 ys.length c2] w fun e w' => e = .returned (.bool (sameR xs ys)) ∧ Below w.heap.size w w' :=
  (sameRows_quiet o1 o2 c1 c2 xs ys w hm hm2 B h1 h2).mono fun _ _ h => ⟨h.1, quietB h.2⟩

/-- Raw rows mean these rows. -/
structure Means (B : Nat) (w : World) (xs : List El) (ms : List Rw) : Prop where
  len : xs.length = ms.length
  one : ∀ (j : Nat) (x : El) (m : Rw), xs[j]? = some x → ms[j]? = some m → ERow B w (encE x) m
theorem Means.below {B : Nat} {w w' : World} {xs : List El} {ms : List Rw} (h : Means B w xs ms) (hb : Below w.heap.size w w') : Means B w' xs ms :=
  ⟨h.len, fun j x m hx hm => (frow0 (B := B)).below w w' _ _ (h.one j x m hx hm) hb⟩
theorem Means.own {B C : Nat} {w : World} {v : Value} {xs : List El} {ms : List Rw} (hM : Means B w xs ms) (h : w.ownsRow C 53 2 v xs.length (flatE xs)) :
    OwnG (ERow B) 2 53 w C v (xs.map encE) ms := by
  refine ⟨by rw [List.length_map, hM.len], ?_, fun j m hm => ?_⟩
  · rw [List.length_map, ← List.flatMap_def]; exact h
  · obtain ⟨x, hx⟩ := get_ltG hM.len (List.getElem?_eq_some_iff.1 hm).1
    exact ⟨encE x, by rw [List.getElem?_map, hx]; rfl, hM.one j x m hx hm⟩
theorem sameRaw_any (va vb : Value) (C D : Nat) (xs ys : List El) (B : Nat) (ms : List Rw) (w : World) (ha : w.ownsRow C 53 2 va xs.length (flatE xs)) (hb : w.ownsRow D 53 2 vb ys.length (flatE ys)) (hx : Means B w xs ms) (hy : Means B w ys ms) :
    Calls Tryz.prog 20 #[va, vb] w fun e w' => e = .returned (.bool true) ∧ ∃ m, w' = w.drewN m := by
  obtain ⟨o, c, rfl, h1, l1⟩ := (hx.own ha).sees frow0
  obtain ⟨o2, c2, rfl, h2, _⟩ := (hy.own hb).sees frow0
  have h := sameRows_quiet o o2 c c2 ms ms w l1 l1 B h1 h2
  rw [sameR_refl] at h
  exact h
theorem marks_mean (i k n : Nat) (w : World) : ∃ ms, Means 0 w (marksR i k n) ms := by
  refine ⟨(List.range n).map fun j => ([], -1000 * (i : Int) - ((k + j : Nat) : Int) - 1), by simp [marksR], fun j x m hx hm => ?_⟩
  unfold marksR at hx
  rw [List.getElem?_map] at hx hm
  cases hr : (List.range n)[j]? with
  | none => rw [hr] at hx; cases hx
  | some q =>
    rw [hr] at hx hm
    obtain rfl := Option.some.inj hx
    obtain rfl := Option.some.inj hm
    exact ⟨none, 0, rfl, ⟨.inl rfl, fun h => absurd rfl h⟩, Nat.zero_le _⟩
theorem sameRunes_any (va vb : Value) (C D : Nat) (xs : List El) (_ : xs.length ≤ 1000000000) (w : World) (ha : w.ownsRow C 53 2 va xs.length (flatE xs)) (hb : w.ownsRow D 53 2 vb xs.length (flatE xs)) (hM : ∃ ms, Means 0 w xs ms) :
    Calls Tryz.prog 20 #[va, vb] w fun e w' => e = .returned (.bool true) ∧ ∃ m, w' = w.drewN m := by
  obtain ⟨ms, hM⟩ := hM
  exact sameRaw_any va vb C D xs xs 0 ms w ha hb hM hM
end Go.Proofs.YtbdnonphkobkoaaGreat.BkR
