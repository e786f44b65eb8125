/- Walks: files are read whole, counted, read page by page. -/
import Derived.Test.YtldlfmeppcdbbaaRue
namespace Go.Proofs.Ytldlfmeppcdbbaa.Run
open Go.RowKit Go.Lib Go.Proofs.Ytldlfmeppcdbbaa.Crc Go.Proofs.Ytldlfmeppcdbbaa.Row Go.Proofs.Ytldlfmeppcdbbaa.Vec

theorem rq_new (w : World) (b : ByteArray) : Rq (w.alloc (Obj.cells #[.string b] 45)) w.heap.size b.data.toList := by
  unfold Rq
  rw [Row.str_of]
  exact Array.getElem?_push_size
theorem rq_below (w : World) (b : ByteArray) : Below w.heap.size w (w.alloc (Obj.cells #[.string b] 45)) := (Below.refl _ _).alloc (Nat.le_refl _) _
theorem rq_size (w : World) (b : ByteArray) : (w.alloc (Obj.cells #[.string b] 45)).heap.size = w.heap.size + 1 := Array.size_push _
theorem below_but {w w' : World} {N : Nat} {v : World} (h : Below N w v) (hN : N ≤ v.heap.size) (hg : v.grownBy w' (some N)) : Below N w w' :=
  Below.grown h hg hN (fun k hk => by cases hk; exact Nat.le_refl _)

def countV : Option Nat → Value
  | some n => .tuple #[.int .i64 (n : Nat), .int .i64 0]
  | none => .tuple #[.int .i64 0, .int .i64 10]
set_option maxHeartbeats 2000000 in
set_option maxRecDepth 100000 in
theorem count_any (b : ByteArray) (w : World) (hb : b.size ≤ 1000000) :
    Calls Try.prog 17 #[.string b] w fun e w' => e = .returned (countV (headQ b.data.toList).1) ∧ Below w.heap.size w w' := by
  have HH := Lib.hid (head_any w.heap.size b.data.toList _ (rq_new w b) (by rw [← Lib.size_eq]; exact hb))
  have HB0 := Lib.hid (rq_below w b)
  have hz0 := rq_size w b
  obtain ⟨W0, hW0⟩ : ∃ W0, w.alloc (Obj.cells #[.string b] 45) = W0 := ⟨_, rfl⟩
  rw [hW0] at HH HB0 hz0
  have HW0 := Lib.hid hW0
  obtain ⟨q, r, hq⟩ : ∃ q r, headQ b.data.toList = (q, r) := ⟨_, _, rfl⟩
  rw [hq] at HH ⊢
  clear hW0 hq hb
  cases q with
  | none =>
    go_enter Try.func17, Try.ntmps17
    go_wp2_with fail
    rw [HW0.out]
    refine HH.out.mono ?_
    rintro e w1 ⟨rfl, _, g1⟩
    have HB1 := Lib.hid (below_but HB0.out (by omega) g1)
    clear g1
    simp only [headV]
    go_wp2
    go_ret2
    exact ⟨rfl, HB1.out⟩
  | some n =>
    go_enter Try.func17, Try.ntmps17
    go_wp2_with fail
    rw [HW0.out]
    refine HH.out.mono ?_
    rintro e w1 ⟨rfl, _, g1⟩
    have HB1 := Lib.hid (below_but HB0.out (by omega) g1)
    clear g1
    simp only [headV]
    go_wp2
    go_ret2
    exact ⟨rfl, HB1.out⟩

/-- What is told of a file that is read whole. -/
def ReadR (B : Nat) (R : Option (List Rw)) (e : Ending) (w' : World) : Prop :=
  match R with
  | some xs => ∃ v us, e = .returned (.tuple #[v, .int .i64 0]) ∧ OwnR w' B v us xs
  | none => e = .returned (.tuple #[.slice none 0 0, .int .i64 10])
theorem headQ_len (l : List UInt8) : (headQ l).2.length ≤ l.length := by
  have h := blockQ_len l
  obtain ⟨b, r, e⟩ : ∃ b r, blockQ l = (b, r) := ⟨_, _, rfl⟩
  unfold headQ
  rw [e] at h ⊢
  cases b <;> exact h
theorem headQ_le {l r : List UInt8} {n : Nat} (h : headQ l = (some n, r)) : n ≤ 2000 := (head_inv h).2
set_option maxHeartbeats 4000000 in
set_option maxRecDepth 100000 in
theorem read_any (b : ByteArray) (w : World) (hb : b.size ≤ 1000000) :
    Calls Try.prog 8 #[.string b] w fun e w' => ReadR w.heap.size (readQ b.data.toList) e w' ∧ Below w.heap.size w w' := by
  have hbl : b.data.toList.length ≤ 1000000 := by rw [← Lib.size_eq]; exact hb
  have HH := Lib.hid (head_any w.heap.size b.data.toList _ (rq_new w b) hbl)
  have HB0 := Lib.hid (rq_below w b)
  have hz0 := rq_size w b
  obtain ⟨W0, hW0⟩ : ∃ W0, w.alloc (Obj.cells #[.string b] 45) = W0 := ⟨_, rfl⟩
  rw [hW0] at HH HB0 hz0
  have HW0 := Lib.hid hW0
  obtain ⟨q, r, hq⟩ : ∃ q r, headQ b.data.toList = (q, r) := ⟨_, _, rfl⟩
  have hrl : r.length ≤ 1000000 := by have := headQ_len b.data.toList; rw [hq] at this; exact Nat.le_trans this hbl
  rw [hq] at HH
  obtain ⟨R, hR⟩ : ∃ R, readQ b.data.toList = R := ⟨_, rfl⟩
  rw [hR]
  unfold readQ at hR
  rw [hq] at hR
  rw [← Lib.size_eq] at hR
  obtain ⟨m, hm⟩ : ∃ m, b.size = m := ⟨_, rfl⟩
  rw [hm] at hR
  cases q with
  | none =>
    simp only [] at hR
    subst hR
    clear hW0 hq hb hbl
    go_enter Try.func8, Try.ntmps8
    go_wp2_with fail
    rw [HW0.out]
    refine HH.out.mono ?_
    rintro e w1 ⟨rfl, _, g1⟩
    have HB1 := Lib.hid (below_but HB0.out (by omega) g1)
    clear g1
    simp only [headV]
    go_wp2
    go_ret2
    exact ⟨rfl, HB1.out⟩
  | some n =>
    have hn := headQ_le hq
    simp only [] at hR
    by_cases h60 : 60000 < m
    · rw [if_pos h60] at hR
      subst hR
      have j1 : (60000 : Int) < m := by omega
      clear hW0 hq hb hbl h60
      go_enter Try.func8, Try.ntmps8
      go_wp2_with fail
      rw [HW0.out]
      refine HH.out.mono ?_
      rintro e w1 ⟨rfl, _, g1⟩
      have HB1 := Lib.hid (below_but HB0.out (by omega) g1)
      clear g1
      simp only [headV]
      go_wp2
      go_ret2
      exact ⟨rfl, HB1.out⟩
    · rw [if_neg h60] at hR
      have j1 : (m : Int) ≤ 60000 := by omega
      have HRo := Lib.hid (fun (W : World) (h : Rq W w.heap.size r) => rows_any w.heap.size n r W h hrl (by omega))
      obtain ⟨p, r2, hp⟩ : ∃ p r2, rowsM (n + 1) n r = (p, r2) := ⟨_, _, rfl⟩
      have hr2 : r2.length ≤ 1000000 := by have := rowsM_left (n + 1) n r; rw [hp] at this; exact Nat.le_trans this hrl
      rw [hp] at HRo hR
      have HEn := Lib.hid (fun (W : World) (h : Rq W w.heap.size r2) => end_any w.heap.size r2 W h hr2)
      cases p with
      | none =>
        simp only [] at hR
        subst hR
        clear hW0 hq hb hbl h60
        go_enter Try.func8, Try.ntmps8
        go_wp2_with fail
        rw [HW0.out]
        refine HH.out.mono ?_
        rintro e w1 ⟨rfl, h1, g1⟩
        have H1 := Lib.hid h1
        have HB1 := Lib.hid (below_but HB0.out (by omega) g1)
        have hz1 := HB1.out.size
        clear g1 h1
        simp only [headV]
        go_wp2_with fail
        refine (HRo.out _ H1.out).mono ?_
        rintro e w2 ⟨h2, _, g2⟩
        obtain rfl := h2
        have HB2 := Lib.hid (below_but HB1.out hz1 g2)
        clear g2
        go_wp2
        go_ret2
        exact ⟨rfl, HB2.out⟩
      | some xs =>
        simp only [] at hR
        obtain ⟨en, he⟩ : ∃ en, endQ r2 = en := ⟨_, rfl⟩
        rw [he] at HEn hR
        clear hW0 hq hb hbl h60
        go_enter Try.func8, Try.ntmps8
        go_wp2_with fail
        rw [HW0.out]
        refine HH.out.mono ?_
        rintro e w1 ⟨rfl, h1, g1⟩
        have H1 := Lib.hid h1
        have HB1 := Lib.hid (below_but HB0.out (by omega) g1)
        have hz1 := HB1.out.size
        have hlt1 := h1.lt
        clear g1 h1
        simp only [headV]
        go_wp2_with fail
        refine (HRo.out _ H1.out).mono ?_
        rintro e w2 ⟨h2, hq2, g2⟩
        obtain ⟨v, us, rfl, hO2⟩ := h2
        obtain ⟨o, c, rfl, _, _⟩ := hO2.sees frow
        have HB2 := Lib.hid (below_but HB1.out hz1 g2)
        have HO2 := Lib.hid hO2
        have HQ2 := Lib.hid hq2
        have hz2 := HB2.out.size
        clear g2 hO2 hq2
        go_wp2_with fail
        refine (HEn.out _ HQ2.out).mono ?_
        rintro e w3 ⟨rfl, g3⟩
        have HB3 := Lib.hid (below_but HB2.out hz2 g3)
        have HO3 := Lib.hid ((OwnR_but HO2.out HQ2.out g3 hlt1).own_le hz1)
        clear g3
        cases en with
        | true =>
          rw [if_pos rfl] at hR
          subst hR
          go_wp2
          go_ret2
          exact ⟨⟨_, us, rfl, HO3.out⟩, HB3.out⟩
        | false =>
          rw [if_neg (by decide)] at hR
          subst hR
          go_wp2
          go_ret2
          exact ⟨rfl, HB3.out⟩
end Go.Proofs.Ytldlfmeppcdbbaa.Run
