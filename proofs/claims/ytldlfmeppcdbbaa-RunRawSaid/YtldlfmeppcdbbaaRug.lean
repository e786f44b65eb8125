/- A walk: a page of a file. -/
import Derived.Test.YtldlfmeppcdbbaaRuf
namespace Go.Proofs.Ytldlfmeppcdbbaa.Run
open Go.RowKit Go.Lib Go.Proofs.Ytldlfmeppcdbbaa.Crc Go.Proofs.Ytldlfmeppcdbbaa.Row Go.Proofs.Ytldlfmeppcdbbaa.Vec

/-- What is told of a page. -/
def PagR (p : Nat × List Rw) (e : Ending) (w' : World) : Prop := ∃ o c, e = .returned (.tuple #[.slice o p.2.length c, .int .i64 (p.1 : Nat)]) ∧ RowsS w' 0 o p.2
theorem PagR.err (n : Nat) (w' : World) : PagR (n, []) (.returned (.tuple #[.slice none 0 0, .int .i64 (n : Nat)])) w' := ⟨none, 0, rfl, .inl rfl⟩
/-- A part of a list that reads as rows. -/
theorem rows_part {w : World} {B : Nat} {o : Option Addr} {xs : List Rw} (h : RowsS w B o xs) (i m : Nat) (him : i + m ≤ xs.length) (hm : 1 ≤ m) : ∃ b off, o = some ⟨b, off, none⟩ ∧ RowsS w B (some ⟨b, off + i * 2, none⟩) ((xs.take (i + m)).drop i) := by
  rcases h with rfl | ⟨b, off, e, hs⟩
  · simp at him; omega
  · refine ⟨b, off, e, .inr ⟨b, off + i * 2, rfl, hs.low, fun j x hx => ?_⟩⟩
    rw [List.getElem?_drop, List.getElem?_take] at hx
    split at hx
    · obtain ⟨u, h1, h2⟩ := hs.at0 (i + j) x hx
      refine ⟨u, h1, fun q v hv => ?_⟩
      have := h2 q v hv
      rw [← this]
      congr 2
      omega
    · cases hx
set_option maxHeartbeats 8000000 in
set_option maxRecDepth 100000 in
theorem page_any (b : ByteArray) (a n : Int) (w : World) (hb : b.size ≤ 1000000) :
    Calls Try.prog 9 #[.string b, .int .i64 a, .int .i64 n] w fun e w' => PagR (pageF b.data.toList a n) e w' ∧ Below w.heap.size w w' := by
  have hbl : b.data.toList.length ≤ 1000000 := by rw [← Lib.size_eq]; exact hb
  have HH := Lib.hid (head_any w.heap.size b.data.toList _ (rq_new w b) hbl)
  have HB0 := Lib.hid (rq_below w b)
  have hz0 := rq_size w b
  obtain ⟨W0, hW0⟩ : ∃ W0, w.alloc (Obj.cells #[.string b] 45) = W0 := ⟨_, rfl⟩
  rw [hW0] at HH HB0 hz0
  have HW0 := Lib.hid hW0
  obtain ⟨q, r, hq⟩ : ∃ q r, headQ b.data.toList = (q, r) := ⟨_, _, rfl⟩
  have hrl : r.length ≤ 1000000 := by have := headQ_len b.data.toList; rw [hq] at this; exact Nat.le_trans this hbl
  rw [hq] at HH
  rw [← page_is]
  obtain ⟨P, hP⟩ : ∃ P, pageQ b.data.toList a n = P := ⟨_, rfl⟩
  rw [hP]
  unfold pageQ at hP
  rw [hq] at hP
  cases q with
  | none =>
    simp only [] at hP
    subst hP
    clear hW0 hq hb hbl
    go_enter Try.func9, Try.ntmps9
    go_wp2_with fail
    rw [HW0.out]
    refine HH.out.mono ?_
    rintro e w1 ⟨rfl, _, g1⟩
    have HB1 := Lib.hid (below_but HB0.out (by omega) g1)
    clear g1
    simp only [headV]
    go_wp2
    go_ret2
    exact ⟨PagR.err 10 _, HB1.out⟩
  | some N =>
    have hN := headQ_le hq
    simp only [] at hP
    by_cases hc : a < 0 ∨ (N : Int) < a ∨ n < 0
    · rw [if_pos hc] at hP
      subst hP
      obtain ⟨x1, hx1⟩ : ∃ x, decide (a < 0) = x := ⟨_, rfl⟩
      clear hW0 hq hb hbl
      by_cases h1 : a < 0
      · clear hc hx1
        go_enter Try.func9, Try.ntmps9
        go_wp2_with fail
        rw [HW0.out]
        refine HH.out.mono ?_
        rintro e w1 ⟨rfl, _, g1⟩
        have HB1 := Lib.hid (below_but HB0.out (by omega) g1)
        clear g1
        simp only [headV]
        go_wp2
        go_ret2
        exact ⟨PagR.err 1 _, HB1.out⟩
      · have j1 : 0 ≤ a := by omega
        by_cases h2 : (N : Int) < a
        · clear hc hx1 h1
          go_enter Try.func9, Try.ntmps9
          go_wp2_with fail
          rw [HW0.out]
          refine HH.out.mono ?_
          rintro e w1 ⟨rfl, _, g1⟩
          have HB1 := Lib.hid (below_but HB0.out (by omega) g1)
          clear g1
          simp only [headV]
          go_wp2
          go_ret2
          exact ⟨PagR.err 1 _, HB1.out⟩
        · have h3 : n < 0 := by omega
          have j2 : a ≤ (N : Int) := by omega
          clear hc hx1 h1 h2
          go_enter Try.func9, Try.ntmps9
          go_wp2_with fail
          rw [HW0.out]
          refine HH.out.mono ?_
          rintro e w1 ⟨rfl, _, g1⟩
          have HB1 := Lib.hid (below_but HB0.out (by omega) g1)
          clear g1
          simp only [headV]
          go_wp2
          go_ret2
          exact ⟨PagR.err 1 _, HB1.out⟩
    · rw [if_neg hc] at hP
      obtain ⟨A, rfl⟩ : ∃ A : Nat, a = A := ⟨a.toNat, by omega⟩
      have j1 : (0 : Int) ≤ A := by omega
      have j2 : (A : Int) ≤ N := by omega
      have j3 : 0 ≤ n := by omega
      obtain ⟨M, hM⟩ : ∃ M : Nat, min n ((N : Int) - A) = M := ⟨(min n ((N : Int) - A)).toNat, by omega⟩
      rw [hM] at hP
      have mn : ∀ (W : World) (ts : Array TypeId) (t : TypeId), (Builtin.min_ ts t #[.int .i64 n, .int .i64 ((N : Int) - A)]).run Try.prog W = .ok (.int .i64 (M : Int)) W := fun W ts t => by rw [run_min_int2]; congr 2; omega
      have hMN : A + M ≤ N := by omega
      by_cases hm0 : (M : Int) = 0
      · rw [if_pos hm0] at hP
        subst hP
        have hM0 : M = 0 := by omega
        subst hM0
        clear hW0 hq hb hbl hc hm0
        go_enter Try.func9, Try.ntmps9
        go_wp2_with fail
        rw [HW0.out]
        refine HH.out.mono ?_
        rintro e w1 ⟨rfl, _, g1⟩
        have HB1 := Lib.hid (below_but HB0.out (by omega) g1)
        clear g1
        simp only [headV]
        go_wp2
        go_ret2
        exact ⟨PagR.err 0 _, HB1.out⟩
      · rw [if_neg hm0, Int.toNat_natCast, Int.toNat_natCast, show ((A : Int) + M - 1).toNat = A + M - 1 by omega] at hP
        obtain ⟨K, hK⟩ : ∃ K, A / 8 = K := ⟨_, rfl⟩
        obtain ⟨E, hE⟩ : ∃ E, (A + M - 1) / 8 = E := ⟨_, rfl⟩
        obtain ⟨Z, hZ⟩ : ∃ Z, min N ((E + 1) * 8) = Z := ⟨_, rfl⟩
        obtain ⟨D, hD⟩ : ∃ D, Z - K * 8 = D := ⟨_, rfl⟩
        obtain ⟨X, hX⟩ : ∃ X, A - K * 8 = X := ⟨_, rfl⟩
        rw [hK, hE, hZ, hD, hX] at hP
        have hM1 : 1 ≤ M := by omega
        have hXD : X + M ≤ D := by omega
        have hD1 : 1 ≤ D := by omega
        have hD2 : D ≤ 2000 := by omega
        have e1 : (A : Int) / 8 = K := by omega
        have e2 : ((A : Int) + M - 1) / 8 = E := by omega
        have e3 : min (N : Int) (((E : Int) + 1) * 8) = Z := by omega
        have e4 : (Z : Int) - (K : Int) * 8 = D := by omega
        have e5 : (A : Int) - (K : Int) * 8 = X := by omega
        have j4 : (X : Int) + M ≤ D := by omega
        have j5 : (0 : Int) ≤ X := by omega
        have j6 : (X : Int) ≤ (X : Int) + M := by omega
        have hK5 : K ≤ 1000000 := by omega
        have HSk := Lib.hid (fun (W : World) (h : Rq W w.heap.size r) => skip_any w.heap.size K r W h hrl hK5)
        clear hW0 hq hb hbl hc hK hE hZ hD hX hM hm0
        obtain ⟨R2, hR2⟩ : ∃ R2, skipM K r = R2 := ⟨_, rfl⟩
        rw [hR2] at HSk hP
        cases R2 with
        | none =>
          simp only [] at hP
          subst hP
          go_enter Try.func9, Try.ntmps9
          go_wp2_with fail
          rw [HW0.out]
          refine HH.out.mono ?_
          rintro e w1 ⟨rfl, h1, g1⟩
          have H1 := Lib.hid h1
          have HB1 := Lib.hid (below_but HB0.out (by omega) g1)
          have hz1 := HB1.out.size
          clear g1 h1
          simp only [headV]
          go_wp2_with fail
          refine (HSk.out _ H1.out).mono ?_
          rintro e w2 ⟨rfl, _, g2⟩
          have HB2 := Lib.hid (below_but HB1.out hz1 g2)
          clear g2
          simp only [Option.isSome_none]
          go_wp2
          go_ret2
          exact ⟨PagR.err 10 _, HB2.out⟩
        | some r2 =>
        have hr2 : r2.length ≤ 1000000 := Nat.le_trans (skipM_len K r r2 hR2) hrl
        have HRo := Lib.hid (fun (W : World) (h : Rq W w.heap.size r2) => rows_any w.heap.size D r2 W h hr2 (by omega))
        simp only [] at hP
        obtain ⟨Q, hQ⟩ : ∃ Q, rowsM (D + 1) D r2 = Q := ⟨_, rfl⟩
        obtain ⟨Q1, Q2⟩ := Q
        rw [hQ] at HRo hP
        cases Q1 with
        | none =>
          simp only [] at hP
          subst hP
          clear hQ hR2
          go_enter Try.func9, Try.ntmps9
          go_wp2_with fail
          rw [HW0.out]
          refine HH.out.mono ?_
          rintro e w1 ⟨rfl, h1, g1⟩
          have H1 := Lib.hid h1
          have HB1 := Lib.hid (below_but HB0.out (by omega) g1)
          have hz1 := HB1.out.size
          clear g1 h1
          simp only [headV]
          go_wp2_with fail
          refine (HSk.out _ H1.out).mono ?_
          rintro e w2 ⟨rfl, h2, g2⟩
          have H2 := Lib.hid (h2 _ rfl)
          have HB2 := Lib.hid (below_but HB1.out hz1 g2)
          have hz2 := HB2.out.size
          clear g2 h2
          simp only [Option.isSome_some]
          go_wp2_with fail
          refine (HRo.out _ H2.out).mono ?_
          rintro e w3 ⟨h3, _, g3⟩
          obtain rfl := h3
          have HB3 := Lib.hid (below_but HB2.out hz2 g3)
          clear g3
          go_wp2
          go_ret2
          exact ⟨PagR.err 10 _, HB3.out⟩
        | some L =>
        simp only [] at hP
        subst hP
        have hL : L.length = D := rowsM_len _ _ _ _ _ hQ
        have HLL := Lib.hid hL
        clear hQ hR2 hL
        go_enter Try.func9, Try.ntmps9
        go_wp2_with fail
        rw [HW0.out]
        refine HH.out.mono ?_
        rintro e w1 ⟨rfl, h1, g1⟩
        have H1 := Lib.hid h1
        have HB1 := Lib.hid (below_but HB0.out (by omega) g1)
        have hz1 := HB1.out.size
        clear g1 h1
        simp only [headV]
        go_wp2_with fail
        refine (HSk.out _ H1.out).mono ?_
        rintro e w2 ⟨rfl, h2, g2⟩
        have H2 := Lib.hid (h2 _ rfl)
        have HB2 := Lib.hid (below_but HB1.out hz1 g2)
        have hz2 := HB2.out.size
        clear g2 h2
        simp only [Option.isSome_some]
        go_wp2_with fail
        refine (HRo.out _ H2.out).mono ?_
        rintro e w3 ⟨h3, _, g3⟩
        obtain ⟨v, us, rfl, hO⟩ := h3
        have HB3 := Lib.hid (below_but HB2.out hz2 g3)
        have hus : us.length = D := by rw [hO.len, HLL.out]
        obtain ⟨g, cap, rfl, hcap, _, _⟩ := own_posG (by have := hO.own; rwa [hus] at this) hD1
        obtain ⟨o, c, he, hS, _⟩ := hO.sees frow
        have HSS := Lib.hid (show RowsS w3 0 (some ⟨g, 0, none⟩) L by
          rw [(Value.slice.inj he).1]; exact hS)
        have j7 : (X : Int) + M ≤ cap := by omega
        clear g3 hO hus he hS
        go_wp2
        go_ret2
        have hl : ((L.take (X + M)).drop X).length = X + M - X := by rw [List.length_drop, List.length_take, HLL.out, Nat.min_eq_left hXD]
        obtain ⟨b2, off, he, hS⟩ := rows_part HSS.out X M (by rw [HLL.out]; exact hXD) hM1
        cases he
        rw [Nat.zero_add] at hS
        exact ⟨⟨some ⟨g, X * 2, none⟩, cap - X, by rw [hl]; rfl, hS⟩, HB3.out⟩
end Go.Proofs.Ytldlfmeppcdbbaa.Run
