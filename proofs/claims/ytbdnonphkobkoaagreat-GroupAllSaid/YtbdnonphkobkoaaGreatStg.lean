/- slices' stable sort at leporello/group.group: exchanges of parts, and merging in place. -/
import Derived.Test.YtbdnonphkobkoaaGreatSth
import Derived.Deep.LoopGhost
import Derived.BigRegion
namespace Go.Proofs.YtbdnonphkobkoaaGreat.Stb
open Go.RowKit Go.Lib Go.Sort Go.Shelf

section
variable {α : Type} [Inhabited α] {enc : α → List Value} {w0 : World} {blk off : Nat} {d0 : Array α}

set_option maxHeartbeats 4000000 in
set_option maxRecDepth 1000000 in
theorem swapRange_g (R : RowK enc 2 w0 blk off d0) (E : ∀ x, ∃ o n c o2 n2 c2, enc x = [.slice o n c, .slice o2 n2 c2]) (g : Nat) (cap n a b N : Nat) (P A M B S : List α) (W : World) (hA : A.length = n) (hB : B.length = n) (ha : a = P.length) (hb : b = a + n + M.length) (hs : (P ++ (A ++ (M ++ (B ++ S)))).length = N) (hd : d0.size = N) (hN : N < 4611686018427387904)
    (h : SWK enc 2 w0 blk off (P ++ (A ++ (M ++ (B ++ S)))).toArray W) :
    Calls Tryz.prog 214 #[.slice (some ⟨blk, off, none⟩) N cap, .int .i64 a, .int .i64 b, .int .i64 n, .func (.func g) #[] #[]] W fun e w' => e = .returned (.tuple #[]) ∧ SWK enc 2 w0 blk off (P ++ (B ++ (M ++ (A ++ S)))).toArray w' := by
  have HSW := Lib.hid h
  have HR := Lib.hid R
  have HEn := Lib.hid E
  have HL := Lib.hid (And.intro hA hB)
  have hlen : a + n + M.length + n + S.length = N := by
    simp only [List.length_append] at hs; omega
  have hba : b + n ≤ N := by omega
  have haN : a + n ≤ N := by omega
  have hab : a + n ≤ b := by omega
  have HP := Lib.hid ha
  have HQ := Lib.hid hb
  have HD := Lib.hid hd
  have HN := Lib.hid hs
  clear h R E hA hB hs ha hb hlen hd
  go_enter Tryz.func214, Tryz.ntmps214
  go_wp2
  go_loopg [10] n (fun kx s10 wr => ∃ (i : Nat) (A1 A2 B1 B2 : List α), s10 = .int .i64 i ∧ n - i ≤ kx ∧ i ≤ n ∧ Hid (A = A1 ++ A2 ∧ B = B1 ++ B2 ∧ A1.length = i ∧ B1.length = i) ∧ Hid (SWK enc 2 w0 blk off (P ++ (B1 ++ A2 ++ (M ++ (A1 ++ B2 ++ S)))).toArray wr))
  case atStart => exact ⟨0, [], A, [], B, rfl, Nat.le_refl _, Nat.zero_le _, ⟨rfl, rfl, rfl, rfl⟩, HSW.out⟩
  case round =>
    clear HSW
    obtain ⟨i, A1, A2, B1, B2, rfl, hkx, hin, HE, HS⟩ := hrel
    by_cases hlt : i < n
    · have hltz : (i : Int) < n := by omega
      obtain ⟨x, A3, rfl⟩ : ∃ x A3, A2 = x :: A3 := by
        cases A2 with
        | nil => have := HE.out; have := HL.out; simp_all
        | cons x l => exact ⟨x, l, rfl⟩
      obtain ⟨y, B3, rfl⟩ : ∃ y B3, B2 = y :: B3 := by
        cases B2 with
        | nil => have := HE.out; have := HL.out; simp_all
        | cons x l => exact ⟨x, l, rfl⟩
      obtain ⟨p, hp⟩ : ∃ p, a + i = p := ⟨_, rfl⟩
      obtain ⟨q, hq⟩ : ∃ q, b + i = q := ⟨_, rfl⟩
      have z1 : (a : Int) + (i : Int) = (p : Int) := by omega
      have z2 : (b : Int) + (i : Int) = (q : Int) := by omega
      have l1 : (p : Int) < (N : Int) := by omega
      have l2 : (q : Int) < (N : Int) := by omega
      obtain ⟨ox, nx, cx, px, mx, dx, ex⟩ := HEn.out x
      obtain ⟨oy, ny, cy, py, my, dy, ey⟩ := HEn.out y
      have SW : Swap2 enc w0 blk off (P ++ ((B1 ++ [y]) ++ A3 ++ (M ++ ((A1 ++ [x]) ++ B3 ++ S)))) p q (.slice ox nx cx) (.slice px mx dx) (.slice oy ny cy) (.slice py my dy) wr := by
        have hE := HE.out
        have hL := HL.out
        have e1 : P ++ (B1 ++ x :: A3 ++ (M ++ (A1 ++ y :: B3 ++ S))) = (P ++ B1) ++ x :: ((A3 ++ (M ++ A1)) ++ y :: (B3 ++ S)) := by simp
        have hA3 : A3.length + i + 1 = n := by rw [← hL.1, hE.1]; simp [hE.2.2.1]; omega
        have f1 : p = (P ++ B1).length := by simp [hE.2.2.2, ← HP.out, hp]
        have f2 : q = (P ++ B1).length + 1 + (A3 ++ (M ++ A1)).length := by
          have := HQ.out; have := HP.out
          simp only [List.length_append, hE.2.2.2, hE.2.2.1]; omega
        have e2 := swp_list e1 f1 f2
        have e3 : (P ++ (B1 ++ x :: A3 ++ (M ++ (A1 ++ y :: B3 ++ S)))).length = N := by
          rw [← HN.out, hE.1, hE.2.1]; simp only [List.length_append, List.length_cons, hE.2.2.1, hE.2.2.2]
        refine swap2 HR.out HS.out (by rw [e3, HD.out]) (x := x) (y := y) (bang_mid' e1 f1) (bang_mid' (P := (P ++ B1) ++ x :: (A3 ++ (M ++ A1))) (S := B3 ++ S) (by rw [e1]; simp) (by rw [f2]; simp; omega)) (by omega) (by omega) (e2.trans ?_) ex ey
        congr 1; simp
      obtain ⟨hon, a0, a1, b0, b1, f0, ⟨⟨v1, s1⟩, f1⟩, ⟨⟨v2, s2⟩, f2⟩, ⟨⟨v3, s3⟩, f3⟩⟩ := SW
      clear ex ey
      have hpq : p ≠ q := by omega
      have m1 : ¬ (p * 2 = q * 2) := by omega
      have m2 : ¬ (p * 2 + 1 = q * 2) := by omega
      have m3 : ¬ (q * 2 = p * 2 + 1) := by omega
      have m4 : ¬ (q * 2 + 1 = p * 2) := by omega
      have m5 : ¬ (p * 2 = q * 2 + 1) := by omega
      have m6 : ¬ (off + p * 2 = off + q * 2) := by omega
      have m7 : ¬ (off + p * 2 + 1 = off + q * 2) := by omega
      have m8 : ¬ (off + q * 2 = off + p * 2 + 1) := by omega
      have m9 : ¬ (off + q * 2 + 1 = off + p * 2) := by omega
      have ma : ¬ (off + p * 2 = off + q * 2 + 1) := by omega
      have mb : ¬ (off + p * 2 + 1 = off + q * 2 + 1) := by omega
      have mc : ¬ (q = p) := fun h => hpq h.symm
      have a0' : wr.cell? ⟨blk, off + p * 2, none⟩ = some (.slice ox nx cx) := a0
      have a1' : wr.cell? ⟨blk, off + p * 2 + 1, none⟩ = some (.slice px mx dx) := a1
      have b0' : wr.cell? ⟨blk, off + q * 2, none⟩ = some (.slice oy ny cy) := b0
      have b1' : wr.cell? ⟨blk, off + q * 2 + 1, none⟩ = some (.slice py my dy) := b1
      have f0' : wr.frozen? ⟨blk, off + p * 2, none⟩ = false := f0
      have f1' : wr.frozen? ⟨blk, off + p * 2 + 1, none⟩ = false := by rw [World.frozen?_setCell] at f1; exact f1
      have f2' : wr.frozen? ⟨blk, off + q * 2, none⟩ = false := by rw [World.frozen?_setCell, World.frozen?_setCell] at f2; exact f2
      have f3' : wr.frozen? ⟨blk, off + q * 2 + 1, none⟩ = false := by rw [World.frozen?_setCell, World.frozen?_setCell, World.frozen?_setCell] at f3; exact f3
      clear HS
      have HO := Lib.hid hon
      clear hon hp hq
      have ea : ((p : Int)).toNat = p := by omega
      have eb : ((q : Int)).toNat = q := by omega
      have pa : (0 : Int) ≤ (p : Int) := by omega
      have pb : (0 : Int) ≤ (q : Int) := by omega
      have ra : IntKind.i64.wrap ((a : Int) + (i : Int)) = (p : Int) := by rw [IntKind.wrap_i64]; omega
      have rb : IntKind.i64.wrap ((b : Int) + (i : Int)) = (q : Int) := by rw [IntKind.wrap_i64]; omega
      have mixed : Tryz.prog.follows .mixedOrders = true := by kernel_rfl
      go_wp2_with fail
      go_big_region
      all_goals go_wp2
      go_roundg (n - (i + 1))
      case measure => omega
      case rel =>
        refine ⟨i + 1, A1 ++ [x], A3, B1 ++ [y], B3, by go_num, Nat.le_refl _, by omega, (show Hid _ from ?_), HO⟩
        have hE := HE.out
        exact ⟨by rw [hE.1]; simp, by rw [hE.2.1]; simp, by simp [hE.2.2.1], by simp [hE.2.2.2]⟩
    · obtain rfl : i = n := by omega
      have hfin : A2 = [] ∧ B2 = [] := by
        have h1 := HE.out; have h2 := HL.out
        rw [h1.1, h1.2.1] at h2
        simp only [List.length_append, h1.2.2.1, h1.2.2.2] at h2
        exact ⟨List.length_eq_zero_iff.1 (by omega), List.length_eq_zero_iff.1 (by omega)⟩
      obtain ⟨rfl, rfl⟩ := hfin
      have HF := Lib.hid (show SWK enc 2 w0 blk off (P ++ (B ++ (M ++ (A ++ S)))).toArray wr from by
        have h1 := HE.out; have h2 := HS.out
        rw [h1.1, h1.2.1]; simpa using h2)
      clear HS HE
      go_wp2
      go_end0
      exact ⟨rfl, HF.out⟩
set_option maxHeartbeats 4000000 in
set_option maxRecDepth 1000000 in
theorem rotate_g (R : RowK enc 2 w0 blk off d0) (E : ∀ x, ∃ o n c o2 n2 c2, enc x = [.slice o n c, .slice o2 n2 c2]) (g : Nat) (cap a m b N : Nat) (P U V S : List α) (W : World) (hU : U ≠ []) (hV : V ≠ []) (ha : a = P.length) (hm : m = a + U.length) (hb : b = m + V.length) (hs : (P ++ (U ++ (V ++ S))).length = N) (hd : d0.size = N) (hN : N < 4611686018427387904)
    (h : SWK enc 2 w0 blk off (P ++ (U ++ (V ++ S))).toArray W) :
    Calls Tryz.prog 208 #[.slice (some ⟨blk, off, none⟩) N cap, .int .i64 a, .int .i64 m, .int .i64 b, .func (.func g) #[] #[]] W fun e w' => e = .returned (.tuple #[]) ∧ SWK enc 2 w0 blk off (P ++ (V ++ (U ++ S))).toArray w' := by
  have HSW := Lib.hid h
  have hU0 : 0 < U.length := List.length_pos_iff.2 hU
  have hV0 : 0 < V.length := List.length_pos_iff.2 hV
  have hlen : b + S.length = N := by simp only [List.length_append] at hs; omega
  have hbN : b ≤ N := by omega
  have HC := Lib.hid (fun (n a b : Nat) (P A M B S : List α) (W : World) h1 h2 h3 h4 h5 h6 => swapRange_g R E g cap n a b N P A M B S W h1 h2 h3 h4 h5 hd hN h6)
  have HL := Lib.hid (show P.length + U.length = m ∧ P ++ (V ++ (U ++ S)) = P ++ (V ++ (U ++ S)) from ⟨by omega, rfl⟩)
  obtain ⟨F, hF⟩ : ∃ F, P ++ (V ++ (U ++ S)) = F := ⟨_, rfl⟩
  have HFl := Lib.hid (show F.length = N by rw [← hF, ← hs]; simp only [List.length_append]; omega)
  have hma : a + U.length = m := by omega
  have hbm : m + V.length = b := by omega
  have ham : a < m := by omega
  have hmb : m < b := by omega
  rw [hF] at HL ⊢
  have HE0 := Lib.hid (show P.length + U.length = m ∧ P ++ (V ++ (U ++ S)) = F from ⟨by omega, hF⟩)
  obtain ⟨u, hu⟩ : ∃ u, U.length = u := ⟨_, rfl⟩
  obtain ⟨v, hv⟩ : ∃ v, V.length = v := ⟨_, rfl⟩
  rw [hu] at hU0 hma
  rw [hv] at hV0 hbm
  have HU := Lib.hid hu
  have HV := Lib.hid hv
  have zu : (m : Int) - (a : Int) = (u : Int) := by omega
  have zv : (b : Int) - (m : Int) = (v : Int) := by omega
  have ru : IntKind.i64.wrap ((m : Int) - (a : Int)) = (u : Int) := by rw [IntKind.wrap_i64]; omega
  have rv : IntKind.i64.wrap ((b : Int) - (m : Int)) = (v : Int) := by rw [IntKind.wrap_i64]; omega
  clear h R E hU hV ha hm hb hs hlen hd hF hu hv HL
  go_enter Tryz.func208, Tryz.ntmps208
  go_wp2
  go_loopg [10, 11] (u + v) (fun kx s10 s11 wr => ∃ (i j : Nat) (P X Y S : List α), s10 = .int .i64 i ∧ s11 = .int .i64 j ∧ 0 < i ∧ 0 < j ∧ i + j ≤ kx ∧ i ≤ m ∧ m + j ≤ N ∧ Hid (P.length + i = m ∧ X.length = i ∧ Y.length = j ∧ P ++ (Y ++ (X ++ S)) = F) ∧ Hid (SWK enc 2 w0 blk off (P ++ (X ++ (Y ++ S))).toArray wr))
  case atStart => exact ⟨u, v, P, U, V, S, rfl, rfl, hU0, hV0, Nat.le_refl _, by omega, by omega, ⟨by rw [← HU.out]; exact HE0.out.1, HU.out, HV.out, HE0.out.2⟩, HSW.out⟩
  case round =>
    clear HSW HE0 HU HV zu zv ru rv
    obtain ⟨i, j, P, X, Y, S, rfl, rfl, hi, hj, hkx, him, hjN, HE, HS⟩ := hrel
    have hln : (P ++ (X ++ (Y ++ S))).length = N := by
      have hE := HE.out
      rw [← HFl.out, ← hE.2.2.2]; simp only [List.length_append]; omega
    have HLN := Lib.hid hln
    clear hln
    obtain ⟨p, hp⟩ : ∃ p, p + i = m := ⟨m - i, by omega⟩
    have z1 : (m : Int) - (i : Int) = (p : Int) := by omega
    have r1 : IntKind.i64.wrap ((m : Int) - (i : Int)) = (p : Int) := by rw [IntKind.wrap_i64]; omega
    by_cases hij : i = j
    · subst hij
      have HC1 := Lib.hid (HC.out i p m P X [] Y S wr HE.out.2.1 HE.out.2.2.1 (by have := HE.out.1; omega) (by simp; omega) HLN.out HS.out)
      have HR1 := Lib.hid (show P ++ (Y ++ ([] ++ (X ++ S))) = F from HE.out.2.2.2)
      clear HC HS HE HLN
      go_wp2_with fail
      refine HC1.out.mono ?_
      rintro e w2 ⟨rfl, hw2⟩
      rw [HR1.out] at hw2
      have HW2 := Lib.hid hw2
      clear hw2
      go_wp2
      go_end0
      exact ⟨rfl, HW2.out⟩
    · have hne : ((i : Int) == (j : Int)) = false := beq_eq_false_iff_ne.2 (by omega)
      have hne2 : ¬ (i : Int) = (j : Int) := by omega
      by_cases hgt : j < i
      · have hgtz : (i : Int) > (j : Int) := by omega
        obtain ⟨q, hq⟩ : ∃ q, q + j = i := ⟨i - j, by omega⟩
        have hX := HE.out.2.1
        have hY := HE.out.2.2.1
        have HC1 := Lib.hid (HC.out j p m P (X.take j) (X.drop j) Y S wr (by rw [List.length_take]; omega) hY (by have := HE.out.1; omega) (by rw [List.length_drop]; omega) (by rw [← List.append_assoc (X.take j), List.take_append_drop]; exact HLN.out) (by rw [← List.append_assoc (X.take j), List.take_append_drop]; exact HS.out))
        clear hX hY HS
        go_wp2_with fail
        refine HC1.out.mono ?_
        rintro e w2 ⟨rfl, hw2⟩
        have HW2 := Lib.hid hw2
        clear hw2 HC1
        have z3 : (i : Int) - (j : Int) = (q : Int) := by omega
        have r3 : IntKind.i64.wrap ((i : Int) - (j : Int)) = (q : Int) := by rw [IntKind.wrap_i64]; omega
        go_wp2
        go_roundg (q + j)
        case measure => omega
        case rel =>
          refine ⟨q, j, P ++ Y, X.drop j, X.take j, S, rfl, rfl, by omega, hj, Nat.le_refl _, by omega, hjN, (show Hid _ from ?_), (show Hid _ from ?_)⟩
          · have hE := HE.out
            refine ⟨by rw [List.length_append]; omega, by rw [List.length_drop]; omega, by rw [List.length_take]; omega, ?_⟩
            rw [← hE.2.2.2, ← List.append_assoc (X.take j), List.take_append_drop]; simp
          · rw [List.append_assoc]; exact HW2.out
      · have hltz : ¬ (i : Int) > (j : Int) := by omega
        obtain ⟨q, hq⟩ : ∃ q, q + i = j := ⟨j - i, by omega⟩
        have z2 : (m : Int) + (j : Int) - (i : Int) = ((m + q : Nat) : Int) := by omega
        have r2 : IntKind.i64.wrap ((m : Int) + (j : Int) - (i : Int)) = ((m + q : Nat) : Int) := by rw [IntKind.wrap_i64]; omega
        obtain ⟨mq, hmq⟩ : ∃ mq, m + q = mq := ⟨_, rfl⟩
        rw [hmq] at z2 r2
        have hX := HE.out.2.1
        have hY := HE.out.2.2.1
        have HC1 := Lib.hid (HC.out i p mq P X (Y.take q) (Y.drop q) S wr hX (by rw [List.length_drop]; omega) (by have := HE.out.1; omega) (by rw [List.length_take]; omega) (by rw [← List.append_assoc (Y.take q), List.take_append_drop]; exact HLN.out) (by rw [← List.append_assoc (Y.take q), List.take_append_drop]; exact HS.out))
        clear hX hY HS
        go_wp2_with fail
        refine HC1.out.mono ?_
        rintro e w2 ⟨rfl, hw2⟩
        have HW2 := Lib.hid hw2
        clear hw2 HC1
        have z3 : (j : Int) - (i : Int) = (q : Int) := by omega
        have r3 : IntKind.i64.wrap ((j : Int) - (i : Int)) = (q : Int) := by rw [IntKind.wrap_i64]; omega
        go_wp2
        go_roundg (i + q)
        case measure => omega
        case rel =>
          refine ⟨i, q, P, Y.drop q, Y.take q, X ++ S, rfl, rfl, hi, by omega, Nat.le_refl _, him, by omega, (show Hid _ from ?_), (show Hid _ from ?_)⟩
          · have hE := HE.out
            refine ⟨hE.1, by rw [List.length_drop]; omega, by rw [List.length_take]; omega, ?_⟩
            rw [← hE.2.2.2, ← List.append_assoc (Y.take q), List.take_append_drop]
          · exact HW2.out
end
end Go.Proofs.YtbdnonphkobkoaaGreat.Stb
