/- A walk: the statement on texts in quotation marks. -/
import Derived.Test.YtphkodkenkiecaaDoorJn
import Derived.BigQuiet
import Derived.IntWalk
import Derived.Deep.QuietTactic
namespace Go.Proofs.YtphkodkenkiecaaDoor
open Go.RowKit

theorem chunk_wide (t : List UInt8) (hne : t ≠ []) : (chunkQ t).length ≤ 4 * wideL t := by
  have hw := wide_pos t
  have hh : (head t).length = wideL t := by unfold head; rw [List.length_take]; have := wide_le hne; unfold wideL at this ⊢; omega
  rcases chunk_kinds t hne with ⟨_, e, _⟩ | ⟨_, e, _⟩ | ⟨_, e, _⟩ | ⟨_, _, e, _⟩ | ⟨_, _, e, e2⟩
  all_goals rw [e]
  all_goals first | (simp; omega) | (rw [← e2, hh]; omega)
theorem body_wide (l : List UInt8) : (bodyQ l).length ≤ 4 * l.length := by
  induction l using sufs_induct with
  | h0 => simp [bodyQ, sufs_nil]
  | h1 l hne ih =>
    have hc := chunk_wide l hne
    have hw := wide_le hne
    rw [bodyQ_step l hne, List.length_append]
    rw [List.length_drop] at ih
    unfold wideL at hc hw
    omega

theorem lex_few (l : List UInt8) : ∀ (a : Nat) (ws : List Wd), lexAt a l = some ws → ws.length ≤ l.length := by
  induction l using lex_induct with
  | h0 => intro a ws h; obtain rfl : [] = ws := Option.some.inj h; simp
  | h1 l hne ih =>
    intro a ws h
    have hl : 0 < l.length := List.length_pos_iff.2 hne
    by_cases h3 : kindZ (rune l) = 3
    · rw [lexAt_blank a hne h3] at h
      have := ih _ (by rw [List.length_drop]; omega) _ _ h
      rw [List.length_drop] at this; omega
    · cases hf : firstL l with
      | none => rw [lexAt_none a hne h3 hf] at h; cases h
      | some t =>
        have hb1 := first_len hne hf
        rw [lexAt_tok a hne h3 hf] at h
        cases hx : lexAt (a + t.2.2) (l.drop t.2.2) with
        | none => rw [hx] at h; cases h
        | some vs =>
          rw [hx] at h
          obtain rfl := Option.some.inj h
          have := ih _ (by rw [List.length_drop]; omega) _ _ hx
          rw [List.length_drop] at this
          rw [List.length_cons]; omega
theorem sees_one (w : World) (k a : Nat) (s : ByteArray) : SeesW (w.alloc (Obj.cells #[.int .i64 (k : Nat), .int .i64 (a : Nat), .string s] 29)) (some ⟨w.heap.size, 0, none⟩) [(k, a, s.data.toList)] := by
  refine .inr ⟨w.heap.size, 0, rfl, by simp, fun j x hx => ?_⟩
  match j, hx with
  | 0, hx =>
    simp at hx; subst hx
    have h0 := tcells_3 w (.int .i64 (k : Nat)) (.int .i64 (a : Nat)) (.string s) 29
    exact ⟨h0 0 _ rfl, h0 1 _ rfl, by rw [str_of]; exact h0 2 _ rfl⟩
  | j + 1, hx => simp at hx

set_option maxHeartbeats 4000000 in
set_option maxRecDepth 100000 in
theorem strings_any (s m : ByteArray) (w : World) (h : Env w) (hs : s.size ≤ maxLen) (hm : m.size ≤ maxLen) :
    Calls Tryd.prog 6 #[.string s, .string m] w fun e w' => e = .returned (.bool true) ∧ Below w.heap.size w w' := by
  unfold maxLen at hs hm
  have HE := Lib.hid h
  have cA := Lib.hid (fun W (hb : Below w.heap.size w W) => alive_any W (h.below hb))
  by_cases hbig : 100 < s.size ∨ 100 < m.size
  · have i1 : (100 : Int) < s.size ∨ ((s.size : Int) ≤ 100 ∧ (100 : Int) < m.size) := by omega
    clear hbig h
    rcases i1 with i1 | ⟨i1, i2⟩
    all_goals
      go_enter Tryd.func6, Tryd.ntmps6
      go_wp2_with (go_at_call 7; refine (cA.out _ (Below.refl _ _)).mono ?_; rintro e w1 ⟨rfl, b1⟩)
      go_ret
      exact ⟨rfl, b1⟩
  · have i1 : (s.size : Int) ≤ 100 := by omega
    have i2 : (m.size : Int) ≤ 100 := by omega
    obtain ⟨q, hq⟩ : ∃ q, q = quoteL s.data.toList := ⟨_, rfl⟩
    have hql : q.length ≤ 402 := by
      have h1 := body_wide s.data.toList
      rw [← Lib.size_eq] at h1
      rw [hq]; unfold quoteL; simp; omega
    have hsq := size_arr q
    obtain ⟨qb, hqb⟩ : ∃ qb : ByteArray, qb = ⟨q.toArray⟩ := ⟨_, rfl⟩
    have hqd : qb.data.toList = q := by rw [hqb]
    rw [← hqb] at hsq
    have C0 := Lib.hid (fun W (b : Nat) (hS : SeesW W (some ⟨b, 0, none⟩) [((3 : Nat), (0 : Nat), s.data.toList)]) => (join_any (some ⟨b, 0, none⟩) 1 [((3 : Nat), (0 : Nat), s.data.toList)] W (by simp) hS (by intro x hx; simp at hx; subst hx; show s.data.toList.length ≤ _; rw [← Lib.size_eq]; omega)).mono (R' := fun e w' => e = .returned (.string qb) ∧ Below W.heap.size W w') (fun e w' ⟨h1, h2⟩ => ⟨by rw [h1, joinW_one]; show Ending.returned (.string ⟨(quoteL s.data.toList).toArray⟩) = _; rw [← hq, hqb], h2⟩))
    have C1 := Lib.hid (fun W (hb : Below w.heap.size w W) => words_some qb [(3, 0, s.data.toList)] (by rw [hqd, hq]; exact strings_one _) (by omega) W (h.below hb))
    obtain ⟨T, hT⟩ : ∃ T, T = qb ++ (⟨#[32]⟩ : ByteArray) ++ m := ⟨_, rfl⟩
    have hTl : lexL T.data.toList = (lexL m.data.toList).map fun ws => (3, 0, s.data.toList) :: ws.map (shiftW (q.length + 1)) := by
      have e : T.data.toList = quoteL s.data.toList ++ 32 :: m.data.toList := by
        rw [hT, ByteArray.data_append, ByteArray.data_append, Array.toList_append, Array.toList_append, hqd, hq]; simp
      rw [e, strings_more, ← hq]
    have hTs : T.size ≤ 600 := by rw [hT, ByteArray.size_append, ByteArray.size_append, hsq]; show q.length + 1 + m.size ≤ 600; omega
    have i3 : (qb.size : Int) ≤ 402 := by omega
    clear hbig hq hqb hqd hsq hql
    cases ho : lexL m.data.toList with
    | none =>
      have C2 := Lib.hid (fun W (hb : Below w.heap.size w W) => words_none m ho (by omega) W (h.below hb))
      have C3 := Lib.hid (fun W (hb : Below w.heap.size w W) => words_none T (by rw [hTl, ho]; rfl) hTs W (h.below hb))
      subst hT
      clear hTl hTs ho h
      go_enter Tryd.func6, Tryd.ntmps6
      go_wp2_with fail
      refine (cA.out _ (Below.refl _ _)).mono ?_
      rintro e w1 ⟨rfl, b1⟩
      have B1 := Lib.hid b1
      clear b1
      go_wp2_with fail
      refine (C0.out _ _ (sees_one w1 3 0 s)).mono ?_
      rintro e w2 ⟨rfl, b2⟩
      have z1 := B1.out.size
      have B2 := Lib.hid (B1.out.trans ((((Below.refl _ _).alloc (Nat.le_refl _) _).trans (b2.mono (by simp))).mono z1))
      clear b2
      go_wp2_with fail
      refine (C1.out _ B2.out).mono ?_
      rintro e w3 ⟨⟨o1, c1, rfl, hS1⟩, b3⟩
      have z2 := B2.out.size
      have B3 := Lib.hid (B2.out.trans (b3.mono z2))
      have S1 := Lib.hid hS1
      clear hS1 b3
      go_wp2_with fail
      refine (C2.out _ B3.out).mono ?_
      rintro e w4 ⟨rfl, b4⟩
      have z3 := B3.out.size
      have B4 := Lib.hid (B3.out.trans (b4.mono z3))
      have S2 := Lib.hid (S1.out.below b4)
      clear b4
      go_wp2_with fail
      refine (C3.out _ B4.out).mono ?_
      rintro e w5 ⟨rfl, b5⟩
      have z4 := B4.out.size
      have B5 := Lib.hid (B4.out.trans (b5.mono z4))
      have S3 := Lib.hid (S2.out.below b5)
      clear b5
      obtain ⟨p1, f1, rfl, hp1, hc1⟩ := S3.out.open (by simp)
      obtain ⟨l0, l1, l2⟩ := hc1 0 _ rfl
      clear hc1 hp1
      dsimp only at l0 l1 l2
      rw [str_of] at l2
      simp only [Nat.zero_mul, Nat.add_zero] at l0 l1 l2
      go_wp2_with fail
      go_quiet (fail)
      go_wp2
      go_ret
      exact ⟨rfl, B5.out.trans ⟨rfl, rfl, rfl, Nat.le_refl _, fun _ _ => rfl⟩⟩
    | some ms =>
      have C2 := Lib.hid (fun W (hb : Below w.heap.size w W) => words_some m ms ho (by omega) W (h.below hb))
      have C3 := Lib.hid (fun W (hb : Below w.heap.size w W) => words_some T ((3, 0, s.data.toList) :: ms.map (shiftW (q.length + 1))) (by rw [hTl, ho]; rfl) hTs W (h.below hb))
      obtain ⟨k, hk⟩ : ∃ k, ms.length = k := ⟨_, rfl⟩
      have hk1 : ((3, 0, s.data.toList) :: ms.map (shiftW (q.length + 1))).length = k + 1 := by simp [hk]
      have hkb : k ≤ 100 := by
        have := lex_few m.data.toList 0 ms ho
        rw [← Lib.size_eq] at this; omega
      rw [hk] at C2
      rw [hk1] at C3
      obtain ⟨ns, hns⟩ : ∃ ns, ns = ms.map (shiftW (q.length + 1)) := ⟨_, rfl⟩
      rw [← hns] at C3
      have i4 : (k : Int) ≤ 100 := by omega
      obtain ⟨n1, hn1⟩ : ∃ n1, k + 1 = n1 := ⟨_, rfl⟩
      rw [hn1] at C3
      have SM := Lib.hid (show IntKind.i64.wrap (1 + (k : Int)) = (n1 : Int) by rw [IntWalk.i64_in _ (by omega)]; omega)
      have i5 : (0 : Int) < n1 := by omega
      have i6 : 0 < n1 := by omega
      clear hn1
      subst hT
      clear hTl hTs ho h hk hk1 hns
      go_enter Tryd.func6, Tryd.ntmps6
      go_wp2_with fail
      refine (cA.out _ (Below.refl _ _)).mono ?_
      rintro e w1 ⟨rfl, b1⟩
      have B1 := Lib.hid b1
      clear b1
      go_wp2_with fail
      refine (C0.out _ _ (sees_one w1 3 0 s)).mono ?_
      rintro e w2 ⟨rfl, b2⟩
      have z1 := B1.out.size
      have B2 := Lib.hid (B1.out.trans ((((Below.refl _ _).alloc (Nat.le_refl _) _).trans (b2.mono (by simp))).mono z1))
      clear b2
      go_wp2_with fail
      refine (C1.out _ B2.out).mono ?_
      rintro e w3 ⟨⟨o1, c1, rfl, hS1⟩, b3⟩
      have z2 := B2.out.size
      have B3 := Lib.hid (B2.out.trans (b3.mono z2))
      have S1 := Lib.hid hS1
      clear hS1 b3
      go_wp2_with fail
      refine (C2.out _ B3.out).mono ?_
      rintro e w4 ⟨⟨o2, c2, rfl, _⟩, b4⟩
      have z3 := B3.out.size
      have B4 := Lib.hid (B3.out.trans (b4.mono z3))
      have S2 := Lib.hid (S1.out.below b4)
      clear b4
      go_wp2_with fail
      refine (C3.out _ B4.out).mono ?_
      rintro e w5 ⟨⟨o3, c3, rfl, hS3⟩, b5⟩
      have z4 := B4.out.size
      have B5 := Lib.hid (B4.out.trans (b5.mono z4))
      have S3 := Lib.hid (S2.out.below b5)
      clear b5
      obtain ⟨p1, f1, rfl, hp1, hc1⟩ := S3.out.open (by simp)
      obtain ⟨l0, l1, l2⟩ := hc1 0 _ rfl
      clear hc1 hp1
      dsimp only at l0 l1 l2
      rw [str_of] at l2
      simp only [Nat.zero_mul, Nat.add_zero] at l0 l1 l2
      obtain ⟨p3, f3, rfl, hp3, hc3⟩ := hS3.open (by simp)
      obtain ⟨n0, n1, n2⟩ := hc3 0 _ rfl
      clear hc3 hp3 hS3
      dsimp only at n0 n1 n2
      rw [str_of] at n2
      simp only [Nat.zero_mul, Nat.add_zero] at n0 n1 n2
      have sm := SM.out
      go_wp2_with fail
      go_quiet (fail)
      go_wp2
      go_ret
      exact ⟨rfl, B5.out.trans ⟨rfl, rfl, rfl, Nat.le_refl _, fun _ _ => rfl⟩⟩
end Go.Proofs.YtphkodkenkiecaaDoor
