/- Labels: two texts are the same just if the labels are; the order of lists: plain. -/
import Derived.Test.YtjeenanoboaaeaaGets
import Derived.Test.YtjeenanoboaaeaaMq
import Derived.Test.YtjeenanoboaaeaaNk
namespace Go.Proofs.Ytjeenanoboaaeaa
open Go.RowKit Go.Lib Go.Sort

theorem encode_no61 (r : Nat) (h1 : r ≠ 61) : (61 : UInt8) ∉ Lib.encodeRune (r : Int) := by
  have key : ∀ z : Int, 0 ≤ z → z < 256 → z ≠ 61 → z.toNat.toUInt8 ≠ 61 := by
    intro z h0 h256 ha h
    have := congrArg UInt8.toNat h
    simp at this; omega
  unfold Lib.encodeRune Lib.encodeRuneZ
  intro hx
  split at hx
  · simp only [List.map_cons, List.map_nil, List.mem_singleton] at hx
    exact key _ (by omega) (by omega) (by omega) hx.symm
  · split at hx
    · simp only [List.map_cons, List.map_nil, List.mem_cons, List.not_mem_nil, or_false] at hx
      rcases hx with hx | hx <;> exact key _ (by omega) (by omega) (by omega) hx.symm
    · split at hx
      · simp only [List.map_cons, List.map_nil, List.mem_cons, List.not_mem_nil, or_false] at hx
        rcases hx with hx | hx | hx <;> exact key _ (by omega) (by omega) (by omega) hx.symm
      · split at hx
        · simp only [List.map_cons, List.map_nil, List.mem_cons, List.not_mem_nil, or_false] at hx
          rcases hx with hx | hx | hx | hx <;> exact key _ (by omega) (by omega) (by omega) hx.symm
        · simp only [List.map_cons, List.map_nil, List.mem_cons, List.not_mem_nil, or_false] at hx
          rcases hx with hx | hx | hx <;> revert hx <;> decide
theorem name_no61 {l : List UInt8} (h : nameB l = true) : (61 : UInt8) ∉ l := by
  rw [← sufs_heads l]
  intro hm
  obtain ⟨t, ht, hx⟩ := List.mem_flatMap.1 hm
  have hr := name_right l h t ht
  have hk := nameGo_kinds _ _ h (rune t) (by unfold spell; exact List.mem_map_of_mem ht)
  have he : head t = Lib.encodeRune ((Lib.decodeL t).1 : Int) := by
    unfold head; rw [Lib.encode_decode t (sufs_ne l t ht) hr]
  rw [he] at hx
  refine encode_no61 _ (fun e => ?_) hx
  have : rune t = 61 := by unfold rune; rw [e]; rfl
  rw [this] at hk
  revert hk; decide
theorem name_ne {l : List UInt8} (h : nameB l = true) : l ≠ [] := by
  rintro rfl; revert h; decide
theorem split61 : ∀ (a b u v : List UInt8), (61 : UInt8) ∉ a → (61 : UInt8) ∉ b → a ++ 61 :: u = b ++ 61 :: v → a = b ∧ u = v
  | [], [], u, v, _, _, h => by simpa using h
  | [], c :: b, u, v, _, h2, h => by simp at h; exact absurd h.1.symm (fun e => h2 (by rw [e]; simp))
  | c :: a, [], u, v, h1, _, h => by simp at h; exact absurd h.1 (fun e => h1 (by rw [e]; simp))
  | c :: a, d :: b, u, v, h1, h2, h => by
    simp only [List.cons_append, List.cons.injEq] at h
    obtain ⟨e1, e2⟩ := split61 a b u v (fun hm => h1 (List.mem_cons_of_mem _ hm)) (fun hm => h2 (List.mem_cons_of_mem _ hm)) h.2
    exact ⟨by rw [h.1, e1], e2⟩
theorem quote_app {a b u v : List UInt8} (h : quoteL a ++ u = quoteL b ++ v) : a = b ∧ u = v := by
  unfold quoteL at h
  simp only [List.cons_append, List.append_assoc, List.cons.injEq, true_and, List.nil_append] at h
  have h1 := rd_quote a u _ (Nat.le_refl _)
  have h2 := rd_quote b v _ (Nat.le_refl _)
  rw [h] at h1
  rw [h1] at h2
  have := Option.some.inj h2
  injection this with e1 e2
  exact ⟨e1, e2⟩
theorem pair_app {x y : Lab} {u v : List UInt8} (hx : nameB x.1.data.toList = true) (hy : nameB y.1.data.toList = true) (h : pairT x ++ u = pairT y ++ v) : x = y ∧ u = v := by
  unfold pairT at h
  rw [List.append_assoc, List.append_assoc, List.cons_append, List.cons_append] at h
  obtain ⟨e1, e2⟩ := split61 _ _ _ _ (name_no61 hx) (name_no61 hy) h
  obtain ⟨e3, e4⟩ := quote_app e2
  exact ⟨Prod.ext (bytes_ext e1) (bytes_ext e3), e4⟩
theorem tail_inj : ∀ (xs ys : List Lab), (∀ x ∈ xs, nameB x.1.data.toList = true) → (∀ y ∈ ys, nameB y.1.data.toList = true) → tailT xs = tailT ys → xs = ys
  | [], [], _, _, _ => rfl
  | [], y :: ys, _, _, h => by simp [tailT] at h
  | x :: xs, [], _, _, h => by simp [tailT] at h
  | x :: xs, y :: ys, hx, hy, h => by
    simp only [tailT, List.cons.injEq, true_and] at h
    obtain ⟨e1, e2⟩ := pair_app (hx x List.mem_cons_self) (hy y List.mem_cons_self) h
    rw [e1, tail_inj xs ys (fun z hz => hx z (List.mem_cons_of_mem _ hz)) (fun z hz => hy z (List.mem_cons_of_mem _ hz)) e2]
theorem pair_ne (x : Lab) (hx : nameB x.1.data.toList = true) (u : List UInt8) : pairT x ++ u ≠ [125] := by
  intro h
  have h1 := congrArg List.length h
  have h2 : 0 < x.1.data.toList.length := List.length_pos_iff.2 (name_ne hx)
  unfold pairT quoteL at h1
  simp only [List.length_append, List.length_cons, List.length_nil] at h1
  omega
theorem text_inj (xs ys : List Lab) (hx : ∀ x ∈ xs, nameB x.1.data.toList = true) (hy : ∀ y ∈ ys, nameB y.1.data.toList = true) (h : textT xs = textT ys) : xs = ys := by
  unfold textT at h
  simp only [List.cons.injEq, true_and] at h
  match xs, ys, hx, hy, h with
  | [], [], _, _, _ => rfl
  | [], y :: ys, _, hy, h => exact absurd h.symm (pair_ne y (hy y List.mem_cons_self) _)
  | x :: xs, [], hx, _, h => exact absurd h (pair_ne x (hx x List.mem_cons_self) _)
  | x :: xs, y :: ys, hx, hy, h =>
    obtain ⟨e1, e2⟩ := pair_app (hx x List.mem_cons_self) (hy y List.mem_cons_self) h
    rw [e1, tail_inj xs ys (fun z hz => hx z (List.mem_cons_of_mem _ hz)) (fun z hz => hy z (List.mem_cons_of_mem _ hz)) e2]
theorem right_names {xs : List Lab} (h : rightB xs = true) : ∀ x ∈ xs, nameB x.1.data.toList = true := fun x hx => by
  have := ((right_iff xs).1 h).2.2 x hx
  unfold fitsB at this
  rw [Bool.and_eq_true] at this
  exact this.1
theorem sameL_iff : ∀ (xs ys : List Lab), sameL xs ys = true ↔ xs = ys
  | [], [] => by simp [sameL]
  | [], _ :: _ => by simp [sameL]
  | _ :: _, [] => by simp [sameL]
  | x :: xs, y :: ys => by
    simp only [sameL, eqB, Bool.and_eq_true, beq_iff_eq, sameL_iff xs ys, List.cons.injEq, toList_inj]
    constructor
    · rintro ⟨⟨h1, h2⟩, h3⟩; exact ⟨Prod.ext h1 h2, h3⟩
    · rintro ⟨h1, h3⟩; subst h1; exact ⟨⟨rfl, rfl⟩, h3⟩
theorem text_same {xs ys : List Lab} (hx : rightB xs = true) (hy : rightB ys = true) : ((⟨(textT xs).toArray⟩ : ByteArray).toList == (⟨(textT ys).toArray⟩ : ByteArray).toList) = sameL xs ys := by
  rw [Bool.eq_iff_iff, beq_iff_eq, sameL_iff, ByteArray.toList_eq, ByteArray.toList_eq]
  exact ⟨fun h => text_inj xs ys (right_names hx) (right_names hy) (by simpa using h), fun h => by rw [h]⟩

/-! The order of two labels, of two lists. -/
theorem cmpN_swap (x y : Lab) : cmpN y x = -cmpN x y := cmpB_swap _ _
theorem cmpV_swap (x y : Lab) : cmpV y x = -cmpV x y := cmpB_swap _ _
theorem cmp2_swap (x y : Lab) : cmp2 y x = -cmp2 x y := by
  unfold cmp2
  rw [cmpN_swap x y, cmpV_swap x y]
  by_cases h : cmpN x y = 0
  · rw [if_pos h, if_pos (by omega)]
  · rw [if_neg h, if_neg (by omega)]
theorem cmpL_swap : ∀ (xs ys : List Lab), cmpL ys xs = -cmpL xs ys
  | [], [] => rfl
  | [], _ :: _ => rfl
  | _ :: _, [] => rfl
  | x :: xs, y :: ys => by
    rw [cmpL, cmpL, cmp2_swap x y, cmpL_swap xs ys]
    by_cases h : cmp2 x y = 0
    · rw [if_pos h, if_pos (by omega)]
    · rw [if_neg h, if_neg (by omega)]
theorem cmp2_zero (x y : Lab) : cmp2 x y = 0 ↔ x = y := by
  unfold cmp2
  by_cases h : cmpN x y = 0
  · rw [if_pos h]
    have h1 := (cmpB_spec _ _).2.1.1 h
    constructor
    · intro h2; exact Prod.ext (bytes_ext h1) (bytes_ext ((cmpB_spec _ _).2.1.1 h2))
    · intro e; subst e; exact (cmpB_spec _ _).2.1.2 rfl
  · rw [if_neg h]
    constructor
    · intro h2; exact absurd h2 h
    · intro e; subst e; exact (cmpB_spec _ _).2.1.2 rfl
theorem cmpL_zero : ∀ (xs ys : List Lab), cmpL xs ys = 0 ↔ xs = ys
  | [], [] => by simp [cmpL]
  | [], _ :: _ => by simp [cmpL]
  | _ :: _, [] => by simp [cmpL]
  | x :: xs, y :: ys => by
    rw [cmpL]
    by_cases h : cmp2 x y = 0
    · rw [if_pos h, cmpL_zero xs ys, (cmp2_zero x y).1 h]; simp
    · rw [if_neg h]
      constructor
      · intro e; exact absurd e h
      · intro e; injection e with e1 _; exact absurd ((cmp2_zero x y).2 e1) h
theorem cmp2_trans {x y z : Lab} (h1 : cmp2 x y < 0) (h2 : cmp2 y z < 0) : cmp2 x z < 0 := by
  have tr : ∀ a b c : List UInt8, compareBytes a b < 0 → compareBytes b c < 0 → compareBytes a c < 0 := fun a b c p q =>
    (cmpB_spec a c).1.2 (lt_trans' ((cmpB_spec a b).1.1 p) ((cmpB_spec b c).1.1 q))
  have eqz : ∀ a b : List UInt8, compareBytes a b = 0 → a = b := fun a b h => (cmpB_spec a b).2.1.1 h
  unfold cmp2 cmpN cmpV at *
  by_cases a : compareBytes x.1.data.toList y.1.data.toList = 0
  · rw [if_pos a] at h1
    have e := eqz _ _ a
    rw [e]
    by_cases b : compareBytes y.1.data.toList z.1.data.toList = 0
    · rw [if_pos b] at h2 ⊢
      exact tr _ _ _ h1 h2
    · rw [if_neg b] at h2 ⊢
      exact h2
  · rw [if_neg a] at h1
    by_cases b : compareBytes y.1.data.toList z.1.data.toList = 0
    · have e := eqz _ _ b
      rw [← e, if_neg a]
      exact h1
    · rw [if_neg b] at h2
      have := tr _ _ _ h1 h2
      rw [if_neg (by omega)]
      exact this
theorem cmpL_trans : ∀ (xs ys zs : List Lab), cmpL xs ys ≤ 0 → cmpL ys zs ≤ 0 → cmpL xs zs ≤ 0
  | [], _, [], _, _ => by simp [cmpL]
  | [], _, _ :: _, _, _ => by simp [cmpL]
  | _ :: _, [], _, h, _ => by simp [cmpL] at h
  | _ :: _, _ :: _, [], _, h => by simp [cmpL] at h
  | x :: xs, y :: ys, z :: zs, h1, h2 => by
    rw [cmpL] at *
    by_cases a : cmp2 x y = 0
    · rw [if_pos a] at h1
      have e := (cmp2_zero x y).1 a
      subst e
      by_cases b : cmp2 x z = 0
      · rw [if_pos b] at h2 ⊢; exact cmpL_trans xs ys zs h1 h2
      · rw [if_neg b] at h2 ⊢; exact h2
    · rw [if_neg a] at h1
      by_cases b : cmp2 y z = 0
      · have e := (cmp2_zero y z).1 b
        subst e
        rw [if_neg a]; exact h1
      · rw [if_neg b] at h2
        have := cmp2_trans (x := x) (y := y) (z := z) (by omega) (by omega)
        rw [if_neg (by omega)]; omega
theorem cmp_same (xs ys : List Lab) : (cmpL xs ys == 0) = sameL xs ys := by
  rw [Bool.eq_iff_iff, beq_iff_eq, sameL_iff, cmpL_zero]
end Go.Proofs.Ytjeenanoboaaeaa
