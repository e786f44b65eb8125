/- Plain lists of bytes: a text's pieces (a rune, or a byte that is none), how they are quoted and read back. No program in it. -/
import Derived.Lib.MapLaws
namespace Go.Proofs.YtphkodkenkiecaaGreatDoor
open Go.Lib

/-! ### the decode, by its five shapes -/
theorem decodeL_nonbad {l : List UInt8} (hne : l ≠ []) : (decodeL l).2 ≤ l.length := decodeL_le l hne

theorem getD_take (l : List UInt8) (k i : Nat) : (l.take k).getD i 0 = if i < k then l.getD i 0 else 0 := by
  simp only [List.getD, List.getElem?_take]; split <;> rfl
theorem getD_app (l u : List UInt8) (i : Nat) (h : i < l.length) : (l ++ u).getD i 0 = l.getD i 0 := by
  simp [List.getD, List.getElem?_append_left h]

theorem decodeN_inj_take (n k b0 b1 b2 b3 : Nat) (h0 : b0 < 256) (h1 : b1 < 256) (_h2 : b2 < 256) (_h3 : b3 < 256) (hk1 : 1 ≤ k) (hn : 1 ≤ n) (hk : (decodeN n b0 b1 b2 b3).2 ≤ k) :
    decodeN (min k n) b0 (if 1 < k then b1 else 0) (if 2 < k then b2 else 0) (if 3 < k then b3 else 0) = decodeN n b0 b1 b2 b3 := by
  rcases decodeN_shape n b0 b1 b2 b3 with ⟨c, e⟩ | ⟨c1, c2, c3, cv, e⟩ | ⟨c1, c2, c3, c4, cv, cs, e⟩ | ⟨c1, c2, c3, c4, c5, cv, cw, e⟩ | e
  · rw [e]; unfold decodeN; rw [if_pos c]
  · rw [e] at hk ⊢; dsimp only at hk
    rw [if_pos (by omega)]
    unfold decodeN
    rw [if_neg (by omega), if_pos ⟨c1, by omega, c3⟩, if_pos (by omega)]
  · rw [e] at hk ⊢; dsimp only at hk
    rw [if_pos (by omega), if_pos (by omega)]
    unfold decodeN
    rw [if_neg (by omega), if_neg (by omega), if_pos ⟨c1, ⟨by omega, c3⟩, by omega, c4⟩, if_pos (by omega)]
  · rw [e] at hk ⊢; dsimp only at hk
    rw [if_pos (by omega), if_pos (by omega), if_pos (by omega)]
    unfold decodeN
    rw [if_neg (by omega), if_neg (by omega), if_neg (by omega), if_pos ⟨c1, ⟨by omega, c3⟩, ⟨by omega, c4⟩, by omega, c5⟩, if_pos (by omega)]
  · rw [e]
    rcases decodeN_shape (min k n) b0 (if 1 < k then b1 else 0) (if 2 < k then b2 else 0) (if 3 < k then b3 else 0) with ⟨c, e'⟩ | ⟨c1, c2, c3, cv, e'⟩ | ⟨c1, c2, c3, c4, cv, cs, e'⟩ | ⟨c1, c2, c3, c4, c5, cv, cw, e'⟩ | e'
    · exfalso
      have : decodeN n b0 b1 b2 b3 = (b0, 1) := by unfold decodeN; rw [if_pos c]
      rw [this] at e; simp at e; omega
    · exfalso
      have g1 : 1 < k := by omega
      rw [if_pos g1] at c3 cv
      have : decodeN n b0 b1 b2 b3 = (b0 % 32 * 64 + b1 % 64, 2) := by
        unfold decodeN; rw [if_neg (by omega), if_pos ⟨c1, by omega, c3⟩, if_pos (by omega)]
      rw [this] at e; simp at e
    · exfalso
      have g1 : 1 < k := by omega
      have g2 : 2 < k := by omega
      rw [if_pos g1] at c3 cv cs; rw [if_pos g2] at c4 cv cs
      have : decodeN n b0 b1 b2 b3 = (b0 % 16 * 4096 + b1 % 64 * 64 + b2 % 64, 3) := by
        unfold decodeN; rw [if_neg (by omega), if_neg (by omega), if_pos ⟨c1, ⟨by omega, c3⟩, by omega, c4⟩, if_pos (by omega)]
      rw [this] at e; simp at e
    · exfalso
      have g1 : 1 < k := by omega
      have g2 : 2 < k := by omega
      have g3 : 3 < k := by omega
      rw [if_pos g1] at c3 cv cw; rw [if_pos g2] at c4 cv cw; rw [if_pos g3] at c5 cv cw
      have : decodeN n b0 b1 b2 b3 = (b0 % 8 * 262144 + b1 % 64 * 4096 + b2 % 64 * 64 + b3 % 64, 4) := by
        unfold decodeN; rw [if_neg (by omega), if_neg (by omega), if_neg (by omega), if_pos ⟨c1, ⟨by omega, c3⟩, ⟨by omega, c4⟩, by omega, c5⟩, if_pos (by omega)]
      rw [this] at e; simp at e
    · exact e'

/-- What is cut off behind a piece does not change it. -/
theorem decodeL_take (l : List UInt8) (k : Nat) (hne : l ≠ []) (hk : (decodeL l).2 ≤ k) : decodeL (l.take k) = decodeL l := by
  have hw := decodeL_width l
  have hl : 0 < l.length := List.length_pos_iff.2 hne
  rw [decodeL_N] at hk
  rw [decodeL_N l, decodeL_N (l.take k), List.length_take, getD_take, getD_take, getD_take, getD_take]
  have := decodeN_inj_take l.length k (l.getD 0 0).toNat (l.getD 1 0).toNat (l.getD 2 0).toNat (l.getD 3 0).toNat (l.getD 0 0).toNat_lt (l.getD 1 0).toNat_lt (l.getD 2 0).toNat_lt (l.getD 3 0).toNat_lt (by rw [← decodeL_N] at hk; omega) hl hk
  rw [← this]
  have k0 : 0 < k := by rw [← decodeL_N] at hk; omega
  rw [if_pos k0]
  congr 1 <;> split <;> rfl

/-- A piece that is a rune stays one, whatever stands behind it. -/
theorem decodeL_app (l u : List UInt8) (hne : l ≠ []) (hv : ¬ ((decodeL l).1 = 65533 ∧ (decodeL l).2 = 1)) : decodeL (l ++ u) = decodeL l := by
  have hl : 0 < l.length := List.length_pos_iff.2 hne
  rw [decodeL_N] at hv
  rw [decodeL_N l, decodeL_N (l ++ u), List.length_append]
  rcases decodeN_shape l.length (l.getD 0 0).toNat (l.getD 1 0).toNat (l.getD 2 0).toNat (l.getD 3 0).toNat with ⟨c, e⟩ | ⟨c1, c2, c3, cv, e⟩ | ⟨c1, c2, c3, c4, cv, cs, e⟩ | ⟨c1, c2, c3, c4, c5, cv, cw, e⟩ | e
  · rw [e, getD_app l u 0 hl]; unfold decodeN; rw [if_pos c]
  · rw [e, getD_app l u 0 hl, getD_app l u 1 c2]
    unfold decodeN
    rw [if_neg (by omega), if_pos ⟨c1, by omega, c3⟩, if_pos (by omega)]
  · rw [e, getD_app l u 0 hl, getD_app l u 1 (by omega), getD_app l u 2 c2]
    unfold decodeN
    rw [if_neg (by omega), if_neg (by omega), if_pos ⟨c1, ⟨by omega, c3⟩, by omega, c4⟩, if_pos (by omega)]
  · rw [e, getD_app l u 0 hl, getD_app l u 1 (by omega), getD_app l u 2 (by omega), getD_app l u 3 c2]
    unfold decodeN
    rw [if_neg (by omega), if_neg (by omega), if_neg (by omega), if_pos ⟨c1, ⟨by omega, c3⟩, ⟨by omega, c4⟩, by omega, c5⟩, if_pos (by omega)]
  · exact absurd ⟨by rw [e], by rw [e]⟩ hv

/-- A number that no text can have is U+FFFD. -/
def norm (r : Int) : Int := if r < 0 ∨ (55296 ≤ r ∧ r ≤ 57343) ∨ 1114111 < r then 65533 else r

theorem decodeL_encode (r : Int) : ((decodeL (encodeRune r)).1 : Int) = norm r ∧ (decodeL (encodeRune r)).2 = (encodeRune r).length ∧ ¬ ((decodeL (encodeRune r)).1 = 65533 ∧ (decodeL (encodeRune r)).2 = 1) := by
  rw [decodeL_N]
  unfold norm
  by_cases hb : r < 0 ∨ (55296 ≤ r ∧ r ≤ 57343) ∨ 1114111 < r
  · rw [if_pos hb]
    unfold encodeRune; rw [encodeRuneZ_bad hb]; decide
  · rw [if_neg hb]
    by_cases h1 : r ≤ 127
    · have e : encodeRune r = [r.toNat.toUInt8] := by unfold encodeRune; rw [encodeRuneZ_one (by omega) h1]; rfl
      rw [e]
      have : decodeN 1 (r.toNat % 256) 0 0 0 = (r.toNat % 256, 1) := by unfold decodeN; rw [if_pos (by omega)]
      simp only [List.length_singleton, List.getD, List.getElem?_cons_zero, Option.getD_some]
      simp [this]; omega
    · by_cases h2 : r ≤ 2047
      · have e : encodeRune r = [(192 + r / 64).toNat.toUInt8, (128 + r % 64).toNat.toUInt8] := by unfold encodeRune; rw [encodeRuneZ_two (by omega) h2]; rfl
        rw [e]
        have : decodeN 2 ((192 + r / 64).toNat % 256) ((128 + r % 64).toNat % 256) 0 0 = (r.toNat, 2) := by
          unfold decodeN; rw [if_neg (by omega), if_pos (by omega), if_pos (by omega)]; congr 1; omega
        simp [List.getD, this]; omega
      · by_cases h3 : r ≤ 65535
        · have e : encodeRune r = [(224 + r / 4096).toNat.toUInt8, (128 + r / 64 % 64).toNat.toUInt8, (128 + r % 64).toNat.toUInt8] := by unfold encodeRune; rw [encodeRuneZ_three (by omega)]; rfl
          rw [e]
          have : decodeN 3 ((224 + r / 4096).toNat % 256) ((128 + r / 64 % 64).toNat % 256) ((128 + r % 64).toNat % 256) 0 = (r.toNat, 3) := by
            unfold decodeN; rw [if_neg (by omega), if_neg (by omega), if_pos (by omega), if_pos (by omega)]; congr 1; omega
          simp [List.getD, this]; omega
        · have e : encodeRune r = [(240 + r / 262144).toNat.toUInt8, (128 + r / 4096 % 64).toNat.toUInt8, (128 + r / 64 % 64).toNat.toUInt8, (128 + r % 64).toNat.toUInt8] := by unfold encodeRune; rw [encodeRuneZ_four (by omega) (by omega)]; rfl
          rw [e]
          have : decodeN 4 ((240 + r / 262144).toNat % 256) ((128 + r / 4096 % 64).toNat % 256) ((128 + r / 64 % 64).toNat % 256) ((128 + r % 64).toNat % 256) = (r.toNat, 4) := by
            unfold decodeN; rw [if_neg (by omega), if_neg (by omega), if_neg (by omega), if_pos (by omega), if_pos (by omega)]; congr 1; omega
          simp [List.getD, this]; omega

theorem encodeRune_ne (r : Int) : encodeRune r ≠ [] := by
  have := (runeCells_le r).1; rw [runeCells_length] at this
  intro h; rw [h] at this; simp at this
theorem decodeL_encode_app (r : Int) (u : List UInt8) : ((decodeL (encodeRune r ++ u)).1 : Int) = norm r ∧ (decodeL (encodeRune r ++ u)).2 = (encodeRune r).length := by
  obtain ⟨h1, h2, h3⟩ := decodeL_encode r
  rw [decodeL_app _ u (encodeRune_ne r) h3]
  exact ⟨h1, h2⟩

/-! ### the pieces of a text: at each piece what is left from there on -/
def sufsGo : Nat → List UInt8 → List (List UInt8)
  | 0, _ => []
  | n + 1, l => if l = [] then [] else l :: sufsGo n (l.drop (decodeL l).2)
def sufs (l : List UInt8) : List (List UInt8) := sufsGo l.length l

theorem sufsGo_nil (n : Nat) : sufsGo n [] = [] := by cases n <;> simp [sufsGo]
theorem sufsGo_fuel : ∀ (n m : Nat) (l : List UInt8), l.length ≤ n → l.length ≤ m → sufsGo n l = sufsGo m l
  | 0, m, l, hn, _ => by
    have : l = [] := List.eq_nil_of_length_eq_zero (by omega)
    subst this; rw [sufsGo_nil, sufsGo_nil]
  | n + 1, 0, l, _, hm => by
    have : l = [] := List.eq_nil_of_length_eq_zero (by omega)
    subst this; rw [sufsGo_nil, sufsGo_nil]
  | n + 1, m + 1, l, hn, hm => by
    by_cases hne : l = []
    · subst hne; rw [sufsGo_nil, sufsGo_nil]
    · have hw := decodeL_width l
      have hl : 0 < l.length := List.length_pos_iff.2 hne
      simp only [sufsGo, if_neg hne]
      rw [sufsGo_fuel n m _ (by rw [List.length_drop]; omega) (by rw [List.length_drop]; omega)]
theorem sufs_nil : sufs [] = [] := rfl
theorem sufs_step (l : List UInt8) (hne : l ≠ []) : sufs l = l :: sufs (l.drop (decodeL l).2) := by
  have hw := decodeL_width l
  have hl : 0 < l.length := List.length_pos_iff.2 hne
  unfold sufs
  obtain ⟨n, hn⟩ : ∃ n, l.length = n + 1 := ⟨l.length - 1, by omega⟩
  rw [hn]
  simp only [sufsGo, if_neg hne]
  rw [sufsGo_fuel n _ _ (by rw [List.length_drop]; omega) (Nat.le_refl _)]

/-- A piece's own bytes. -/
def head (l : List UInt8) : List UInt8 := l.take (decodeL l).2
theorem head_drop (l : List UInt8) : head l ++ l.drop (decodeL l).2 = l := List.take_append_drop _ _

/-- Induction over the pieces. -/
theorem sufs_induct {P : List UInt8 → Prop} (h0 : P []) (h1 : ∀ l, l ≠ [] → P (l.drop (decodeL l).2) → P l) : ∀ l, P l := by
  have : ∀ n (l : List UInt8), l.length ≤ n → P l := by
    intro n
    induction n with
    | zero => intro l h; have : l = [] := List.eq_nil_of_length_eq_zero (by omega); subst this; exact h0
    | succ n ih =>
      intro l h
      by_cases hne : l = []
      · subst hne; exact h0
      · have hw := decodeL_width l
        have hl : 0 < l.length := List.length_pos_iff.2 hne
        exact h1 l hne (ih _ (by rw [List.length_drop]; omega))
  exact fun l => this l.length l (Nat.le_refl _)

theorem sufs_heads (l : List UInt8) : (sufs l).flatMap head = l := by
  induction l using sufs_induct with
  | h0 => rfl
  | h1 l hne ih => rw [sufs_step l hne, List.flatMap_cons, ih, head_drop]
theorem sufs_ne (l : List UInt8) : ∀ t ∈ sufs l, t ≠ [] := by
  induction l using sufs_induct with
  | h0 => intro t ht; simp [sufs_nil] at ht
  | h1 l hne ih =>
    intro t ht; rw [sufs_step l hne] at ht
    rcases List.mem_cons.1 ht with rfl | h
    · exact hne
    · exact ih t h
theorem sufs_len (l : List UInt8) : (sufs l).length ≤ l.length := by
  induction l using sufs_induct with
  | h0 => simp [sufs_nil]
  | h1 l hne ih =>
    have hw := decodeL_width l
    have hl := decodeL_le l hne
    rw [sufs_step l hne, List.length_cons]
    rw [List.length_drop] at ih; omega

/-- A text's runes. -/
def rune (t : List UInt8) : Int := ((decodeL t).1 : Int)
def spell (l : List UInt8) : List Int := (sufs l).map rune
end Go.Proofs.YtphkodkenkiecaaGreatDoor
