import Derived.Lib.MapLaws
import Derived.Test.YtlnlbahggbbaeaaGreatProg
import Derived.WalkKit
import Derived.BigCall
import Derived.Lib.OthersKept
import Derived.Lib.Hide
import Derived.Lib.RuneBytes
section
/- Plain lists of bytes: a text's pieces (a rune, or a byte that is none), how they are quoted and read back. No program in it. -/

namespace Go.Proofs.YtlnlbahggbbaeaaGreat
open Go.Lib

/-! ### the decode, by its five shapes -/

/-! ### the pieces of a text: at each piece what is left from there on -/
def sufsGo : Nat → List UInt8 → List (List UInt8)
  | 0, _ => []
  | n + 1, l => if l = [] then [] else l :: sufsGo n (l.drop (decodeL l).2)
def sufs (l : List UInt8) : List (List UInt8) := sufsGo l.length l

theorem sufsGo_nil (n : Nat) : sufsGo n [] = [] := by cases n <;> simp [sufsGo]
theorem sufsGo_fuel : ∀ (n m : Nat) (l : List UInt8), l.length ≤ n → l.length ≤ m → sufsGo n l = sufsGo m l
  | 0, m, l, hn, _ => by
    have : l = [] := List.eq_nil_of_length_eq_zero (by omega)
    subst this; rw [sufsGo_nil, sufsGo_nil]
  | n + 1, 0, l, _, hm => by
    have : l = [] := List.eq_nil_of_length_eq_zero (by omega)
    subst this; rw [sufsGo_nil, sufsGo_nil]
  | n + 1, m + 1, l, hn, hm => by
    by_cases hne : l = []
    · subst hne; rw [sufsGo_nil, sufsGo_nil]
    · have hw := decodeL_width l
      have hl : 0 < l.length := List.length_pos_iff.2 hne
      simp only [sufsGo, if_neg hne]
      rw [sufsGo_fuel n m _ (by rw [List.length_drop]; omega) (by rw [List.length_drop]; omega)]
theorem sufs_nil : sufs [] = [] := rfl
theorem sufs_step (l : List UInt8) (hne : l ≠ []) : sufs l = l :: sufs (l.drop (decodeL l).2) := by
  have hw := decodeL_width l
  have hl : 0 < l.length := List.length_pos_iff.2 hne
  unfold sufs
  obtain ⟨n, hn⟩ : ∃ n, l.length = n + 1 := ⟨l.length - 1, by omega⟩
  rw [hn]
  simp only [sufsGo, if_neg hne]
  rw [sufsGo_fuel n _ _ (by rw [List.length_drop]; omega) (Nat.le_refl _)]

/-- A piece's own bytes. -/
def head (l : List UInt8) : List UInt8 := l.take (decodeL l).2
theorem head_drop (l : List UInt8) : head l ++ l.drop (decodeL l).2 = l := List.take_append_drop _ _

/-- Induction over the pieces. -/
theorem sufs_induct {P : List UInt8 → Prop} (h0 : P []) (h1 : ∀ l, l ≠ [] → P (l.drop (decodeL l).2) → P l) : ∀ l, P l := by
  have : ∀ n (l : List UInt8), l.length ≤ n → P l := by
    intro n
    induction n with
    | zero => intro l h; have : l = [] := List.eq_nil_of_length_eq_zero (by omega); subst this; exact h0
    | succ n ih =>
      intro l h
      by_cases hne : l = []
      · subst hne; exact h0
      · have hw := decodeL_width l
        have hl : 0 < l.length := List.length_pos_iff.2 hne
        exact h1 l hne (ih _ (by rw [List.length_drop]; omega))
  exact fun l => this l.length l (Nat.le_refl _)

theorem sufs_heads (l : List UInt8) : (sufs l).flatMap head = l := by
  induction l using sufs_induct with
  | h0 => rfl
  | h1 l hne ih => rw [sufs_step l hne, List.flatMap_cons, ih, head_drop]
theorem sufs_ne (l : List UInt8) : ∀ t ∈ sufs l, t ≠ [] := by
  induction l using sufs_induct with
  | h0 => intro t ht; simp [sufs_nil] at ht
  | h1 l hne ih =>
    intro t ht; rw [sufs_step l hne] at ht
    rcases List.mem_cons.1 ht with rfl | h
    · exact hne
    · exact ih t h

/-- A text's runes. -/
def rune (t : List UInt8) : Int := ((decodeL t).1 : Int)
def spell (l : List UInt8) : List Int := (sufs l).map rune
end Go.Proofs.YtlnlbahggbbaeaaGreat
end

section
/- Walks: what a rune is; how many there are. -/

namespace Go.Proofs.YtlnlbahggbbaeaaGreat
open Go.RowKit

def kindZ (r : Int) : Int :=
  if r < 0 ∨ r = 65533 then 0
  else if (97 ≤ r ∧ r ≤ 122) ∨ (65 ≤ r ∧ r ≤ 90) ∨ r = 95 ∨ 128 ≤ r then 1
  else if 48 ≤ r ∧ r ≤ 57 then 2
  else if r = 32 ∨ r = 9 ∨ r = 10 then 3
  else 4

theorem ret_int {k : IntKind} {a b : Int} (h : a = b) : Ending.returned (.int k a) = .returned (.int k b) := by rw [h]

end Go.Proofs.YtlnlbahggbbaeaaGreat
end

section
/- Walks: whether a text is a name. -/

namespace Go.Proofs.YtlnlbahggbbaeaaGreat
open Go.RowKit

def nameGo : Nat → List Int → Bool
  | n, [] => decide (0 < n)
  | n, r :: rs => if n = 30 ∨ (kindZ r ≠ 1 ∧ (kindZ r ≠ 2 ∨ n = 0)) then false else nameGo (n + 1) rs
def nameB (l : List UInt8) : Bool := nameGo 0 (spell l)

theorem ret_bool {a b : Bool} (h : a = b) : Ending.returned (.bool a) = .returned (.bool b) := by rw [h]

theorem name_bad (k : Nat) (r : Int) (rs : List Int) (h : k = 30 ∨ (kindZ r ≠ 1 ∧ (kindZ r ≠ 2 ∨ k = 0))) : nameGo k (r :: rs) = false := by
  unfold nameGo; rw [if_pos h]
theorem name_good (k : Nat) (r : Int) (rs : List Int) (h : ¬ (k = 30 ∨ (kindZ r ≠ 1 ∧ (kindZ r ≠ 2 ∨ k = 0)))) : nameGo k (r :: rs) = nameGo (k + 1) rs := by
  rw [nameGo, if_neg h]

end Go.Proofs.YtlnlbahggbbaeaaGreat
end

section
/- How a text is gone through: as the texts of glyph have it. -/
end

section
/- Numbers with a limit, plain: signs, what they reckon, texts that are signs. No program in it. -/

namespace Go.Proofs.YtlnlbahggbbaeaaGreat.Fix

/-- A number that may be. -/
def rgt (v : Int) : Prop := -1000000000000 ≤ v ∧ v ≤ 1000000000000
instance (v : Int) : Decidable (rgt v) := by unfold rgt; infer_instance

def reckB (f : Int) (q : Bool) : Bool := (f == 43 || f == 45 || f == 42 || f == 47 || f == 37) && !q
def cmpB (f : Int) (q : Bool) : Bool := if f = 61 ∨ f = 33 then q else f == 60 || f == 62
/-- What is read of runes: the first one, whether an equality sign stands behind it, whether it is a sign. -/
def readF : List Int → Int × Bool × Bool
  | [] => (0, false, false)
  | [f] => (f, false, reckB f false || cmpB f false)
  | [f, g] => if g = 61 then (f, true, reckB f true || cmpB f true) else (0, false, false)
  | _ => (0, false, false)

/-! ### which texts are signs -/
theorem bytes_ext {a b : ByteArray} (h : a.data.toList = b.data.toList) : a = b := by
  cases a; cases b; congr 1; exact Array.ext' h

end Go.Proofs.YtlnlbahggbbaeaaGreat.Fix
end

section
/- Names, plain: their runes. -/

namespace Go.Proofs.YtlnlbahggbbaeaaGreat
open Go.RowKit

/-- Runes that are runes: nothing in the text is a wrong byte. -/
def Right (l : List UInt8) : Prop := ∀ t ∈ sufs l, ¬ ((Lib.decodeL t).1 = 65533 ∧ (Lib.decodeL t).2 = 1)

theorem nameGo_kinds : ∀ (xs : List Int) (k : Nat), nameGo k xs = true → ∀ x ∈ xs, kindZ x = 1 ∨ kindZ x = 2
  | [], _, _ => by simp
  | x :: xs, k, h => by
    by_cases hb : k = 30 ∨ (kindZ x ≠ 1 ∧ (kindZ x ≠ 2 ∨ k = 0))
    · rw [name_bad _ _ _ hb] at h; cases h
    · rw [name_good _ _ _ hb] at h
      intro y hy
      rcases List.mem_cons.1 hy with rfl | hy
      · omega
      · exact nameGo_kinds xs (k + 1) h y hy
theorem name_right (l : List UInt8) (h : nameB l = true) : Right l := by
  intro t ht hbad
  have hk := nameGo_kinds _ _ h (rune t) (by unfold spell; exact List.mem_map_of_mem ht)
  have : rune t = 65533 := by unfold rune; rw [hbad.1]; rfl
  rw [this] at hk
  revert hk; decide

end Go.Proofs.YtlnlbahggbbaeaaGreat
end
