/- How labels are told as a text: plain. -/
import Derived.Test.YtkipdfeoebibgaaShelf
import Derived.Test.YtkipdfeoebibgaaMg01
import Derived.Test.YtkipdfeoebibgaaMg02
import Derived.WalkSpells
namespace Go.Proofs.Ytkipdfeoebibgaa
open Go.RowKit

def hexd (n : Nat) : UInt8 := if n < 10 then (48 + n).toUInt8 else (87 + n).toUInt8

theorem digit_at (i : Nat) (h : i < (⟨#[48, 49, 50, 51, 52, 53, 54, 55, 56, 57, 97, 98, 99, 100, 101, 102]⟩ : ByteArray).size) : (⟨#[48, 49, 50, 51, 52, 53, 54, 55, 56, 57, 97, 98, 99, 100, 101, 102]⟩ : ByteArray)[i]'h = hexd i := by
  have h16 : i < 16 := h
  have : i = 0 ∨ i = 1 ∨ i = 2 ∨ i = 3 ∨ i = 4 ∨ i = 5 ∨ i = 6 ∨ i = 7 ∨ i = 8 ∨ i = 9 ∨ i = 10 ∨ i = 11 ∨ i = 12 ∨ i = 13 ∨ i = 14 ∨ i = 15 := by omega
  rcases this with rfl | rfl | rfl | rfl | rfl | rfl | rfl | rfl | rfl | rfl | rfl | rfl | rfl | rfl | rfl | rfl <;> rfl
theorem byteCell (c : UInt8) : Lib.byteCells [c] = [.int .u8 c.toNat] := rfl

/-- How one piece is written. -/
def chunkQ (t : List UInt8) : List UInt8 :=
  if (Lib.decodeL t).1 = 34 ∨ (Lib.decodeL t).1 = 92 then 92 :: Lib.encodeRune ((Lib.decodeL t).1 : Int)
  else if (Lib.decodeL t).1 = 10 then [92, 110]
  else if (Lib.decodeL t).1 = 65533 ∧ (Lib.decodeL t).2 = 1 then [92, 120, hexd ((t.getD 0 0).toNat / 16), hexd ((t.getD 0 0).toNat % 16)]
  else Lib.encodeRune ((Lib.decodeL t).1 : Int)
def bodyQ (l : List UInt8) : List UInt8 := (sufs l).flatMap chunkQ
def quoteL (l : List UInt8) : List UInt8 := 34 :: (bodyQ l ++ [34])

theorem chunkQ_len (t : List UInt8) : (chunkQ t).length ≤ 5 := by
  have := (Lib.encodeRuneZ_length ((Lib.decodeL t).1 : Int)).2
  have h : (Lib.encodeRune ((Lib.decodeL t).1 : Int)).length ≤ 4 := by simpa [Lib.encodeRune] using this
  unfold chunkQ
  split
  · simp; omega
  · split
    · simp
    · split
      · simp
      · omega

theorem sufs_at_flat {s : ByteArray} {pos : Nat} (h : pos < s.size) : bodyQ (s.data.toList.drop pos) = chunkQ (s.data.toList.drop pos) ++ bodyQ (s.data.toList.drop (pos + (Utf8.decode s pos).2)) := by
  unfold bodyQ; rw [sufs_at h, List.flatMap_cons]

/-- 0xFFFD as it should be, or a byte that is none. -/
theorem bad_iff (t : List UInt8) (hne : t ≠ []) (h : (Lib.decodeL t).1 = 65533) : (Lib.decodeL t).2 = 1 ↔ ¬ [239, 191, 189] <+: t := by
  constructor
  · intro hw hp
    obtain ⟨u, rfl⟩ := hp
    have := decodeL_encode_app 65533 u
    have e : Lib.encodeRune 65533 = [239, 191, 189] := by decide
    rw [e] at this
    rw [hw] at this
    exact absurd this.2 (by decide)
  · intro hp
    false_or_by_contra
    rename_i hw
    have hv : ¬ ((Lib.decodeL t).1 = 65533 ∧ (Lib.decodeL t).2 = 1) := fun x => hw x.2
    have e := Lib.encode_decode t hne hv
    rw [h] at e
    have e' : Lib.encodeRune ((65533 : Nat) : Int) = [239, 191, 189] := by decide
    rw [e'] at e
    exact hp (by rw [e]; exact List.take_prefix _ _)

theorem ret_str {a b : List UInt8} (h : a = b) : Ending.returned (.string ⟨a.toArray⟩) = .returned (.string ⟨b.toArray⟩) := by rw [h]

theorem hexd_small : ∀ n, n < 16 → (hexd n).toNat < 128 := by decide
theorem byte16 (c : UInt8) : (16 * (c.toNat / 16) + c.toNat % 16).toUInt8 = c := by
  have : 16 * (c.toNat / 16) + c.toNat % 16 = c.toNat := by omega
  rw [this]; simp

/-- A piece by its kind. -/
theorem chunk_kinds (t : List UInt8) (hne : t ≠ []) :
    ((Lib.decodeL t).1 = 34 ∧ chunkQ t = [92, 34] ∧ head t = [34]) ∨ ((Lib.decodeL t).1 = 92 ∧ chunkQ t = [92, 92] ∧ head t = [92]) ∨ ((Lib.decodeL t).1 = 10 ∧ chunkQ t = [92, 110] ∧ head t = [10]) ∨
    ((Lib.decodeL t).1 = 65533 ∧ (Lib.decodeL t).2 = 1 ∧ chunkQ t = [92, 120, hexd ((t.getD 0 0).toNat / 16), hexd ((t.getD 0 0).toNat % 16)] ∧ head t = [t.getD 0 0]) ∨
    (((Lib.decodeL t).1 ≠ 34 ∧ (Lib.decodeL t).1 ≠ 92 ∧ (Lib.decodeL t).1 ≠ 10) ∧ ¬ ((Lib.decodeL t).1 = 65533 ∧ (Lib.decodeL t).2 = 1) ∧ chunkQ t = Lib.encodeRune ((Lib.decodeL t).1 : Int) ∧ head t = Lib.encodeRune ((Lib.decodeL t).1 : Int)) := by
  have hv := Lib.encode_decode t hne
  by_cases h1 : (Lib.decodeL t).1 = 34
  · refine .inl ⟨h1, ?_, ?_⟩
    · unfold chunkQ; rw [if_pos (.inl h1), h1]; decide
    · unfold head; rw [← hv (by omega), h1]; decide
  · by_cases h2 : (Lib.decodeL t).1 = 92
    · refine .inr (.inl ⟨h2, ?_, ?_⟩)
      · unfold chunkQ; rw [if_pos (.inr h2), h2]; decide
      · unfold head; rw [← hv (by omega), h2]; decide
    · by_cases h3 : (Lib.decodeL t).1 = 10
      · refine .inr (.inr (.inl ⟨h3, ?_, ?_⟩))
        · unfold chunkQ; rw [if_neg (by omega), if_pos h3]
        · unfold head; rw [← hv (by omega), h3]; decide
      · by_cases h4 : (Lib.decodeL t).1 = 65533 ∧ (Lib.decodeL t).2 = 1
        · refine .inr (.inr (.inr (.inl ⟨h4.1, h4.2, ?_, ?_⟩)))
          · unfold chunkQ; rw [if_neg (by omega), if_neg h3, if_pos h4]
          · unfold head; rw [h4.2, Lib.takeA t (List.length_pos_iff.2 hne)]
        · refine .inr (.inr (.inr (.inr ⟨⟨h1, h2, h3⟩, h4, ?_, ?_⟩)))
          · unfold chunkQ; rw [if_neg (by omega), if_neg h3, if_neg h4]
          · unfold head; rw [hv h4]

def pairT (x : Lab) : List UInt8 := x.1.data.toList ++ (61 :: quoteL x.2.data.toList)
def tailT : List Lab → List UInt8
  | [] => [125]
  | x :: xs => 44 :: (pairT x ++ tailT xs)
def headT : List Lab → List UInt8
  | [] => [125]
  | x :: xs => pairT x ++ tailT xs
def textT (xs : List Lab) : List UInt8 := 123 :: headT xs
theorem quoteL_len (l : List UInt8) : (quoteL l).length ≤ 5 * l.length + 2 := by
  have h : ∀ ts : List (List UInt8), (ts.flatMap chunkQ).length ≤ 5 * ts.length := by
    intro ts
    induction ts with
    | nil => simp
    | cons t ts ih => rw [List.flatMap_cons, List.length_append, List.length_cons]; have := chunkQ_len t; omega
  have h2 := h (sufs l)
  have h3 := sufs_len l
  unfold quoteL bodyQ
  simp only [List.length_cons, List.length_append, List.length_nil]
  omega
theorem str_cells (s : ByteArray) : Lib.strCells s = Lib.byteCells s.data.toList := rfl
end Go.Proofs.Ytkipdfeoebibgaa
