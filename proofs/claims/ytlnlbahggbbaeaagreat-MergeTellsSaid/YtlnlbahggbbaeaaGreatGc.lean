import Derived.Test.YtlnlbahggbbaeaaGreatShelf
import Derived.Test.YtlnlbahggbbaeaaGreatGa
section
/- Walks: how a byte that is none is written; how a text is quoted. -/

namespace Go.Proofs.YtlnlbahggbbaeaaGreat
open Go.RowKit

def hexd (n : Nat) : UInt8 := if n < 10 then (48 + n).toUInt8 else (87 + n).toUInt8

end Go.Proofs.YtlnlbahggbbaeaaGreat
end

section
/- A walk: how a text is quoted. -/

namespace Go.Proofs.YtlnlbahggbbaeaaGreat
open Go.RowKit

/-- How one piece is written. -/
def chunkQ (t : List UInt8) : List UInt8 :=
  if (Lib.decodeL t).1 = 34 ∨ (Lib.decodeL t).1 = 92 then 92 :: Lib.encodeRune ((Lib.decodeL t).1 : Int)
  else if (Lib.decodeL t).1 = 10 then [92, 110]
  else if (Lib.decodeL t).1 = 65533 ∧ (Lib.decodeL t).2 = 1 then [92, 120, hexd ((t.getD 0 0).toNat / 16), hexd ((t.getD 0 0).toNat % 16)]
  else Lib.encodeRune ((Lib.decodeL t).1 : Int)
def bodyQ (l : List UInt8) : List UInt8 := (sufs l).flatMap chunkQ
def quoteL (l : List UInt8) : List UInt8 := 34 :: (bodyQ l ++ [34])

end Go.Proofs.YtlnlbahggbbaeaaGreat
end

section
/- Plain: what is in quotation marks is read back, byte by byte and piece by piece. -/

namespace Go.Proofs.YtlnlbahggbbaeaaGreat
open Go.RowKit

def hexR (b : Nat) : Option Nat := if 48 ≤ b ∧ b ≤ 57 then some (b - 48) else if 97 ≤ b ∧ b ≤ 102 then some (b - 87) else none
def pre2 (x : List UInt8) (o : Option (List UInt8 × List UInt8)) : Option (List UInt8 × List UInt8) := o.map fun p => (x ++ p.1, p.2)
def rdX (k : List UInt8 → Option (List UInt8 × List UInt8)) : List UInt8 → Option (List UInt8 × List UInt8)
  | h :: l :: r => match hexR h.toNat with
    | none => none
    | some a => match hexR l.toNat with
      | none => none
      | some b => pre2 [(16 * a + b).toUInt8] (k r)
  | _ => none
/-- Byte by byte; where 'stop' is true up to the first bare quotation mark. -/
def rd (stop : Bool) : Nat → List UInt8 → Option (List UInt8 × List UInt8)
  | 0, _ => if stop then none else some ([], [])
  | _ + 1, [] => if stop then none else some ([], [])
  | f + 1, c :: r =>
    if stop = true ∧ c = 34 then some ([], r)
    else if c ≠ 92 then pre2 [c] (rd stop f r)
    else match r with
      | [] => none
      | d :: r2 =>
        if d = 34 ∨ d = 92 then pre2 [d] (rd stop f r2)
        else if d = 110 then pre2 [10] (rd stop f r2)
        else if d = 120 then rdX (rd stop f) r2
        else none

theorem rd_cons (stop : Bool) (f : Nat) (c : UInt8) (r : List UInt8) : rd stop (f + 1) (c :: r) =
    if stop = true ∧ c = 34 then some ([], r)
    else if c ≠ 92 then pre2 [c] (rd stop f r)
    else match r with
      | [] => none
      | d :: r2 =>
        if d = 34 ∨ d = 92 then pre2 [d] (rd stop f r2)
        else if d = 110 then pre2 [10] (rd stop f r2)
        else if d = 120 then rdX (rd stop f) r2
        else none := rfl
theorem pre2_nil (o : Option (List UInt8 × List UInt8)) : pre2 [] o = o := by cases o <;> simp [pre2]
theorem pre2_pre2 (x y : List UInt8) (o : Option (List UInt8 × List UInt8)) : pre2 x (pre2 y o) = pre2 (x ++ y) o := by cases o <;> simp [pre2]

theorem rd_plain (stop : Bool) : ∀ (xs u : List UInt8) (f : Nat), (∀ x ∈ xs, x ≠ 34 ∧ x ≠ 92) → (xs ++ u).length ≤ f → ∃ f', u.length ≤ f' ∧ rd stop f (xs ++ u) = pre2 xs (rd stop f' u)
  | [], u, f, _, hf => ⟨f, hf, by simp [pre2_nil]⟩
  | x :: xs, u, f, h, hf => by
    obtain ⟨f, rfl⟩ : ∃ g, f = g + 1 := ⟨f - 1, by simp at hf; omega⟩
    obtain ⟨h1, h2⟩ := h x (by simp)
    obtain ⟨f', hf', e⟩ := rd_plain stop xs u f (fun y hy => h y (by simp [hy])) (by simp at hf ⊢; omega)
    refine ⟨f', hf', ?_⟩
    rw [List.cons_append, rd_cons, if_neg (fun hx => h1 hx.2), if_pos h2, e, pre2_pre2]; rfl

theorem hexR_hexd : ∀ n, n < 16 → hexR (hexd n).toNat = some n := by decide
theorem byte16 (c : UInt8) : (16 * (c.toNat / 16) + c.toNat % 16).toUInt8 = c := by
  have : 16 * (c.toNat / 16) + c.toNat % 16 = c.toNat := by omega
  rw [this]; simp

/-- A piece by its kind. -/
theorem chunk_kinds (t : List UInt8) (hne : t ≠ []) :
    ((Lib.decodeL t).1 = 34 ∧ chunkQ t = [92, 34] ∧ head t = [34]) ∨ ((Lib.decodeL t).1 = 92 ∧ chunkQ t = [92, 92] ∧ head t = [92]) ∨ ((Lib.decodeL t).1 = 10 ∧ chunkQ t = [92, 110] ∧ head t = [10]) ∨
    ((Lib.decodeL t).1 = 65533 ∧ (Lib.decodeL t).2 = 1 ∧ chunkQ t = [92, 120, hexd ((t.getD 0 0).toNat / 16), hexd ((t.getD 0 0).toNat % 16)] ∧ head t = [t.getD 0 0]) ∨
    (((Lib.decodeL t).1 ≠ 34 ∧ (Lib.decodeL t).1 ≠ 92 ∧ (Lib.decodeL t).1 ≠ 10) ∧ ¬ ((Lib.decodeL t).1 = 65533 ∧ (Lib.decodeL t).2 = 1) ∧ chunkQ t = Lib.encodeRune ((Lib.decodeL t).1 : Int) ∧ head t = Lib.encodeRune ((Lib.decodeL t).1 : Int)) := by
  have hv := Lib.encode_decode t hne
  by_cases h1 : (Lib.decodeL t).1 = 34
  · refine .inl ⟨h1, ?_, ?_⟩
    · unfold chunkQ; rw [if_pos (.inl h1), h1]; decide
    · unfold head; rw [← hv (by omega), h1]; decide
  · by_cases h2 : (Lib.decodeL t).1 = 92
    · refine .inr (.inl ⟨h2, ?_, ?_⟩)
      · unfold chunkQ; rw [if_pos (.inr h2), h2]; decide
      · unfold head; rw [← hv (by omega), h2]; decide
    · by_cases h3 : (Lib.decodeL t).1 = 10
      · refine .inr (.inr (.inl ⟨h3, ?_, ?_⟩))
        · unfold chunkQ; rw [if_neg (by omega), if_pos h3]
        · unfold head; rw [← hv (by omega), h3]; decide
      · by_cases h4 : (Lib.decodeL t).1 = 65533 ∧ (Lib.decodeL t).2 = 1
        · refine .inr (.inr (.inr (.inl ⟨h4.1, h4.2, ?_, ?_⟩)))
          · unfold chunkQ; rw [if_neg (by omega), if_neg h3, if_pos h4]
          · unfold head; rw [h4.2, Lib.takeA t (List.length_pos_iff.2 hne)]
        · refine .inr (.inr (.inr (.inr ⟨⟨h1, h2, h3⟩, h4, ?_, ?_⟩)))
          · unfold chunkQ; rw [if_neg (by omega), if_neg h3, if_neg h4]
          · unfold head; rw [hv h4]

theorem encode_plain (r : Nat) (h1 : r ≠ 34) (h2 : r ≠ 92) : ∀ x ∈ Lib.encodeRune (r : Int), x ≠ 34 ∧ x ≠ 92 := by
  have key : ∀ z : Int, 0 ≤ z → z < 256 → z ≠ 34 → z ≠ 92 → z.toNat.toUInt8 ≠ 34 ∧ z.toNat.toUInt8 ≠ 92 := by
    intro z h0 h256 ha hb
    constructor
    · intro h
      have := congrArg UInt8.toNat h
      simp at this; omega
    · intro h
      have := congrArg UInt8.toNat h
      simp at this; omega
  unfold Lib.encodeRune Lib.encodeRuneZ
  intro x hx
  split at hx
  · simp only [List.map_cons, List.map_nil, List.mem_singleton] at hx
    rw [hx]; exact key _ (by omega) (by omega) (by omega) (by omega)
  · split at hx
    · simp only [List.map_cons, List.map_nil, List.mem_cons, List.not_mem_nil, or_false] at hx
      rcases hx with hx | hx <;> (rw [hx]; exact key _ (by omega) (by omega) (by omega) (by omega))
    · split at hx
      · simp only [List.map_cons, List.map_nil, List.mem_cons, List.not_mem_nil, or_false] at hx
        rcases hx with hx | hx | hx <;> (rw [hx]; exact key _ (by omega) (by omega) (by omega) (by omega))
      · split at hx
        · simp only [List.map_cons, List.map_nil, List.mem_cons, List.not_mem_nil, or_false] at hx
          rcases hx with hx | hx | hx | hx <;> (rw [hx]; exact key _ (by omega) (by omega) (by omega) (by omega))
        · simp only [List.map_cons, List.map_nil, List.mem_cons, List.not_mem_nil, or_false] at hx
          rcases hx with hx | hx | hx <;> (rw [hx]; decide)

theorem rd_chunk (stop : Bool) (t u : List UInt8) (hne : t ≠ []) (f : Nat) (hf : (chunkQ t ++ u).length ≤ f) : ∃ f', u.length ≤ f' ∧ rd stop f (chunkQ t ++ u) = pre2 (head t) (rd stop f' u) := by
  rcases chunk_kinds t hne with ⟨_, hc, hh⟩ | ⟨_, hc, hh⟩ | ⟨_, hc, hh⟩ | ⟨_, _, hc, hh⟩ | ⟨⟨k1, k2, _⟩, _, hc, hh⟩
  · rw [hc] at hf ⊢; rw [hh]
    obtain ⟨f, rfl⟩ : ∃ g, f = g + 1 := ⟨f - 1, by simp at hf; omega⟩
    exact ⟨f, by simp at hf; omega, by simp [rd]⟩
  · rw [hc] at hf ⊢; rw [hh]
    obtain ⟨f, rfl⟩ : ∃ g, f = g + 1 := ⟨f - 1, by simp at hf; omega⟩
    exact ⟨f, by simp at hf; omega, by simp [rd]⟩
  · rw [hc] at hf ⊢; rw [hh]
    obtain ⟨f, rfl⟩ : ∃ g, f = g + 1 := ⟨f - 1, by simp at hf; omega⟩
    exact ⟨f, by simp at hf; omega, by simp [rd]⟩
  · rw [hc] at hf ⊢; rw [hh]
    obtain ⟨f, rfl⟩ : ∃ g, f = g + 1 := ⟨f - 1, by simp at hf; omega⟩
    have hb := (t.getD 0 0).toNat_lt
    refine ⟨f, by simp at hf; omega, ?_⟩
    generalize t.getD 0 0 = c at hb ⊢
    have e1 := hexR_hexd (c.toNat / 16) (by omega)
    have e2 := hexR_hexd (c.toNat % 16) (by omega)
    simp only [List.cons_append, List.nil_append, rd_cons]
    rw [if_neg (fun h => absurd h.2 (by decide)), if_neg (by decide), if_neg (by decide), if_neg (by decide), if_pos (by decide), rdX, e1]
    dsimp only
    rw [e2]
    dsimp only
    rw [byte16]
  · rw [hc] at hf ⊢; rw [hh]
    exact rd_plain stop _ u f (encode_plain _ k1 k2) hf

theorem bodyQ_step (l : List UInt8) (hne : l ≠ []) : bodyQ l = chunkQ l ++ bodyQ (l.drop (Lib.decodeL l).2) := by
  unfold bodyQ; rw [sufs_step l hne, List.flatMap_cons]

theorem rd_body (stop : Bool) (l : List UInt8) : ∀ (u : List UInt8) (f : Nat), (bodyQ l ++ u).length ≤ f → ∃ f', u.length ≤ f' ∧ rd stop f (bodyQ l ++ u) = pre2 l (rd stop f' u) := by
  induction l using sufs_induct with
  | h0 => intro u f hf; exact ⟨f, by simpa [bodyQ, sufs_nil] using hf, by simp [bodyQ, sufs_nil, pre2_nil]⟩
  | h1 l hne ih =>
    intro u f hf
    rw [bodyQ_step l hne, List.append_assoc] at hf ⊢
    obtain ⟨f1, h1, e1⟩ := rd_chunk stop l _ hne f hf
    obtain ⟨f2, h2, e2⟩ := ih u f1 h1
    refine ⟨f2, h2, ?_⟩
    rw [e1, e2, pre2_pre2, head_drop]

theorem rd_quote (l rest : List UInt8) (f : Nat) (hf : (bodyQ l ++ 34 :: rest).length ≤ f) : rd true f (bodyQ l ++ 34 :: rest) = some (l, rest) := by
  obtain ⟨f', h1, e⟩ := rd_body true l (34 :: rest) f hf
  obtain ⟨g, rfl⟩ : ∃ g, f' = g + 1 := ⟨f' - 1, by simp at h1; omega⟩
  rw [e]
  simp [rd, pre2]

end Go.Proofs.YtlnlbahggbbaeaaGreat
end
