/- Plain: a quotation is read back to its text, by both ways; what is none, by none. -/
import Derived.Test.YtphkodkenkiecaaGreatDoorMq
import Derived.Test.YtphkodkenkiecaaGreatDoorWh
namespace Go.Proofs.YtphkodkenkiecaaGreatDoor
open Go.RowKit

theorem hexv_hexd : ∀ n, n < 16 → hexv (hexd n).toNat = some n := by decide
theorem ascii_dec (c : UInt8) (hc : c.toNat < 128) (l : List UInt8) : Lib.decodeL (c :: l) = (c.toNat, 1) := by
  rw [Lib.decodeL_N]
  unfold Lib.decodeN
  rw [if_pos (by simpa using hc)]; rfl
theorem un_skip (f k : Nat) (c : UInt8) (hc : c.toNat < 128) (u : List UInt8) : unescGo (f + 1) (k + 1) (c :: u) = unescGo f k u := by
  rw [unescGo, if_neg (by simp), if_pos (by omega), ascii_dec c hc]; simp
theorem un_esc (f : Nat) (u : List UInt8) (c n : Nat) (he : escL (92 :: u) = (c, n)) (hn : n ≠ 0) : unescGo (f + 1) 0 (92 :: u) = (unescGo f (n - 1) u).map (c.toUInt8 :: ·) := by
  rw [unescGo, if_neg (by simp), if_neg (by omega), ascii_dec 92 (by decide), he]
  dsimp only
  rw [if_neg (by decide), if_neg hn]; simp

theorem un_chunk (t u : List UInt8) (hne : t ≠ []) (f : Nat) (hf : (chunkQ t ++ u).length ≤ f) : ∃ f', u.length ≤ f' ∧ unescGo f 0 (chunkQ t ++ u) = pre (head t) (unescGo f' 0 u) := by
  rcases chunk_kinds t hne with ⟨_, hc, hh⟩ | ⟨_, hc, hh⟩ | ⟨_, hc, hh⟩ | ⟨_, _, hc, hh⟩ | ⟨⟨k1, k2, _⟩, k4, hc, hh⟩
  · rw [hc] at hf ⊢; rw [hh]
    obtain ⟨f, rfl⟩ : ∃ g, f = g + 2 := ⟨f - 2, by simp at hf; omega⟩
    refine ⟨f, by simp at hf; omega, ?_⟩
    show unescGo (f + 1 + 1) 0 (92 :: 34 :: u) = _
    rw [un_esc _ _ 34 2 (by simp [escL]) (by decide), un_skip _ _ _ (by decide)]; rfl
  · rw [hc] at hf ⊢; rw [hh]
    obtain ⟨f, rfl⟩ : ∃ g, f = g + 2 := ⟨f - 2, by simp at hf; omega⟩
    refine ⟨f, by simp at hf; omega, ?_⟩
    show unescGo (f + 1 + 1) 0 (92 :: 92 :: u) = _
    rw [un_esc _ _ 92 2 (by simp [escL]) (by decide), un_skip _ _ _ (by decide)]; rfl
  · rw [hc] at hf ⊢; rw [hh]
    obtain ⟨f, rfl⟩ : ∃ g, f = g + 2 := ⟨f - 2, by simp at hf; omega⟩
    refine ⟨f, by simp at hf; omega, ?_⟩
    show unescGo (f + 1 + 1) 0 (92 :: 110 :: u) = _
    rw [un_esc _ _ 10 2 (by simp [escL]) (by decide), un_skip _ _ _ (by decide)]; rfl
  · rw [hc] at hf ⊢; rw [hh]
    obtain ⟨f, rfl⟩ : ∃ g, f = g + 4 := ⟨f - 4, by simp at hf; omega⟩
    refine ⟨f, by simp at hf; omega, ?_⟩
    have hb := (t.getD 0 0).toNat_lt
    generalize t.getD 0 0 = c at hb ⊢
    have e1 := hexv_hexd (c.toNat / 16) (by omega)
    have e2 := hexv_hexd (c.toNat % 16) (by omega)
    have s1 := hexd_small (c.toNat / 16) (by omega)
    have s2 := hexd_small (c.toNat % 16) (by omega)
    show unescGo (f + 1 + 1 + 1 + 1) 0 (92 :: 120 :: hexd (c.toNat / 16) :: hexd (c.toNat % 16) :: u) = _
    have hE : escL (92 :: 120 :: hexd (c.toNat / 16) :: hexd (c.toNat % 16) :: u) = (c.toNat, 4) := by
      have hX : hexGo 0 [hexd (c.toNat / 16), hexd (c.toNat % 16)] = some c.toNat := by
        unfold hexGo; rw [e1]; dsimp only
        unfold hexGo; rw [e2]; dsimp only
        unfold hexGo
        congr 1; omega
      unfold escL escX
      rw [if_neg (by simp), if_neg (by simp), if_neg (by simp), if_pos (by simp), if_neg (by simp)]
      simp only [List.drop_succ_cons, List.drop_zero, List.take_succ_cons, List.take_zero]
      rw [hX]
    rw [un_esc _ _ _ _ hE (by decide), un_skip _ _ _ (by decide), un_skip _ _ _ s1, un_skip _ _ _ s2]
    simp [pre]
  · have hw := Lib.decodeL_width t
    have hwl := Lib.decodeL_le t hne
    have hh2 : head t = t.take (Lib.decodeL t).2 := rfl
    have hd1 : Lib.decodeL (head t) = Lib.decodeL t := decodeL_take t _ hne (Nat.le_refl _)
    have hne2 : head t ≠ [] := by
      intro h
      have := congrArg List.length h
      rw [hh2, List.length_take] at this; rw [List.length_nil] at this; omega
    have hd2 : Lib.decodeL (head t ++ u) = Lib.decodeL t := by
      rw [decodeL_app (head t) u hne2 (by rw [hd1]; exact k4), hd1]
    have hlen : (head t).length = (Lib.decodeL t).2 := by rw [hh2, List.length_take]; omega
    rw [hc, ← hh] at hf ⊢
    obtain ⟨f, rfl⟩ : ∃ g, f = g + 1 := ⟨f - 1, by rw [List.length_append] at hf; omega⟩
    refine ⟨f, by rw [List.length_append] at hf; omega, ?_⟩
    rw [unescGo, if_neg (show ¬ (head t ++ u = []) by simp [hne2]), if_neg (Nat.lt_irrefl 0), hd2, if_pos k2, ← hlen, List.drop_left, ← hh]; rfl

theorem pre_pre (x y : List UInt8) (o : Option (List UInt8)) : pre x (pre y o) = pre (x ++ y) o := by cases o <;> simp [pre]
theorem un_body (l : List UInt8) : ∀ f, (bodyQ l).length ≤ f → unescGo f 0 (bodyQ l) = some l := by
  induction l using sufs_induct with
  | h0 => intro f _; cases f <;> simp [bodyQ, sufs_nil, unescGo]
  | h1 l hne ih =>
    intro f hf
    rw [bodyQ_step l hne] at hf ⊢
    obtain ⟨f1, h1, e1⟩ := un_chunk l _ hne f hf
    rw [e1, ih f1 h1]
    simp [pre, head_drop]

theorem inner_eq (t : List UInt8) : ((quoteL t).drop 1).take ((quoteL t).length - 1 - 1) = bodyQ t := by
  unfold quoteL
  simp
theorem outer_ok (t : List UInt8) : ¬ ((quoteL t).length < 2 ∨ (quoteL t).getD 0 0 ≠ 34 ∨ (quoteL t).getD ((quoteL t).length - 1) 0 ≠ 34) := by
  unfold quoteL
  simp [List.getD, List.getElem?_append]

theorem unquoteL_quote (t : List UInt8) : unquoteL (quoteL t) = some t := by
  unfold unquoteL
  rw [if_neg (outer_ok t), inner_eq]
  unfold unescL
  rw [un_body t _ (Nat.le_refl _)]
  simp

theorem unquoteL_some {q t : List UInt8} (h : unquoteL q = some t) : quoteL t = q := by
  unfold unquoteL at h
  split at h
  · cases h
  · split at h
    · cases h
    · split at h
      · cases h; assumption
      · cases h


end Go.Proofs.YtphkodkenkiecaaGreatDoor
