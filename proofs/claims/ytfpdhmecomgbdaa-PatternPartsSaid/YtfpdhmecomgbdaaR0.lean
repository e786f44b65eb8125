/- Runes, plain: a list of runes as a text, and back. -/
import Derived.Test.YtfpdhmecomgbdaaPi
import Derived.Laws.Cover4
import Derived.Laws.IdiomStrings
namespace Go.Proofs.Ytfpdhmecomgbdaa
open Go.RowKit

theorem encode_eq (r : Int) : (Utf8.encode r).data.toList = Lib.encodeRune r := by
  unfold Utf8.encode Lib.encodeRune
  by_cases hv : Utf8.valid r = true
  · simp only [hv, if_true]
    have hv' : (0 ≤ r ∧ r < 55296) ∨ (57344 ≤ r ∧ r ≤ 1114111) := by simpa [Utf8.valid] using hv
    by_cases h1 : r ≤ 127
    · rw [if_pos (by omega), Lib.encodeRuneZ_one (by omega) h1]; rfl
    · rw [if_neg (by omega)]
      by_cases h2 : r ≤ 2047
      · rw [if_pos (by omega), Lib.encodeRuneZ_two (by omega) h2]
        simp only [List.map_cons, List.map_nil]
        rw [show (192 + r / 64).toNat = 192 + r.toNat / 64 by omega, show (128 + r % 64).toNat = 128 + r.toNat % 64 by omega]
      · rw [if_neg (by omega)]
        by_cases h3 : r ≤ 65535
        · rw [if_pos (by omega), Lib.encodeRuneZ_three (by omega)]
          simp only [List.map_cons, List.map_nil]
          rw [show (224 + r / 4096).toNat = 224 + r.toNat / 4096 by omega, show (128 + r / 64 % 64).toNat = 128 + r.toNat / 64 % 64 by omega, show (128 + r % 64).toNat = 128 + r.toNat % 64 by omega]
        · rw [if_neg (by omega), Lib.encodeRuneZ_four (by omega) (by omega)]
          simp only [List.map_cons, List.map_nil]
          rw [show (240 + r / 262144).toNat = 240 + r.toNat / 262144 by omega, show (128 + r / 4096 % 64).toNat = 128 + r.toNat / 4096 % 64 by omega, show (128 + r / 64 % 64).toNat = 128 + r.toNat / 64 % 64 by omega, show (128 + r % 64).toNat = 128 + r.toNat % 64 by omega]
  · have hv' : ¬ ((0 ≤ r ∧ r < 55296) ∨ (57344 ≤ r ∧ r ≤ 1114111)) := by simpa [Utf8.valid] using hv
    have hv2 : Utf8.valid r = false := by simpa using hv
    rw [Lib.encodeRuneZ_bad (by omega)]
    simp only [hv2, Bool.false_eq_true, if_false]
    decide

theorem spell_nil : spell [] = [] := rfl
theorem spell_step (l : List UInt8) (hne : l ≠ []) : spell l = rune l :: spell (l.drop (Lib.decodeL l).2) := by
  unfold spell; rw [sufs_step l hne, List.map_cons]

/-- Runes that are runes: nothing in the text is a wrong byte. -/
def Right (l : List UInt8) : Prop := ∀ t ∈ sufs l, ¬ ((Lib.decodeL t).1 = 65533 ∧ (Lib.decodeL t).2 = 1)

theorem spell_app (l : List UInt8) : ∀ u, Right l → spell (l ++ u) = spell l ++ spell u := by
  induction l using sufs_induct with
  | h0 => intro u _; rfl
  | h1 l hne ih =>
    intro u hr
    have hv := hr l (by rw [sufs_step l hne]; simp)
    have hd := decodeL_app l u hne hv
    have hwl := Lib.decodeL_le l hne
    have hne2 : l ++ u ≠ [] := by simp [hne]
    have e := ih u (fun t ht => hr t (by rw [sufs_step l hne]; simp [ht]))
    rw [spell_step (l ++ u) hne2, hd, List.drop_append_of_le_length hwl, e, spell_step l hne]
    unfold rune
    rw [hd]; rfl
theorem spell_encode (r : Int) : spell (Lib.encodeRune r) = [norm r] := by
  obtain ⟨h1, h2, _⟩ := decodeL_encode r
  rw [spell_step _ (encodeRune_ne r), h2, List.drop_length, spell_nil]
  unfold rune; rw [h1]
theorem count_spell (l : List UInt8) : countOf l = (spell l).length := by simp [countOf, spell]
theorem ascii_cons (c : UInt8) (hc : c.toNat < 128) (l : List UInt8) : spell (c :: l) = (c.toNat : Int) :: spell l := by
  have hd : Lib.decodeL (c :: l) = (c.toNat, 1) := by
    rw [Lib.decodeL_N]
    unfold Lib.decodeN
    rw [if_pos (by simpa using hc)]; rfl
  rw [spell_step _ (by simp)]
  unfold rune
  rw [hd]; rfl

theorem runesBytes_data (ns : List Int) : (runesBytes ns).data.toList = ns.flatMap Lib.encodeRune := by
  have key : ∀ (ns : List Int) (b : ByteArray), (ns.foldl (fun r n => r ++ Utf8.encode n) b).data.toList = b.data.toList ++ ns.flatMap Lib.encodeRune := by
    intro ns
    induction ns with
    | nil => intro b; simp
    | cons n ns ih =>
      intro b
      rw [List.foldl_cons, ih, ByteArray.data_append, Array.toList_append, encode_eq, List.flatMap_cons, List.append_assoc]
  unfold runesBytes
  rw [key]; simp
theorem sufs_enc (r : Int) (u : List UInt8) : sufs (Lib.encodeRune r ++ u) = (Lib.encodeRune r ++ u) :: sufs u := by
  obtain ⟨_, h2⟩ := decodeL_encode_app r u
  rw [sufs_step _ (by simp [encodeRune_ne r]), h2, List.drop_left]
theorem right_enc : ∀ ns : List Int, Right (ns.flatMap Lib.encodeRune)
  | [] => by intro t ht; simp [sufs_nil] at ht
  | r :: ns => by
    intro t ht
    rw [List.flatMap_cons, sufs_enc] at ht
    rcases List.mem_cons.1 ht with rfl | ht
    · obtain ⟨_, _, h3⟩ := decodeL_encode r
      rw [decodeL_app _ _ (encodeRune_ne r) h3]; exact h3
    · exact right_enc ns t ht
theorem spell_enc : ∀ ns : List Int, spell (ns.flatMap Lib.encodeRune) = ns.map norm
  | [] => rfl
  | r :: ns => by
    have h1 := (decodeL_encode_app r (ns.flatMap Lib.encodeRune)).1
    have h2 := spell_enc ns
    unfold spell at h2 ⊢
    rw [List.flatMap_cons, sufs_enc, List.map_cons, h2, List.map_cons]
    unfold rune; rw [h1]
theorem enc_norm (r : Int) : Lib.encodeRune (norm r) = Lib.encodeRune r := by
  unfold norm
  by_cases h : r < 0 ∨ (55296 ≤ r ∧ r ≤ 57343) ∨ 1114111 < r
  · rw [if_pos h]
    unfold Lib.encodeRune
    rw [Lib.encodeRuneZ_bad h]; decide
  · rw [if_neg h]

theorem bytes_ext {a b : ByteArray} (h : a.data.toList = b.data.toList) : a = b := by
  cases a; cases b; congr 1; exact Array.ext' h

theorem norm_id {r : Int} (h : okR r) : norm r = r := by
  unfold norm; unfold okR at h; rw [if_neg (by omega)]
theorem spell_bytes {l : List Int} (h : ∀ r ∈ l, okR r) : spell (runesBytes l).data.toList = l := by
  rw [runesBytes_data, spell_enc]
  conv => rhs; rw [← List.map_id l]
  exact List.map_congr_left fun r hr => norm_id (h r hr)
theorem bytes_size (l : List Int) : (runesBytes l).size ≤ 4 * l.length := runesBytes_size_le l

/-- What Spell leaves, for one who reads it. -/
theorem Spelt.open {B : Nat} {xs : List Int} {e : Ending} {w : World} (h : Spelt B xs e w) : ∃ (oa : Option Addr) (cap : Nat), e = .returned (.slice oa xs.length cap) ∧ xs.length ≤ cap ∧ ((oa = none ∧ xs = []) ∨ ∃ g, oa = some ⟨g, 0, none⟩ ∧ g < w.heap.size ∧ ∀ j x, xs[j]? = some x → w.cell? ⟨g, j, none⟩ = some (.int .i32 x)) := by
  obtain ⟨v, rfl, hl, h2⟩ := h
  rcases h2 with ⟨rfl, h0⟩ | ⟨g, cap, cur, rfl, hg, hh, hn, hcap, hsz, htake⟩
  · have : xs = [] := by simpa using h0
    subst this
    exact ⟨none, 0, rfl, by simp, .inl ⟨rfl, rfl⟩⟩
  · refine ⟨some ⟨g, 0, none⟩, cap, rfl, hn, .inr ⟨g, rfl, (Array.getElem?_eq_some_iff.1 hh).1, fun j x hx => ?_⟩⟩
    have hj : j < xs.length := (List.getElem?_eq_some_iff.1 hx).1
    have hown : w.ownsRow B 21 1 (.slice (some ⟨g, 0, none⟩) xs.length cap) xs.length (xs.map (Value.int .i32)) := ⟨hl, .inr ⟨g, cap, cur, rfl, hg, hh, hn, hcap, hsz, htake⟩⟩
    rw [hown.cellAt j (by omega)]
    simp [hx]
/-- A list of runes that stands in a world. -/
def Lies (oa : Option Addr) (xs : List Int) (W : World) : Prop := (oa = none ∧ xs = []) ∨ ∃ g, oa = some ⟨g, 0, none⟩ ∧ g < W.heap.size ∧ ∀ (j : Nat) (x : Int), xs[j]? = some x → W.cell? ⟨g, j, none⟩ = some (.int .i32 x)
theorem Lies.below {oa : Option Addr} {xs : List Int} {w W : World} (h : Lies oa xs w) (hb : Below w.heap.size w W) : Lies oa xs W := by
  rcases h with h | ⟨g, h1, h2, h3⟩
  · exact .inl h
  · exact .inr ⟨g, h1, Nat.lt_of_lt_of_le h2 hb.size, fun j x hx => (hb.cell (p := ⟨g, j, none⟩) h2).trans (h3 j x hx)⟩
/-- The first k of them as a text. -/
theorem Lies.conv {oa : Option Addr} {xs : List Int} {W : World} (h : Lies oa xs W) (k cap : Nat) (hk : k ≤ xs.length) : (convert 22 9 (.slice oa k cap)).run Try.prog W = .ok (.string (runesBytes (xs.take k))) W := by
  rcases h with ⟨rfl, rfl⟩ | ⟨g, rfl, _, h3⟩
  · rw [run_convert_runes_nil (P := Try.prog) _ 22 9 21 _ _ Try.underlying22 Try.underlying21 Try.underlying9]
    simp; rfl
  · exact run_convert_runes (P := Try.prog) W 22 9 21 ⟨g, 0, none⟩ k cap xs hk Try.underlying22 Try.underlying21 Try.underlying9 (by
      intro j hj
      have e : ((⟨g, 0, none⟩ : Addr).add j) = ⟨g, j, none⟩ := by simp [Addr.add]; intro h; exact h.symm
      rw [e, h3 j (xs.getD j 0) (by simp [List.getD, hj])])
/-- Any piece of them. -/
theorem Lies.part {g : Nat} {xs : List Int} {W : World} (h3 : ∀ (j : Nat) (x : Int), xs[j]? = some x → W.cell? ⟨g, j, none⟩ = some (.int .i32 x)) (j k cap : Nat) (hk : j + k ≤ xs.length) : (convert 22 9 (.slice (some ⟨g, j, none⟩) k cap)).run Try.prog W = .ok (.string (runesBytes ((xs.drop j).take k))) W := by
  refine run_convert_runes (P := Try.prog) W 22 9 21 ⟨g, j, none⟩ k cap (xs.drop j) (by rw [List.length_drop]; omega) Try.underlying22 Try.underlying21 Try.underlying9 ?_
  intro i hi
  have e : ((⟨g, j, none⟩ : Addr).add i) = ⟨g, j + i, none⟩ := by simp [Addr.add]
  rw [List.length_drop] at hi
  rw [e, h3 (j + i) ((xs.drop j).getD i 0) (by simp [List.getD, List.getElem?_drop]; rw [List.getElem?_eq_getElem (by omega)]; simp)]
end Go.Proofs.Ytfpdhmecomgbdaa
