/- Patterns: what may be right behind what. -/
import Derived.Test.YtfpdhmecomgbdaaPj
namespace Go.Proofs.Ytfpdhmecomgbdaa
open Go.RowKit

/-- The first k links are done. -/
def mixL (t : List Nat) (a b k : Nat) : List Nat := (linkF t a b).take k ++ t.drop k
theorem mixL_len (t : List Nat) (a b k : Nat) : (mixL t a b k).length = t.length := by
  unfold mixL
  rw [List.length_append, List.length_take, List.length_drop, linkF_len]; omega
theorem mixL_zero (t : List Nat) (a b : Nat) : mixL t a b 0 = t := by simp [mixL]
theorem mixL_end (t : List Nat) (a b k : Nat) (h : t.length ≤ k) : mixL t a b k = linkF t a b := by
  unfold mixL
  rw [List.take_of_length_le (by rw [linkF_len]; exact h), List.drop_eq_nil_of_le h, List.append_nil]
theorem linkF_at (t : List Nat) (a b i : Nat) (h : i < t.length) : (linkF t a b)[i]? = some (if a.testBit i then t[i] ||| b else t[i]) := by
  unfold linkF
  rw [List.getElem?_mapIdx, List.getElem?_eq_getElem h]; rfl
theorem mixL_at (t : List Nat) (a b k : Nat) (h : k < t.length) : (mixL t a b k)[k]? = some t[k] := by
  unfold mixL
  rw [List.getElem?_append_right (by rw [List.length_take, linkF_len]; omega), List.length_take, linkF_len, Nat.min_eq_left (by omega), Nat.sub_self, List.getElem?_drop, Nat.add_zero, List.getElem?_eq_getElem h]
theorem mixL_succ (t : List Nat) (a b k : Nat) (h : k < t.length) : mixL t a b (k + 1) = (mixL t a b k).set k (if a.testBit k then t[k] ||| b else t[k]) := by
  apply List.ext_getElem?
  intro i
  rw [List.getElem?_set, mixL_len]
  unfold mixL
  rw [List.getElem?_append, List.getElem?_append, List.length_take, List.length_take, linkF_len, List.getElem?_take, List.getElem?_take, List.getElem?_drop, List.getElem?_drop]
  by_cases h1 : k = i
  · subst h1
    rw [if_pos (by omega), if_pos (by omega), if_pos rfl, if_pos h, linkF_at t a b k h]
  · rw [if_neg h1]
    by_cases h2 : i < k
    · rw [if_pos (by omega), if_pos (by omega), if_pos (by omega), if_pos h2]
    · rw [if_neg (by omega), if_neg (by omega)]
      congr 1; omega
theorem set_same {t : List Nat} {k : Nat} {x : Nat} (h : t[k]? = some x) : t.set k x = t := by
  apply List.ext_getElem?
  intro i
  rw [List.getElem?_set]
  by_cases h1 : k = i
  · subst h1
    have := (List.getElem?_eq_some_iff.1 h).1
    rw [if_pos rfl, if_pos this, h]
  · rw [if_neg h1]

theorem bit_at {A k : Nat} (hA : A < 2 ^ 64) : (bits .and .u64 ((A : Int) / 2 ^ k) 1 != 0) = A.testBit k := by
  have h64 : (2 : Nat) ^ 64 = 18446744073709551616 := by decide
  have h1 : ((A : Int) / 2 ^ k) = ((A / 2 ^ k : Nat) : Int) := by simp
  have h2 : A / 2 ^ k < 2 ^ 64 := Nat.lt_of_le_of_lt (Nat.div_le_self _ _) hA
  rw [h1, show (1 : Int) = ((1 : Nat) : Int) from rfl, u64_and_nat _ _ (by rw [← h64]; exact h2) (by omega), Nat.testBit_eq_decide_div_mod_eq, Nat.and_one_is_mod]
  have h3 : A / 2 ^ k % 2 < 2 := Nat.mod_lt _ (by omega)
  generalize A / 2 ^ k % 2 = m at h3
  rcases (show m = 0 ∨ m = 1 by omega) with rfl | rfl <;> rfl
theorem or_at {A B : Nat} (hA : A < 2 ^ 64) (hB : B < 2 ^ 64) : bits .or .u64 (A : Int) (B : Int) = ((A ||| B : Nat) : Int) := by
  have h64 : (2 : Nat) ^ 64 = 18446744073709551616 := by decide
  exact u64_or_nat _ _ (by rw [← h64]; exact hA) (by rw [← h64]; exact hB)
theorem own_some {w : World} {B e size n : Nat} {v : Value} {xs : List Value} (h : w.ownsRow B e size v n xs) (hn : 0 < n) : ∃ g cap, v = .slice (some ⟨g, 0, none⟩) n cap ∧ B ≤ g := by
  rcases h.2 with ⟨_, h0⟩ | ⟨g, cap, cur, rfl, hB, _⟩
  · omega
  · exact ⟨g, cap, rfl, hB⟩
theorem u64s_at {l : List Nat} {k x : Nat} (h : l[k]? = some x) : (u64s l)[k]? = some (.int .u64 (x : Int)) := by
  unfold u64s; rw [List.getElem?_map, h]; rfl
theorem u64s_set (l : List Nat) (k x : Nat) : u64s (l.set k x) = (u64s l).set k (.int .u64 (x : Int)) := by
  unfold u64s; rw [List.map_set]
structure LinkAt (w : World) (bp : Nat) (t a b c va vt : Value) (vs : List Value) (g : Gr) (A B k : Nat) (wr : World) : Prop where
  pat : Pat wr bp t va vt a b c
  row : GrRow wr bp va vt vs ⟨g.atoms, mixL g.thn A B k⟩
  below : Below bp w wr
  tys : Tys w wr
  le : k ≤ g.thn.length
theorem GrRow.links_set {w : World} {bp g1 n ct k O : Nat} {va vt : Value} {vs : List Value} {ats : List Pt} {l l2 : List Nat} (h : GrRow w bp va vt vs ⟨ats, l⟩) (hv : vt = .slice (some ⟨g1, 0, none⟩) n ct) (hn : l.length = n)
    (hl : l2 = l.set k O) : GrRow (w.setCell ⟨g1, k, none⟩ (.int .u64 (O : Int))) bp va vt vs ⟨ats, l2⟩ := by
  subst hv
  subst hl
  have hk := h.links
  dsimp only at hk
  rw [hn] at hk
  have hst := hk.stored k (.int .u64 (O : Int))
  have hB : bp + 1 ≤ g1 := (hk.lt g1 rfl).1
  refine ⟨?_, ?_, fun j u x hu hx => ?_⟩
  · exact h.atoms.kept hst.2 (own_far h.atoms hk (by decide))
  · have : (l.set k O).length = n := by rw [List.length_set]; exact hn
    dsimp only
    rw [this, u64s_set]
    exact hst.1
  · exact (h.kids j u x hu hx).keep fun b hb hl => ⟨hst.2.block b hl (by simp; omega), hb⟩
theorem link_next {w wr : World} {bp g1 n ct k O T A B : Nat} {t a b c va vt : Value} {vs : List Value} {g : Gr} (h : LinkAt w bp t a b c va vt vs g A B k wr) (hv : vt = .slice (some ⟨g1, 0, none⟩) n ct) (hn : g.thn.length = n) (hT : g.thn[k]? = some T) (hbit : A.testBit k = true) (hO : T ||| B = O) :
    LinkAt w bp t a b c va vt vs g A B (k + 1) (wr.setCell ⟨g1, k, none⟩ (.int .u64 (O : Int))) := by
  have hk : k < g.thn.length := (List.getElem?_eq_some_iff.1 hT).1
  have hT2 : g.thn[k] = T := (List.getElem?_eq_some_iff.1 hT).2
  have hg1 : bp + 1 ≤ g1 := (h.row.links.lt g1 (by rw [hv]; rfl)).1
  refine ⟨?_, ?_, h.below.setCell (by show bp ≤ g1; omega) _, h.tys.trans (Tys.of_grown h.row.links (by rw [hv]; exact grown_set wr g1 k _) (.inr rfl)), by omega⟩
  · have := h.pat
    unfold Pat at this ⊢
    rw [heap_setCell_other _ _ _ _ (by show bp ≠ g1; omega)]
    exact this
  · refine h.row.links_set hv (by rw [mixL_len]; exact hn) ?_
    rw [mixL_succ _ _ _ _ hk, hbit, hT2, if_pos rfl, hO]
theorem link_skip {w wr : World} {bp k T A B : Nat} {t a b c va vt : Value} {vs : List Value} {g : Gr} (h : LinkAt w bp t a b c va vt vs g A B k wr) (hT : g.thn[k]? = some T ∧ (mixL g.thn A B k)[k]? = some T) (hbit : A.testBit k = false) :
    LinkAt w bp t a b c va vt vs g A B (k + 1) wr := by
  have hk : k < g.thn.length := (List.getElem?_eq_some_iff.1 hT.1).1
  have hT2 : g.thn[k] = T := (List.getElem?_eq_some_iff.1 hT.1).2
  refine ⟨h.pat, ?_, h.below, h.tys, by omega⟩
  rw [mixL_succ _ _ _ _ hk, hbit, hT2]
  simp only [Bool.false_eq_true, if_false]
  rw [set_same hT.2]
  exact h.row
def LinkLoop (w : World) (bp : Nat) (t a b c va vt : Value) (vs : List Value) (g : Gr) (A B n : Nat) (k : Nat) (v : Value) (wr : World) : Prop := ∃ i, k + i = n ∧ v = .int .i64 i ∧ LinkAt w bp t a b c va vt vs g A B i wr

set_option maxHeartbeats 4000000 in
set_option maxRecDepth 100000 in
theorem link_any (bp : Nat) (t a b c : Value) (g : Gr) (A B : Nat) (w : World) (h : GrAt w bp t a b c g) (hn : g.thn.length ≤ 64) (hA : A < 2 ^ 64) (hB : B < 2 ^ 64) (hs : ∀ x ∈ g.thn, x < 2 ^ 64) :
    Calls Try.prog 32 #[.pointer (some ⟨bp, 1, none⟩), .int .u64 (A : Int), .int .u64 (B : Int)] w fun e w' => e = .returned (.tuple #[]) ∧ GrAt w' bp t a b c ⟨g.atoms, linkF g.thn A B⟩ ∧ Below bp w w' ∧ Tys w w' := by
  obtain ⟨va, vt, vs, hp, hr⟩ := h
  obtain ⟨ot, ct, hvt⟩ := own_shape hr.links
  obtain ⟨_, _, p2, _, _, _, _, f2, hlt⟩ := hp.reads
  obtain ⟨n, hn2⟩ : ∃ n, g.thn.length = n := ⟨_, rfl⟩
  have HST : LinkLoop w bp t a b c va vt vs g A B n n (.int .i64 (0 : Nat)) w := ⟨0, rfl, rfl, hp, by rw [mixL_zero]; exact hr, Below.refl _ _, Tys.refl _, Nat.zero_le _⟩
  have HN := Lib.hid hn2
  have HVT := Lib.hid (show vt = .slice ot n ct by rw [hvt, hn2])
  have HA := Lib.hid hA
  have HB := Lib.hid hB
  have HS := Lib.hid hs
  rw [hvt, hn2] at p2
  rw [hn2] at hn
  clear hp hr hvt hn2 hA hB hs
  go_enter Try.func32, Try.ntmps32
  go_wp2_with fail
  go_loopg [12] n (fun k v wr => LinkLoop w bp t a b c va vt vs g A B n k v wr)
  case atStart => exact HST
  case round =>
    clear HST p2 f2
    obtain ⟨k, hgk, rfl, H⟩ := hrel
    have HH := Lib.hid H
    obtain ⟨_, _, p2, _, _, _, _, f2, _⟩ := H.pat.reads
    rw [HVT.out] at p2
    clear H
    have HGK := Lib.hid hgk
    by_cases hkn : k < n
    · have i1 : (k : Int) < n := by omega
      obtain ⟨g1, c1, hv1, hg1⟩ := own_some HH.out.row.links (by show 0 < (mixL g.thn A B k).length; rw [mixL_len, HN.out]; omega)
      rw [HVT.out] at hv1
      injection hv1 with e1 e2 e3
      clear e2
      subst e1; subst e3
      obtain ⟨T, hT⟩ : ∃ T, g.thn[k]? = some T := ⟨_, List.getElem?_eq_getElem (by rw [HN.out]; exact hkn)⟩
      have hTm : (mixL g.thn A B k)[k]? = some T := by
        rw [mixL_at _ _ _ _ (by rw [HN.out]; exact hkn), ← hT, List.getElem?_eq_getElem (by rw [HN.out]; exact hkn)]
      have hT64 : T < 2 ^ 64 := HS.out T (List.mem_of_getElem? hT)
      have hrow := HH.out.row.links
      rw [HVT.out] at hrow
      have hln : (mixL g.thn A B k).length = n := by rw [mixL_len, HN.out]
      replace hrow : wr.ownsRow (bp + 1) 47 1 (.slice (some ⟨g1, 0, none⟩) n ct) n (u64s (mixL g.thn A B k)) := by
        have h2 := hrow
        dsimp only at h2
        rw [hln] at h2
        exact h2
      have c0 : wr.cell? ⟨g1, k, none⟩ = some (.int .u64 (T : Int)) := by rw [hrow.cellAt k (by omega)]; exact u64s_at hTm
      have c1 := hrow.frozenAt k
      have hbit := bit_at (A := A) (k := k) HA.out
      have hor := or_at hT64 HB.out
      have hst := hrow.stored k (.int .u64 ((T ||| B : Nat) : Int))
      have HST2 := Lib.hid hst
      have HTK := Lib.hid (And.intro hT hTm)
      obtain ⟨O, hO⟩ : ∃ O, T ||| B = O := ⟨_, rfl⟩
      rw [hO] at hor HST2
      have HO := Lib.hid hO
      clear hgk hrow hst hT hTm hT64 hln hO
      cases hb : A.testBit k with
      | true =>
        rw [hb] at hbit
        have HBT := Lib.hid hb
        clear hb
        go_wp2_with fail
        go_roundg (gk - 1)
        case measure => have := HGK.out; omega
        case rel => exact ⟨k + 1, by have := HGK.out; omega, by go_num, link_next HH.out HVT.out HN.out HTK.out.1 HBT.out HO.out⟩
      | false =>
        rw [hb] at hbit
        have HBT := Lib.hid hb
        clear hb
        go_wp2_with fail
        go_roundg (gk - 1)
        case measure => have := HGK.out; omega
        case rel => exact ⟨k + 1, by have := HGK.out; omega, by go_num, link_skip HH.out HTK.out HBT.out⟩
    · have i1 : (n : Int) ≤ k := by omega
      clear hgk
      go_wp2
      go_end0
      refine ⟨rfl, ⟨va, vt, vs, HH.out.pat, ?_⟩, HH.out.below, HH.out.tys⟩
      have := HH.out.row
      rwa [mixL_end _ _ _ _ (by rw [HN.out]; omega)] at this
end Go.Proofs.Ytfpdhmecomgbdaa
