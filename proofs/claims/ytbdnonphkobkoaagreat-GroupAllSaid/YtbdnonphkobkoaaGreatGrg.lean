/- Groups that stand one behind the other are joined: the walk. -/
import Derived.Test.YtbdnonphkobkoaaGreatGre
import Derived.Test.YtbdnonphkobkoaaGreatGi
import Derived.Test.YtbdnonphkobkoaaGreatLsm
import Derived.Deep.RegionLawGrows
import Derived.Deep.AppendLies
namespace Go.Proofs.YtbdnonphkobkoaaGreat.Grp
open Go.RowKit Go.Lib Go.Sort Vec

theorem joinR_snoc (l : List Grp) (g : Grp) : joinR (l ++ [g]) = joinF (joinR l) g := by unfold joinR; rw [List.foldl_append]; rfl
theorem joinF_flat (acc : List Grp) (g : Grp) : ((joinF acc g).map (·.2)).flatten = (acc.map (·.2)).flatten ++ g.2 := by
  rcases snoc_cases acc with rfl | ⟨A, l, rfl⟩
  · rw [joinF_nil]; simp
  · rw [joinF_snoc]; split <;> simp
theorem join_flat_go : ∀ (l acc : List Grp), ((l.foldl joinF acc).map (·.2)).flatten = (acc.map (·.2)).flatten ++ (l.map (·.2)).flatten
  | [], acc => by simp
  | g :: l, acc => by rw [List.foldl_cons, join_flat_go l, joinF_flat]; simp
theorem joinR_flat (l : List Grp) : ((joinR l).map (·.2)).flatten = (l.map (·.2)).flatten := by
  unfold joinR; rw [join_flat_go]; rfl
theorem joinF_ne {acc : List Grp} {g : Grp} (h : ∀ a ∈ acc, a.2 ≠ []) (hg : g.2 ≠ []) : ∀ a ∈ joinF acc g, a.2 ≠ [] := by
  intro a ha
  rcases snoc_cases acc with rfl | ⟨A, l, rfl⟩
  · rw [joinF_nil] at ha; simp at ha; subst ha; exact hg
  · rw [joinF_snoc] at ha
    split at ha
    · rcases List.mem_append.1 ha with ha | ha
      · exact h a (by simp [ha])
      · simp at ha; subst ha; simp [hg]
    · rcases List.mem_append.1 ha with ha | ha
      · exact h a ha
      · simp at ha; subst ha; exact hg
theorem join_ne_go : ∀ (l acc : List Grp), (∀ a ∈ acc, a.2 ≠ []) → (∀ a ∈ l, a.2 ≠ []) → ∀ a ∈ l.foldl joinF acc, a.2 ≠ []
  | [], acc, h, _ => h
  | g :: l, acc, h, h2 => by rw [List.foldl_cons]; exact join_ne_go l _ (joinF_ne h (h2 g (by simp))) fun a ha => h2 a (by simp [ha])
theorem joinR_ne (l : List Grp) (h : ∀ a ∈ l, a.2 ≠ []) : ∀ a ∈ joinR l, a.2 ≠ [] := join_ne_go l [] (fun _ h => absurd h (by simp)) h
theorem ones_flat : ∀ xs : List One, ((xs.map oneOf).map (·.2)).flatten.length = xs.length
  | [] => rfl
  | x :: xs => by
    have := ones_flat xs
    simp only [List.map_cons, List.flatten_cons, List.length_append, List.length_cons, oneOf, List.length_nil] at this ⊢
    omega
theorem join_small (xs : List One) : (joinR (xs.map oneOf)).length ≤ xs.length ∧ ∀ g ∈ joinR (xs.map oneOf), g.2.length ≤ xs.length := by
  have hf := joinR_flat (xs.map oneOf)
  have hne := joinR_ne (xs.map oneOf) (fun a ha => by obtain ⟨x, _, rfl⟩ := List.mem_map.1 ha; simp [oneOf])
  constructor
  · have := flat_len _ hne
    rwa [hf, ones_flat] at this
  · intro g hg
    have := part_len _ g.2 (List.mem_map.2 ⟨g, hg, rfl⟩)
    rwa [hf, ones_flat] at this

/-- The rows of the last group: still of one row, or in a row of the call's own. -/
def RowSt (D : Nat) (w : World) (vR : Value) (rows : List Rw) : Prop :=
  (∃ b x, vR = .slice (some ⟨b, 0, none⟩) 1 1 ∧ rows = [x] ∧ RowAt w b x) ∨ (∃ g c us, vR = .slice (some ⟨g, 0, none⟩) rows.length c ∧ OwnR w D vR us rows)

theorem RowSt.grp {D : Nat} {w : World} {vR : Value} {L : Grp} {oK : Option Addr} {cK : Nat} (h : RowSt D w vR L.2) (h1 : LabS w 0 oK L.1) (h2 : L.1.length ≤ maxLen) (hne : L.2 ≠ []) : EGrp w.heap.size w [.slice oK L.1.length cK, vR] L := by
  rcases h with ⟨b, x, rfl, hx, oL, cL, m, r1, r2, r3⟩ | ⟨g, c, us, hv, ho⟩
  · have := (show EOne w [.slice oK L.1.length cK, .slice (some ⟨b, 0, none⟩) 1 1] (L.1, x) from ⟨oK, cK, b, oL, cL, m, rfl, h1, h2, r1, r2, r3⟩).grp (Nat.le_refl _)
    have e : oneOf (L.1, x) = L := by unfold oneOf; rw [← hx]
    rwa [e] at this
  · obtain ⟨o2, c2, e2, hs, hl⟩ := ho.sees frow
    obtain ⟨cs, m, hb⟩ := (own_row ho.own g (by rw [hv]; rfl)).2
    rw [hv] at e2
    obtain ⟨e3, -, -⟩ := Value.slice.inj e2
    rcases hs with hs | ⟨b, off, e4, hs⟩
    · exact absurd hs hne
    · rw [← e3] at e4
      cases e4
      exact ⟨oK, cK, g, c, cs, m, by rw [hv], h1, h2, heap_lt hb, hb, hs, hl⟩

structure LastAt (B0 : Nat) (w : World) (g cap D : Nat) (usA : List (List Value)) (oK : Option Addr) (cK : Nat) (vR : Value) (A : List Grp) (L : Grp) : Prop where
  own : w.ownsRow B0 115 2 (.slice (some ⟨g, 0, none⟩) (A.length + 1) cap) (A.length + 1) (usA.flatten ++ [.slice oK L.1.length cK, vR])
  len : usA.length = A.length
  one : ∀ (j : Nat) (x : Grp), A[j]? = some x → ∃ u, usA[j]? = some u ∧ EGrp D w u x
  lab : LabS w 0 oK L.1
  lim : L.1.length ≤ maxLen
  low : D ≤ w.heap.size
  base : B0 ≤ D
  row : RowSt D w vR L.2

theorem LastAt.flatLen {B0 : Nat} {w : World} {g cap D : Nat} {usA : List (List Value)} {oK : Option Addr} {cK : Nat} {vR : Value} {A : List Grp} {L : Grp} (h : LastAt B0 w g cap D usA oK cK vR A L) : usA.flatten.length = A.length * 2 := by
  have := h.own.1
  simp only [List.length_append, List.length_cons, List.length_nil] at this
  omega
theorem RowAt.below {w w' : World} {b : Nat} {x : Rw} (h : RowAt w b x) (hb : Below w.heap.size w w') : RowAt w' b x := by
  obtain ⟨oL, cL, m, r1, r2, r3⟩ := h
  exact ⟨oL, cL, m, (hb.block b (heap_lt r1)).trans r1, r2.below hb, r3⟩
theorem RowSt.below {D : Nat} {w w' : World} {vR : Value} {rows : List Rw} (h : RowSt D w vR rows) (hb : Below w.heap.size w w') : RowSt D w' vR rows := by
  rcases h with ⟨b, x, e1, e2, h⟩ | ⟨g, c, us, e1, h⟩
  · exact .inl ⟨b, x, e1, e2, h.below hb⟩
  · exact .inr ⟨g, c, us, e1, h.below frow hb⟩
theorem LastAt.below {B0 : Nat} {w w' : World} {g cap D : Nat} {usA : List (List Value)} {oK : Option Addr} {cK : Nat} {vR : Value} {A : List Grp} {L : Grp} (h : LastAt B0 w g cap D usA oK cK vR A L) (hb : Below w.heap.size w w') : LastAt B0 w' g cap D usA oK cK vR A L :=
  ⟨own_grown h.own hb, h.len, fun j x hx => by obtain ⟨u, h1, h2⟩ := h.one j x hx; exact ⟨u, h1, (firmGrp (B := 0)).below _ _ _ _ h2 hb⟩, h.lab.below hb, h.lim, Nat.le_trans h.low hb.size, h.base, h.row.below hb⟩
/-- All groups so far, as they lie. -/
theorem LastAt.all {B0 : Nat} {w : World} {g cap D : Nat} {usA : List (List Value)} {oK : Option Addr} {cK : Nat} {vR : Value} {A : List Grp} {L : Grp} (h : LastAt B0 w g cap D usA oK cK vR A L) (hne : L.2 ≠ []) : OwnG (EGrp w.heap.size) 2 115 w B0 (.slice (some ⟨g, 0, none⟩) (A.length + 1) cap) (usA ++ [[.slice oK L.1.length cK, vR]]) (A ++ [L]) := by
  have hl := h.len
  refine ⟨by simp [hl], ?_, ?_⟩
  · rw [List.length_append, List.length_singleton, List.flatten_append, List.flatten_singleton, hl]
    exact h.own
  · intro j x hx
    by_cases hj : j < A.length
    · rw [List.getElem?_append_left hj] at hx
      obtain ⟨u, h1, h2⟩ := h.one j x hx
      exact ⟨u, by rw [List.getElem?_append_left (by omega)]; exact h1, h2.mono h.low⟩
    · have hj2 : j = A.length := by
        have := (List.getElem?_eq_some_iff.1 hx).1
        rw [List.length_append, List.length_singleton] at this
        omega
      subst hj2
      rw [List.getElem?_append_right (Nat.le_refl _), Nat.sub_self] at hx
      simp at hx
      subst hx
      exact ⟨_, by rw [← hl, List.getElem?_append_right (Nat.le_refl _), Nat.sub_self]; rfl, h.row.grp h.lab h.lim hne⟩

theorem ownR_kept {w w' : World} {D g : Nat} {v : Value} {us : List (List Value)} {xs : List Rw} (h : OwnR w D v us xs) (hg : w.grownBy w' (some g)) (ht : ∃ cs m, w.heap[g]? = some (.cells cs 115 m)) : OwnR w' D v us xs := by
  refine ⟨h.len, h.own.kept hg (.inr fun e => ?_), fun j x hx => ?_⟩
  · obtain ⟨cs, m, h1⟩ := (own_row h.own g e).2
    obtain ⟨cs2, m2, h2⟩ := ht
    rw [h1] at h2
    injection h2 with h3
    injection h3 with _ h4 _
    exact neRG h4
  · obtain ⟨u, h1, h2⟩ := h.one j x hx
    exact ⟨u, h1, (firmRow (t := 115) (B := 0) neLG).grown _ _ _ _ _ h2 (fun k hk => by cases hk; exact ⟨Nat.zero_le _, ht⟩) hg⟩

theorem form2 {w : World} {B n : Nat} {e : TypeId} {v : Value} {xs : List Value} (h : w.ownsRow B e 2 v (n + 1) xs) : ∃ g c, v = .slice (some ⟨g, 0, none⟩) (n + 1) c ∧ g < w.heap.size := by
  rcases h.2 with ⟨_, h0⟩ | ⟨g, c, cur, e1, _, hb, _⟩
  · omega
  · exact ⟨g, c, e1, heap_lt hb⟩
theorem _root_.Go.World.grownBy.below {w w' : World} (h : w.grownBy w' none) : Below w.heap.size w w' := ⟨h.os, h.tape, h.output, h.size, fun k hk => h.block k hk (fun e => by cases e)⟩
theorem frz {B0 : Nat} {w w' : World} {g cap D : Nat} {usA : List (List Value)} {oK : Option Addr} {cK : Nat} {vR : Value} {A : List Grp} {L : Grp} (h : LastAt B0 w g cap D usA oK cK vR A L) {row : Option Nat} (hg : w.grownBy w' row) (hr : ∀ k, row = some k → ∃ cs m, w.heap[k]? = some (.cells cs 53 m)) : w'.frozen? ⟨g, A.length * 2 + 1, none⟩ = false := by
  obtain ⟨cs, m, htg⟩ := (own_row h.own g rfl).2
  refine (h.own.kept hg (.inr fun e => ?_)).frozenAt _
  obtain ⟨cs2, m2, h2⟩ := hr g e.symm
  rw [htg] at h2
  injection h2 with h3
  injection h3 with _ h4 _
  exact neRG h4.symm

theorem RowSt.lt {D n c g : Nat} {w : World} {rows : List Rw} (h : RowSt D w (.slice (some ⟨g, 0, none⟩) n c) rows) : g < w.heap.size := by
  rcases h with ⟨b, x, e, _, oL, cL, m, r1, _⟩ | ⟨g', c', us, e, h⟩
  · cases e; exact heap_lt r1
  · obtain ⟨e1, _, _⟩ := Value.slice.inj e
    cases e1
    exact (h.own.lt g rfl).2

theorem gne {B0 : Nat} {w : World} {g cap D g2 n c : Nat} {usA us : List (List Value)} {oK : Option Addr} {cK : Nat} {vR : Value} {A : List Grp} {L : Grp} {rows : List Rw} (h : LastAt B0 w g cap D usA oK cK vR A L) (h2 : OwnR w D (.slice (some ⟨g2, 0, none⟩) n c) us rows) : g ≠ g2 := fun e => by
  subst e
  obtain ⟨cs, m, h3⟩ := (own_row h.own g rfl).2
  obtain ⟨cs2, m2, h4⟩ := (own_row h2.own g rfl).2
  rw [h3] at h4
  injection h4 with h5
  injection h5 with _ h6 _
  exact neRG h6.symm

/-- The last group's rows are written anew. -/
theorem LastAt.put {B0 : Nat} {w w' : World} {g cap D : Nat} {usA : List (List Value)} {oK : Option Addr} {cK : Nat} {vR : Value} {A : List Grp} {L : Grp} (h : LastAt B0 w g cap D usA oK cK vR A L) {D' g3 c3 : Nat} {usN : List (List Value)} {rows : List Rw} {row : Option Nat}
    (hown : OwnR w' D' (.slice (some ⟨g3, 0, none⟩) rows.length c3) usN rows) (hg : w.grownBy w' row) (hr : ∀ k, row = some k → D ≤ k ∧ ∃ cs m, w.heap[k]? = some (.cells cs 53 m)) (hD : D ≤ D') (hD2 : D' ≤ w'.heap.size) :
    LastAt B0 (w'.setCell ⟨g, A.length * 2 + 1, none⟩ (.slice (some ⟨g3, 0, none⟩) rows.length c3)) g cap D' usA oK cK (.slice (some ⟨g3, 0, none⟩) rows.length c3) A (L.1, rows) ∧ w'.grownBy (w'.setCell ⟨g, A.length * 2 + 1, none⟩ (.slice (some ⟨g3, 0, none⟩) rows.length c3)) (some g) := by
  obtain ⟨cs, m, htg⟩ := (own_row h.own g rfl).2
  have hne : some g ≠ row := fun e => by
    obtain ⟨cs2, m2, h2⟩ := (hr g e.symm).2
    rw [htg] at h2
    injection h2 with h3
    injection h3 with _ h4 _
    exact neRG h4.symm
  have ho1 := h.own.kept hg (.inr hne)
  have ht1 : ∃ cs m, w'.heap[g]? = some (.cells cs 115 m) := (own_row ho1 g rfl).2
  obtain ⟨ho2, hg2⟩ := ho1.stored (A.length * 2 + 1) (.slice (some ⟨g3, 0, none⟩) rows.length c3)
  have hfl := h.flatLen
  refine ⟨⟨?_, h.len, fun j x hx => ?_, ?_, h.lim, Nat.le_trans hD2 hg2.size, Nat.le_trans h.base hD, .inr ⟨g3, c3, usN, rfl, ownR_kept hown hg2 ht1⟩⟩, hg2⟩
  · have e : (usA.flatten ++ [.slice oK L.1.length cK, vR]).set (A.length * 2 + 1) (.slice (some ⟨g3, 0, none⟩) rows.length c3) = usA.flatten ++ [.slice oK L.1.length cK, .slice (some ⟨g3, 0, none⟩) rows.length c3] := by
      rw [List.set_append_right _ _ (by omega), hfl, show A.length * 2 + 1 - A.length * 2 = 1 by omega]
      rfl
    rw [e] at ho2
    exact ho2
  · obtain ⟨u, h1, h2⟩ := h.one j x hx
    exact ⟨u, h1, ((firmGrp (B := 0)).grown _ _ _ _ _ (h2.rows hr hg) (fun k hk => by cases hk; exact ⟨Nat.zero_le _, ht1⟩) hg2).mono hD⟩
  · exact (h.lab.grown neRow (fun k hk => ⟨Nat.zero_le _, (hr k hk).2⟩) hg).grown neLG (fun k hk => by cases hk; exact ⟨Nat.zero_le _, ht1⟩) hg2
end Go.Proofs.YtbdnonphkobkoaaGreat.Grp
