/- Rows of several lists, one by one: the walks. -/
import Derived.Test.YtlnlbahggbbaeaaGreatMlg
import Derived.Test.YtlnlbahggbbaeaaGreatMlh
import Derived.Maps.AppendAt
namespace Go.Proofs.YtlnlbahggbbaeaaGreat.Mrg
open Go.RowKit Go.Lib Go.Shelf Go.Proofs.YtlnlbahggbbaeaaGreat Go.Proofs.YtlnlbahggbbaeaaGreat.Vec Go.Proofs.YtlnlbahggbbaeaaGreat.Stb

attribute [local go_sem] Oper.semAt_some

theorem own_turns {A B : World} {N s k : Nat} {e : TypeId} {v : Value} {xs : List Value} {T : Nat → Prop} (h : A.ownsRow N e s v k xs) (ht : Turns (FreeT T N A) A B) (hT : ∀ r, T r → r < N) : B.ownsRow N e s v k xs := by
  refine ⟨h.1, ?_⟩
  rcases h.2 with h2 | ⟨g, cap, cur, h2, h3, h4, h5⟩
  · exact .inl h2
  · refine .inr ⟨g, cap, cur, h2, h3, kept_at ht h4 (fun hf => ?_), h5⟩
    rcases hf with hf | ⟨_, o, ho, hc⟩
    · have := hT g hf; omega
    · rw [h4] at ho; cases ho; cases hc
theorem box_turns {A B : World} {N b : Nat} {t : TypeId} {v : Value} {T : Nat → Prop} (h : Boxed A b t v) (ht : Turns (FreeT T N A) A B) (hT : ¬ T b) (hb : b < N) : Boxed B b t v :=
  kept_at ht (show A.heap[b]? = _ from h) (fun hf => by
    rcases hf with hf | ⟨hf, _⟩
    · exact hT hf
    · omega)
theorem below_turns {A B w : World} {N r : Nat} {T : Nat → Prop} (h : Below r w A) (ht : Turns (FreeT T N A) A B) (hT : ∀ k, T k → r ≤ k) (hr : r ≤ N) (hz : r ≤ A.heap.size) : Below r w B :=
  h.trans (ht.below hz (fun k hf => by
    rcases hf with hf | ⟨hf, _⟩
    · exact hT k hf
    · omega))
/-- Behind an append to a row of one's own, and the store into its box: all that is owed. -/
theorem own_put {W w1 : World} {N b s k m r : Nat} {t e : TypeId} {v v' : Value} {xs ys : List Value} {tmp : Obj} (hv : Boxed W b t v) (hb : b < N) (hr : r ≤ b) (hN : N ≤ W.heap.size)
    (hrow : W.ownsRow N e s v k xs) (hown : w1.ownsRow N e s v' m ys) (hg : (W.alloc tmp).grownBy w1 v.ownBlock) :
    Boxed w1 b t v ∧ Boxed (w1.setCell ⟨b, 0, none⟩ v') b t v' ∧ (w1.setCell ⟨b, 0, none⟩ v').ownsRow N e s v' m ys ∧ KeepsFrom N W (w1.setCell ⟨b, 0, none⟩ v') ∧ Turns (fun k => k = b ∨ N ≤ k) W (w1.setCell ⟨b, 0, none⟩ v') ∧ Below r W (w1.setCell ⟨b, 0, none⟩ v') := by
  have hlt : ∀ g, v.ownBlock = some g → N ≤ g := fun g hg2 => (hrow.lt g hg2).1
  have t1 : Turns (fun k => k = b ∨ N ≤ k) W w1 := (Turns.alloc W tmp).trans (Turns.of_grown hg (fun g e2 => .inr (hlt g e2)))
  have t2 : Turns (fun k => k = b ∨ N ≤ k) W (w1.setCell ⟨b, 0, none⟩ v') := t1.trans (Turns.set (T := fun k => k = b ∨ N ≤ k) w1 ⟨b, 0, none⟩ v' (.inl rfl))
  have hv1 : Boxed w1 b t v := (hv.alloc tmp).kept hg (fun e2 => by have := hlt b e2.symm; omega)
  refine ⟨hv1, hv1.set v', ownsRow_setCell_below hown hb v', ⟨t2.size, fun j o hj ho hc => ?_⟩, t2, t2.below (by omega) (fun j hj => by rcases hj with hj | hj <;> omega)⟩
  rw [Below.heap_setCell _ _ _ _ (show j ≠ b by omega), hg.block j (by have := (Array.getElem?_eq_some_iff.1 ho).1; simp; omega) (fun e2 => ?_), Below.heap_alloc _ _ _ (Array.getElem?_eq_some_iff.1 ho).1]
  · exact ho
  · rcases hrow.2 with ⟨rfl, _⟩ | ⟨g, cap, cur, rfl, _, hgb, _⟩
    · cases e2
    · obtain rfl : j = g := by simpa [Value.ownBlock] using e2
      rw [hgb] at ho; cases ho; cases hc

set_option maxHeartbeats 8000000 in
set_option maxRecDepth 100000 in
theorem heads_list (by_ : Int) (o : Option Addr) (n cp B : Nat) (ms : List Ls) (w : World) (hn : ms.length = n) (h2 : n ≤ 1000) (hS : ListS w B o ms) (hN : (mergeH by_ (lsx ms)).length ≤ 100000) :
    Calls Tryz.prog 8 #[.int .i64 by_, .slice o n cp] w fun e w' => (∃ v, e = .returned v ∧ w'.ownsRow w.heap.size 3 1 v (mergeH by_ (lsx ms)).length ((mergeH by_ (lsx ms)).map fun p => .int .i64 (p.1 : Nat))) ∧ Below w.heap.size w w' := by
  obtain ⟨all, hall⟩ : ∃ all, mergeH by_ (lsx ms) = all := ⟨_, rfl⟩
  rw [hall] at hN ⊢
  refine (callsIn_wide (n := 6)).1 ?_
  refine callsIn_of_wp_marks Tryz.func8 rfl trivial ?_ rfl
  simp only [Tryz.ntmps8, List.size_toArray, List.length_cons, List.length_nil, Nat.reduceAdd, Nat.reduceSub, Array.replicate_succ, Array.replicate_zero, List.push_toArray, List.append_toArray, List.nil_append, List.cons_append]
  obtain ⟨i0, hi, hz0, hz1, hz2⟩ := info_parts infoInt
  obtain ⟨ra, hra⟩ : ∃ r, w.heap.size = r := ⟨_, rfl⟩
  obtain ⟨wA, hwA⟩ : ∃ wA, w.alloc (Obj.cells #[Value.slice none 0 0] 40) = wA := ⟨_, rfl⟩
  have hBA : Below ra w wA := by rw [← hwA, ← hra]; exact (Below.refl _ w).alloc (Nat.le_refl _) _
  have hzA : wA.heap.size = ra + 1 := by rw [← hwA, World.size_alloc, hra]
  have bA : Boxed wA ra 40 (.slice none 0 0) := by rw [← hwA, ← hra]; exact Boxed.new w _ _
  have HNT := Lib.hid (tree_seq by_ o n cp B ms w wA hn h2 hS (by rw [hra]; exact hBA))
  gi_wp2
  refine ⟨trivial, (callsIn_wide.2 HNT.out).mono ?_⟩
  rintro e w1 ⟨tb, T, rfl, hsf, hb1⟩
  clear hwA HNT
  gi_wp2
  refine ⟨trivial, (callsIn_wide.2 (heads_any tb w1)).mono ?_⟩
  rintro e w2 ⟨rfl, rfl⟩
  gi_wp2
  obtain ⟨Bt, hBt⟩ : ∃ Bt, w1.heap.size = Bt := ⟨_, rfl⟩
  have hz1' := hb1.size
  have hb3 : Below ra w (w1.alloc (Obj.cells #[Value.pointer (some { block := tb, off := 0 })] 57)) := (hBA.trans (hb1.mono (by omega))).alloc (by omega) _
  have hw3 := (Below.refl w1.heap.size w1).alloc (Nat.le_refl _) (Obj.cells #[Value.pointer (some { block := tb, off := 0 })] 57)
  have bA3 := (show Boxed w1 ra 40 (.slice none 0 0) from (hb1.block ra (by omega)).trans bA).alloc (Obj.cells #[Value.pointer (some { block := tb, off := 0 })] 57)
  have bB3 := Boxed.new w1 57 (.pointer (some ⟨tb, 0, none⟩))
  have hz3 : (w1.alloc (Obj.cells #[Value.pointer (some { block := tb, off := 0 })] 57)).heap.size = Bt + 1 := by rw [World.size_alloc, hBt]
  rw [hBt] at bB3
  obtain ⟨W3, hW3⟩ : ∃ W3, w1.alloc (Obj.cells #[Value.pointer (some { block := tb, off := 0 })] 57) = W3 := ⟨_, rfl⟩
  rw [hW3] at hb3 hw3 bA3 bB3 hz3 ⊢
  rw [hBt]
  have hT : ∀ r, T r → ra + 1 ≤ r ∧ r < Bt := fun r hr => by have := hsf.own r hr; omega
  clear hW3
  have hst := hsf.seq ra Bt W3 hw3 bB3.cell (by omega) (by omega) (by omega) (by omega)
  rw [hall] at hst
  refine range_T rfl (by decide : 1 ≤ 6) (gf := 72) (lb := #[.pointer (some ⟨Bt, 0, none⟩)]) rfl trivial (enters_of Tryz.func72 (by kernel_rfl) rfl)
    hst (fun h k => Turns.trans h k) (fun W l o o' hl _ _ => Turns.put _ _ _ (.inr hl)) (Below.refl _ _) VH.size (fun r hr => by have := hT r hr; omega)
    (fun k W => (∃ v, Boxed W ra 40 v ∧ W.ownsRow (Bt + 1) 3 1 v k ((all.take k).map fun p => .int .i64 (p.1 : Nat))) ∧ Below ra w W ∧ Bt + 1 ≤ W.heap.size)
    (fun k A B2 ⟨⟨v, hv, hr⟩, hb, hz⟩ ht => by
      rw [hz3] at ht
      exact ⟨⟨v, box_turns hv ht (fun hr => by have := hT _ hr; omega) (by omega), own_turns hr ht (fun r hr => by have := hT r hr; omega)⟩, below_turns hb ht (fun k hk => by have := hT k hk; omega) (by omega) (by have := hv.lt; omega), Nat.le_trans hz ht.size⟩)
    ⟨⟨_, bA3, by rw [List.take_zero]; exact World.ownsRow_nil _ _ _ _⟩, hb3, by omega⟩
    (fun k a' _ => ∃ (p : Nat × Rw) (u : Value), all[k]? = some p ∧ a' = { tmps := #[.int .i64 by_, .slice o n cp, undef, undef, .slice none 0 0, .pointer (some ⟨ra, 0, none⟩), .int .i64 (p.1 : Nat), .int .i64 by_, .slice o n cp, .pointer (some ⟨tb, 0, none⟩), .func (.func 72) #[] #[.pointer (some ⟨Bt, 0, none⟩)], .int .i64 (p.1 : Nat), u, undef, undef, undef, undef, undef], defers := [] })
    (fun _ _ _ _ h _ => h) ?assign ?body ?done
  case assign =>
    rintro l k v W K hI hk ⟨p, x, o2, c2, hak, rfl, _, _⟩ hK
    gi_wp2
    exact hK _ _ (KeepsFrom.refl _ _) (Turns.refl _ _) hI ⟨(p, x), _, hak, rfl⟩
  case body =>
    rintro l k a' W hl ⟨⟨v, hv, hr⟩, hb, hsz⟩ ⟨p, u, hak, rfl⟩ hk
    obtain ⟨ov, cv, rfl⟩ := row_form hr
    have hvc := hv.cell
    have hvf := hv.frozen
    have hkl : k + 1 ≤ 100000 := by omega
    gi_wp2_with (gi_at_builtin; refine wpListIn_append_own _ rfl _ _ 40 rfl (Bt + 1) 3 i0 (.int .i64 0) 1 8 Tryz.underlying40 hi hz0 hz1 hz2 rfl (by decide) _ _ _ rfl (hr.alloc _) ⟨W.heap.size, 0, none⟩ 1 1 [.int .i64 (p.1 : Nat)] rfl rfl (cell_one _ _ _) (by simp [Value.oneCell']) (by unfold maxLen; omega) (by omega) (by simp; omega) ?_; intro v' w5 hown' hgrow _; obtain ⟨g', cap', rfl⟩ := ownsRow_succ hown'; obtain ⟨q1, q2, q3, q4, q5, q6⟩ := own_put hv (show ra < Bt + 1 by omega) (Nat.le_refl ra) hsz hr hown' hgrow; have hc1 := q1.cell; have hf1 := q1.frozen)
    refine ⟨by rw [hz3]; exact q4, by rw [hz3]; exact q5, ⟨_, q2, ?_⟩, hb.trans q6, Nat.le_trans hsz q5.size⟩
    rw [take_atG hak, List.map_append]
    exact q3
  case done =>
    rintro D W hD ⟨⟨v, hv, hr⟩, hb, hsz⟩ hK
    rw [List.take_length] at hr
    have hvc := hv.cell
    gi_wp2
    refine ⟨by simp, .inl ⟨_, _, rfl, run_takeDeferred hK, ?_⟩⟩
    refine ⟨_, results_tmp rfl _ _ _, ⟨v, rfl, ?_⟩, ?_⟩
    · exact ownsRow_putObj (own_low hr (by omega)) _ hK rfl
    · rw [hra]
      exact hb.trans ((Below.refl ra W).grown (grownBy_putObj' W D (.deferred none)) (by omega) (fun k e => by cases e; omega))
end Go.Proofs.YtlnlbahggbbaeaaGreat.Mrg
