/- Rows of several lists, one by one: the walk. -/
import Derived.Test.YtlnlbahggbbaeaaGreatMli
import Derived.Deep.RegionHeld
import Derived.Deep.AppendLies
import Derived.Deep.RegionLaw
namespace Go.Proofs.YtlnlbahggbbaeaaGreat.Mrg
open Go.RowKit Go.Lib Go.Shelf Go.Proofs.YtlnlbahggbbaeaaGreat Go.Proofs.YtlnlbahggbbaeaaGreat.Vec Go.Proofs.YtlnlbahggbbaeaaGreat.Stb

attribute [local go_sem] Oper.semAt_some

/-- Labels of rows lie beyond N. -/
def LowS (N : Nat) (us : List (List Value)) : Prop := ∀ u ∈ us, ∀ b off n c, u[0]? = some (.slice (some ⟨b, off, none⟩) n c) → N ≤ b
theorem labs_block {A B : World} {C : Nat} {o : Option Addr} {l : Labs} (h : LabS A C o l) (hb : ∀ b off, o = some ⟨b, off, none⟩ → b < A.heap.size → (∃ cs m, A.heap[b]? = some (.cells cs 99 m)) ∨ b < C → B.heap[b]? = A.heap[b]?) (hz : A.heap.size ≤ B.heap.size) : LabS B C o l := by
  by_cases hl : l = []
  · subst hl; exact ⟨.inl rfl, fun h => absurd rfl h⟩
  have key : ∀ b off, o = some ⟨b, off, none⟩ → b < A.heap.size → B.heap[b]? = A.heap[b]? := fun b off e hlt => hb b off e hlt (by
    rcases h.far hl b off e with h1 | h1
    · exact .inr h1
    · exact .inl h1)
  refine ⟨?_, fun _ b off e => ?_⟩
  · rcases h.sees with h3 | ⟨b, off, e, hS⟩
    · exact .inl h3
    · exact .inr ⟨b, off, e, Nat.lt_of_lt_of_le hS.low hz, fun j x hx => (cell_same (key b off e hS.low)).trans (hS.at0 j x hx), fun j x hx => (cell_same (key b off e hS.low)).trans (hS.at1 j x hx)⟩
  · rcases h.far hl b off e with h1 | ⟨cs, m, hh⟩
    · exact .inl h1
    · exact .inr ⟨cs, m, (key b off e (Array.getElem?_eq_some_iff.1 hh).1).trans hh⟩
theorem rows_turns {A B : World} {N : Nat} {v : Value} {us : List (List Value)} {xs : List Rw} {T : Nat → Prop} (h : OwnR A N v us xs) (hl : LowS N us) (ht : Turns (FreeT T N A) A B) (hT : ∀ r, T r → r < N) : OwnR B N v us xs := by
  refine ⟨h.len, own_turns h.own ht hT, fun j x hx => ?_⟩
  obtain ⟨u, h1, o, c, rfl, hL, hm⟩ := h.one j x hx
  refine ⟨_, h1, o, c, rfl, labs_block hL (fun b off e hlt hc => ht.block b hlt (fun hf => ?_)) ht.size, hm⟩
  subst e
  have hb := hl _ (List.mem_of_getElem? h1) b off _ _ rfl
  rcases hf with hf | ⟨_, ob, ho, hc2⟩
  · have := hT b hf; omega
  · rcases hc with ⟨cs, m, hc⟩ | hc
    · rw [hc] at ho; cases ho; cases hc2
    · omega
theorem cell_two (w : World) (a b : Value) (t : TypeId) : ∀ j u, [a, b][j]? = some u → (w.alloc (.cells #[a, b] t)).cell? ((⟨w.heap.size, 0, none⟩ : Addr).add j) = some u := by
  intro j u hj
  match j, hj with
  | 0, hj => simp at hj; subst hj; simp [Addr.add]
  | 1, hj => simp at hj; subst hj; simp [Addr.add]
  | j + 2, hj => simp at hj
/-- A row is put behind those that there are: all that is owed. -/
theorem row_put {W w1 : World} {N b r k : Nat} {v v' : Value} {us : List (List Value)} {xs : List Rw} {x : Rw} {o2 : Option Addr} {c2 : Nat} {tmp : Obj} (hv : Boxed W b 25 v) (hb : b < N) (hr : r ≤ b) (hN : N ≤ W.heap.size)
    (hrow : OwnR W N v us xs) (hk : us.length = k) (hlow : LowS N us) (hL : LabS W 0 o2 x.1) (hm : x.1.length ≤ maxLen) (hlo : ∀ b off, o2 = some ⟨b, off, none⟩ → N ≤ b)
    (hown : w1.ownsRow N 51 2 v' (k + 1) (us.flatten ++ [.slice o2 x.1.length c2, .int .i64 x.2])) (hg : (W.alloc tmp).grownBy w1 v.ownBlock) :
    Boxed w1 b 25 v ∧ (∃ us2, us2.length = k + 1 ∧ LowS N us2 ∧ Boxed (w1.setCell ⟨b, 0, none⟩ v') b 25 v' ∧ OwnR (w1.setCell ⟨b, 0, none⟩ v') N v' us2 (xs ++ [x])) ∧ KeepsFrom N W (w1.setCell ⟨b, 0, none⟩ v') ∧ Turns (fun k => k = b ∨ N ≤ k) W (w1.setCell ⟨b, 0, none⟩ v') ∧ Below r W (w1.setCell ⟨b, 0, none⟩ v') := by
  subst hk
  obtain ⟨q1, q2, q3, q4, q5, q6⟩ := own_put hv hb hr hN hrow.own hown hg
  refine ⟨q1, ⟨us ++ [[.slice o2 x.1.length c2, .int .i64 x.2]], by simp, fun u hu b off n c hh => ?_, q2, ?_⟩, q4, q5, q6⟩
  · rcases List.mem_append.1 hu with hu | hu
    · exact hlow u hu b off n c hh
    · simp at hu
      subst hu
      simp at hh
      exact hlo b off hh.1
  · have h1 : OwnR w1 N v' (us ++ [[.slice o2 x.1.length c2, .int .i64 x.2]]) (xs ++ [x]) := (hrow.below frow ((Below.refl _ W).alloc (Nat.le_refl _) tmp)).snoc frow (Nat.zero_le _) ⟨o2, c2, rfl, hL.below ((Below.refl _ W).alloc (Nat.le_refl _) tmp), hm⟩ hown hg
    refine rows_turns (T := fun r => r = b) h1 (fun u hu b2 off n c hh => ?_) ((Turns.set (T := fun r => r = b) w1 ⟨b, 0, none⟩ v' rfl).mono (fun k hk => .inl hk)) (fun r hr => by omega)
    rcases List.mem_append.1 hu with hu | hu
    · exact hlow u hu b2 off n c hh
    · simp at hu
      subst hu
      simp at hh
      exact hlo b2 off hh.1

/-- Rows that come are rows that were there. -/
theorem merge_sm {by_ : Int} {ms : List Ls} (h : ∀ m ∈ ms, SmR m.xs) : ∀ p ∈ mergeH by_ (lsx ms), SmL p.2.1 := fun p hp => by
  have h2 := mergeN_mem (swo_less by_) _ (lsx ms) p.2 (List.mem_map.2 ⟨p, hp, rfl⟩)
  obtain ⟨l, hl, hx⟩ := List.mem_flatten.1 h2
  unfold lsx at hl
  obtain ⟨m, hm, rfl⟩ := List.mem_map.1 hl
  exact h m hm p.2 hx

set_option maxHeartbeats 8000000 in
set_option maxRecDepth 100000 in
theorem rows_list (by_ : Int) (o : Option Addr) (n cp B : Nat) (ms : List Ls) (w : World) (hn : ms.length = n) (h2 : n ≤ 1000) (hS : ListS w B o ms) (hsm : ∀ m ∈ ms, SmR m.xs) (hN : (mergeH by_ (lsx ms)).length ≤ 100000) :
    Calls Tryz.prog 7 #[.int .i64 by_, .slice o n cp] w fun e w' => (∃ v us, e = .returned v ∧ OwnR w' w.heap.size v us ((mergeH by_ (lsx ms)).map (·.2))) ∧ Below w.heap.size w w' := by
  have hsa := merge_sm (by_ := by_) hsm
  obtain ⟨all, hall⟩ : ∃ all, mergeH by_ (lsx ms) = all := ⟨_, rfl⟩
  rw [hall] at hN hsa ⊢
  refine (callsIn_wide (n := 6)).1 ?_
  refine callsIn_of_wp_marks Tryz.func7 rfl trivial ?_ rfl
  simp only [Tryz.ntmps7, List.size_toArray, List.length_cons, List.length_nil, Nat.reduceAdd, Nat.reduceSub, Array.replicate_succ, Array.replicate_zero, List.push_toArray, List.append_toArray, List.nil_append, List.cons_append]
  obtain ⟨i0, hi, hz0, hz1, hz2⟩ := info_parts infoRow
  obtain ⟨ra, hra⟩ : ∃ r, w.heap.size = r := ⟨_, rfl⟩
  obtain ⟨wA, hwA⟩ : ∃ wA, w.alloc (Obj.cells #[Value.slice none 0 0] 25) = wA := ⟨_, rfl⟩
  have hBA : Below ra w wA := by rw [← hwA, ← hra]; exact (Below.refl _ w).alloc (Nat.le_refl _) _
  have hzA : wA.heap.size = ra + 1 := by rw [← hwA, World.size_alloc, hra]
  have bA : Boxed wA ra 25 (.slice none 0 0) := by rw [← hwA, ← hra]; exact Boxed.new w _ _
  have HNT := Lib.hid (tree_seq by_ o n cp B ms w wA hn h2 hS (by rw [hra]; exact hBA))
  gi_wp2
  refine ⟨trivial, (callsIn_wide.2 HNT.out).mono ?_⟩
  rintro e w1 ⟨tb, T, rfl, hsf, hb1⟩
  clear hwA HNT
  gi_wp2
  refine ⟨trivial, (callsIn_wide.2 (heads_any tb w1)).mono ?_⟩
  rintro e w2 ⟨rfl, rfl⟩
  gi_wp2
  obtain ⟨Bt, hBt⟩ : ∃ Bt, w1.heap.size = Bt := ⟨_, rfl⟩
  have hz1' := hb1.size
  have hb3 : Below ra w (w1.alloc (Obj.cells #[Value.pointer (some { block := tb, off := 0 })] 57)) := (hBA.trans (hb1.mono (by omega))).alloc (by omega) _
  have hw3 := (Below.refl w1.heap.size w1).alloc (Nat.le_refl _) (Obj.cells #[Value.pointer (some { block := tb, off := 0 })] 57)
  have bA3 := (show Boxed w1 ra 25 (.slice none 0 0) from (hb1.block ra (by omega)).trans bA).alloc (Obj.cells #[Value.pointer (some { block := tb, off := 0 })] 57)
  have bB3 := Boxed.new w1 57 (.pointer (some ⟨tb, 0, none⟩))
  have hz3 : (w1.alloc (Obj.cells #[Value.pointer (some { block := tb, off := 0 })] 57)).heap.size = Bt + 1 := by rw [World.size_alloc, hBt]
  rw [hBt] at bB3
  obtain ⟨W3, hW3⟩ : ∃ W3, w1.alloc (Obj.cells #[Value.pointer (some { block := tb, off := 0 })] 57) = W3 := ⟨_, rfl⟩
  rw [hW3] at hb3 hw3 bA3 bB3 hz3 ⊢
  rw [hBt]
  have hT : ∀ r, T r → ra + 1 ≤ r ∧ r < Bt := fun r hr => by have := hsf.own r hr; omega
  clear hW3
  have hst := hsf.seq ra Bt W3 hw3 bB3.cell (by omega) (by omega) (by omega) (by omega)
  rw [hall] at hst
  refine range_T rfl (by decide : 1 ≤ 6) (gf := 72) (lb := #[.pointer (some ⟨Bt, 0, none⟩)]) rfl trivial (enters_of Tryz.func72 (by kernel_rfl) rfl)
    hst (fun h k => Turns.trans h k) (fun W l o o' hl _ _ => Turns.put _ _ _ (.inr hl)) (Below.refl _ _) VH.size (fun r hr => by have := hT r hr; omega)
    (fun k W => (∃ v us, us.length = k ∧ LowS (Bt + 1) us ∧ Boxed W ra 25 v ∧ OwnR W (Bt + 1) v us ((all.take k).map (·.2))) ∧ Below ra w W ∧ Bt + 1 ≤ W.heap.size)
    (fun k A B2 ⟨⟨v, us, hu, hlo, hv, hr⟩, hb, hz⟩ ht => by
      rw [hz3] at ht
      exact ⟨⟨v, us, hu, hlo, box_turns hv ht (fun hr => by have := hT _ hr; omega) (by omega), rows_turns hr hlo ht (fun r hr => by have := hT r hr; omega)⟩, below_turns hb ht (fun k hk => by have := hT k hk; omega) (by omega) (by have := hv.lt; omega), Nat.le_trans hz ht.size⟩)
    ⟨⟨_, [], rfl, fun u hu => (by cases hu), bA3, by rw [List.take_zero]; exact OwnG.nil _ _⟩, hb3, by omega⟩
    (fun k a' W' => ∃ (Bx : Nat) (p : Nat × Rw) (o2 : Option Addr) (c2 : Nat) (u u2 : Value), Bt + 1 ≤ Bx ∧ W'.heap[Bx]? = some (.cells #[.slice o2 p.2.1.length c2, .int .i64 p.2.2] 51 (0, 0)) ∧ all[k]? = some p ∧ LabS w B o2 p.2.1 ∧ p.2.1.length ≤ maxLen ∧ (∀ z, W'.cell? ⟨ra, 0, none⟩ = some z → z.ownBlock ≠ some Bx) ∧ a' = { tmps := #[.int .i64 by_, .slice o n cp, undef, undef, .slice none 0 0, .pointer (some ⟨ra, 0, none⟩), undef, .pointer (some ⟨Bx, 0, none⟩), .int .i64 by_, .slice o n cp, .pointer (some ⟨tb, 0, none⟩), .func (.func 72) #[] #[.pointer (some ⟨Bt, 0, none⟩)], u, u2, undef, undef, undef, undef, undef, undef, undef, undef, undef, undef], defers := [] })
    (fun k a A B2 ⟨Bx, p, o2, c2, u, u2, g1, g2, g3, g4, g5, g6, g7⟩ ht => by
      rw [hz3] at ht
      have hlt := (Array.getElem?_eq_some_iff.1 g2).1
      refine ⟨Bx, p, o2, c2, u, u2, g1, kept_at ht g2 (fun hf => ?_), g3, g4, g5, fun z hz => g6 z ?_, g7⟩
      rotate_left
      · rw [← hz]
        exact (World.cell?_of_block (a := ⟨ra, 0, none⟩) (ht.block ra (by omega) (fun hf => by
          rcases hf with hf | ⟨hf, _⟩
          · have := hT _ hf; omega
          · omega))).symm
      rcases hf with hf | ⟨_, ob, ho, hc⟩
      · have := hT _ hf; omega
      · rw [g2] at ho; cases ho; cases hc) ?assign ?body ?done
  case assign =>
    rintro l k v W K ⟨⟨v0, us, hu, hlo, hv0, hr⟩, hb, hz⟩ hk ⟨p, x, o2, c2, hak, rfl, hL, hm⟩ hK
    gi_wp2
    exact hK _ _ ((KeepsOthers.alloc W _).from _) (Turns.alloc _ _) ⟨⟨v0, us, hu, hlo, hv0.alloc _, hr.below frow ((Below.refl _ W).alloc (Nat.le_refl _) _)⟩, hb.alloc (by have := hv0.lt; omega) _, by rw [World.size_alloc]; omega⟩ ⟨W.heap.size, (p, x), o2, c2, _, _, hz, World.alloc_heap_new W _, hak, hL, hm, fun z hz2 e => by
      rw [(hv0.alloc _).cell] at hz2
      cases hz2
      have := (hr.own.lt _ e).2; omega, rfl⟩
  case body =>
    rintro l k a' W hl ⟨⟨v, us, hulen, hlow, hv, hr⟩, hb, hsz⟩ ⟨Bx, p, o2, c2, u, u2, hBx, hx, hak, hL, hm, hne, rfl⟩ hk
    obtain ⟨nL, hnL⟩ : ∃ nL, p.2.1.length = nL := ⟨_, rfl⟩
    obtain ⟨vx, hvx⟩ : ∃ vx, p.2.2 = vx := ⟨_, rfl⟩
    rw [hnL, hvx] at hx
    have hsl := hsa p (List.mem_of_getElem? hak)
    obtain ⟨ov, cv, hve⟩ : ∃ o c, v = .slice o k c := by
      obtain ⟨o, c, e, _⟩ := hr.sees frow
      have e2 := hr.len
      exact ⟨o, c, by rw [e, ← e2, hulen]⟩
    subst hve
    have hvc := hv.cell
    have hHeld : W.drew.cell? ⟨Bx, 0, none⟩ = some (.slice o2 nL c2) ∧ W.drew.cell? ⟨Bx, 1, none⟩ = some (.int .i64 vx) := by
      constructor
      · show W.cell? ⟨Bx, 0, none⟩ = _
        simp [World.cell?, hx]
      · show W.cell? ⟨Bx, 1, none⟩ = _
        simp [World.cell?, hx]
    have hS0 := Lib.hid hHeld
    have hxv := hne _ hvc
    have HC : Hid (Calls Tryz.prog 23 #[.slice o2 nL c2, .slice none 0 0] W.drew fun e w' => ∃ o3 c3, e = .returned (.slice o3 nL c3) ∧ (w'.cell? ⟨Bx, 0, none⟩ = some (.slice o2 nL c2) ∧ w'.cell? ⟨Bx, 1, none⟩ = some (.int .i64 vx)) ∧ ((w'.alloc (Obj.cells #[.slice o3 nL c3, .int .i64 vx] 51)).cell? ⟨Bx, 0, none⟩ = some (.slice o2 nL c2) ∧ (w'.alloc (Obj.cells #[.slice o3 nL c3, .int .i64 vx] 51)).cell? ⟨Bx, 1, none⟩ = some (.int .i64 vx)) ∧ w'.cell? ⟨ra, 0, none⟩ = some (.slice ov k cv) ∧ (w'.alloc (Obj.cells #[.slice o3 nL c3, .int .i64 vx] 51)).cell? ⟨ra, 0, none⟩ = some (.slice ov k cv) ∧ Hid (Boxed w' ra 25 (.slice ov k cv) ∧ w'.ownsRow (Bt + 1) 51 2 (.slice ov k cv) k us.flatten ∧ OwnR w' (Bt + 1) (.slice ov k cv) us ((all.take k).map (·.2)) ∧ LabS w' 0 o3 p.2.1 ∧ (∀ b off, o3 = some ⟨b, off, none⟩ → Bt + 1 ≤ b) ∧ w'.heap[Bx]? = some (.cells #[.slice o2 nL c2, .int .i64 vx] 51 (0, 0)) ∧ Below W.heap.size W w')) := Lib.hid (by
      have hLW := hL.below (show Below w.heap.size w W.drew by rw [hra]; exact hb.drew)
      have hc := without_any o2 none c2 0 p.2.1 [] W.drew (by have := hsl.len; omega) (Nat.zero_le _) hLW.sees (seesNil _) (fun y hy => by have := hsl.sizes y hy; omega)
      rw [hnL] at hc
      refine hc.mono ?_
      rintro e w' ⟨⟨v5, rfl, h5⟩, hb5⟩
      rw [filter_out_nil] at h5
      obtain ⟨o3, c3, rfl, hl5, hm5⟩ := labs_own (C := 0) h5
      have hbw : Below W.heap.size W w' := ⟨hb5.os, hb5.tape, hb5.output, hb5.size, hb5.block⟩
      have hbx : w'.heap[Bx]? = some (.cells #[.slice o2 nL c2, .int .i64 vx] 51 (0, 0)) := (hbw.block Bx (Array.getElem?_eq_some_iff.1 hx).1).trans hx
      have hby : (w'.alloc (Obj.cells #[.slice o3 nL c3, .int .i64 vx] 51)).heap[Bx]? = some (.cells #[.slice o2 nL c2, .int .i64 vx] 51 (0, 0)) := (Below.heap_alloc w' _ _ (Array.getElem?_eq_some_iff.1 hbx).1).trans hbx
      have hvw : Boxed w' ra 25 (.slice ov k cv) := (hbw.block ra hv.lt).trans hv
      have ho : OwnR w' (Bt + 1) (.slice ov k cv) us ((all.take k).map (·.2)) := hr.below frow hbw
      refine ⟨o3, c3, by rw [hnL], ⟨by simp [World.cell?, hbx], by simp [World.cell?, hbx]⟩, ⟨by simp [World.cell?, hby], by simp [World.cell?, hby]⟩, hvw.cell, (hvw.alloc _).cell, hvw, by rw [← hulen]; rw [← hulen] at ho; exact ho.own, ho, hl5, fun b off e => ?_, hbx, hbw⟩
      have := (h5.lt b (by rw [e]; rfl)).1
      have : W.drew.heap.size = W.heap.size := rfl
      omega)
    have HV := Lib.hid hvc
    have HF := Lib.hid hv.frozen
    clear hne hr
    gi_wp2
    refine region_round (S := fun w' => w'.cell? ⟨Bx, 0, none⟩ = some (.slice o2 nL c2) ∧ w'.cell? ⟨Bx, 1, none⟩ = some (.int .i64 vx)) (by kernel_rfl) (by kernel_rfl) (fun ⟨a, w, h⟩ => h) ?_
    refine wpAnyH_take (i := 1) (v := ?_) rfl (by kernel_rfl) (by kernel_rfl) (by kernel_rfl) (fun _ _ _ h => h) (Or.inl ⟨by kernel_rfl, by intro w _; go_simp; try with_reducible rfl⟩) hHeld ?_
    go_simp
    refine wpAnyH_take (i := 4) (v := ?_) rfl (by kernel_rfl) (by kernel_rfl) (by kernel_rfl) (fun _ _ _ h => h) (Or.inl ⟨by kernel_rfl, by intro w _; go_simp; try with_reducible rfl⟩) hHeld ?_
    go_simp
    refine wpAnyH_take (i := 2) (v := ?_) rfl (by kernel_rfl) (by kernel_rfl) (by kernel_rfl) (fun _ _ _ h => h) (Or.inl ⟨by kernel_rfl, by intro w hSw; (try dsimp only at hSw); obtain ⟨s1, s2⟩ := hSw; go_simp; try with_reducible rfl⟩) hHeld ?_
    go_simp
    refine wpAnyH_take (i := 5) (v := ?_) rfl (by kernel_rfl) (by kernel_rfl) (by kernel_rfl) (fun _ _ _ h => h) (Or.inl ⟨by kernel_rfl, by intro w hSw; (try dsimp only at hSw); obtain ⟨s1, s2⟩ := hSw; go_simp; try with_reducible rfl⟩) hHeld ?_
    go_simp
    refine wpAnyH_ready (rs := [0, 3]) (by kernel_rfl) (by simp) ?_
    refine AllReadyH.cons rfl (fun K hK => ?_) (AllReadyH.cons rfl (fun K hK => ?_) AllReadyH.nil)
    · clear hHeld
      go_simp
      refine hK.out _ _ (hS0.out) (fun hHeld => ?_)
      clear hK K
      refine wpAnyH_ready (rs := [3]) (by kernel_rfl) (by simp) ?_
      refine AllReadyH.cons rfl (fun K hK => ?_) AllReadyH.nil
      clear hHeld
      go_simp
      refine HC.out.mono ?_
      rintro e wq ⟨o3, c3, rfl, ⟨s1, s2⟩, ⟨t1, t2⟩, sv, st, sd⟩
      have SV := Lib.hid sv
      clear HC
      go_simp
      refine hK.out _ _ (⟨s1, s2⟩) (fun hHeld => ?_)
      clear hK K
      refine wpAnyH_take (i := 6) (v := ?_) rfl (by kernel_rfl) (by kernel_rfl) (by kernel_rfl) (fun _ _ _ h => h) (Or.inl ⟨by kernel_rfl, by intro w _; go_simp; try with_reducible rfl⟩) hHeld ?_
      go_simp
      refine wpAnyH_ready (rs := [7]) (by kernel_rfl) (by simp) ?_
      refine AllReadyH.cons rfl (fun K hK => ?_) AllReadyH.nil
      clear hHeld
      go_simp
      refine hK.out _ _ (⟨t1, t2⟩) (fun hHeld => ?_)
      clear hK K
      refine wpAnyH_ready (rs := [8]) (by kernel_rfl) (by simp) ?_
      refine AllReadyH.cons rfl (fun K hK => ?_) AllReadyH.nil
      clear hHeld
      refine step_append_lies _ rfl (.tmp 14) (.tmp 21) 25 rfl (Bt + 1) 51 i0 _ 2 32 Tryz.underlying25 hi hz0 hz1 hz2 rfl (by decide) (.slice ov k cv) k us.flatten rfl (sd.out.2.1.alloc _) ⟨wq.heap.size, 0, none⟩ 1 1 [.slice o3 nL c3, .int .i64 vx] rfl rfl (cell_two wq _ _ _) (by intro u hu; simp at hu; rcases hu with rfl | rfl <;> rfl) (by decide) (by unfold maxLen; omega) (by omega) (by have := sd.out.2.2.2.2.2.2.size; simp; omega) _ rfl ?_
      intro g5 c5 w5 hown5 hgrow5 _ _
      obtain ⟨q1, ⟨us2, q2, q3, q4, q5⟩, q6, q7, q8⟩ := row_put (x := p.2) sd.out.1 (show ra < Bt + 1 by omega) (Nat.le_refl ra) (by have := sd.out.2.2.2.2.2.2.size; omega) sd.out.2.2.1 hulen hlow sd.out.2.2.2.1 hm sd.out.2.2.2.2.1 (show w5.ownsRow (Bt + 1) 51 2 (.slice (some ⟨g5, 0, none⟩) (k + 1) c5) (k + 1) (us.flatten ++ [.slice o3 p.2.1.length c3, .int .i64 p.2.2]) by rw [hnL, hvx]; exact hown5) hgrow5
      have hb5 : w5.heap[Bx]? = some (.cells #[.slice o2 nL c2, .int .i64 vx] 51 (0, 0)) := by
        have h9 := sd.out.2.2.2.2.2.1
        rw [hgrow5.block Bx (by have := (Array.getElem?_eq_some_iff.1 h9).1; simp; omega) (fun e => hxv e.symm), Below.heap_alloc wq _ _ (Array.getElem?_eq_some_iff.1 h9).1]; exact h9
      have hb6 : (w5.setCell ⟨ra, 0, none⟩ (.slice (some ⟨g5, 0, none⟩) (k + 1) c5)).heap[Bx]? = some (.cells #[.slice o2 nL c2, .int .i64 vx] 51 (0, 0)) := (Below.heap_setCell _ _ _ _ (show Bx ≠ ra by omega)).trans hb5
      have r1 : w5.cell? ⟨Bx, 0, none⟩ = some (.slice o2 nL c2) := by simp [World.cell?, hb5]
      have r2 : w5.cell? ⟨Bx, 1, none⟩ = some (.int .i64 vx) := by simp [World.cell?, hb5]
      have p1 : (w5.setCell ⟨ra, 0, none⟩ (.slice (some ⟨g5, 0, none⟩) (k + 1) c5)).cell? ⟨Bx, 0, none⟩ = some (.slice o2 nL c2) := by simp [World.cell?, hb6]
      have p2 : (w5.setCell ⟨ra, 0, none⟩ (.slice (some ⟨g5, 0, none⟩) (k + 1) c5)).cell? ⟨Bx, 1, none⟩ = some (.int .i64 vx) := by simp [World.cell?, hb6]
      have q10 := q1.cell
      have q11 := q1.frozen
      have HQ := Lib.hid (And.intro q2 (And.intro q3 (And.intro q4 (And.intro q5 (And.intro q6 (And.intro q7 q8))))))
      clear q1 q2 q3 q4 q5 q6 q7 q8 hb5 hb6 hown5 hgrow5
      refine hK.out _ _ ⟨r1, r2⟩ (fun hHeld => ?_)
      clear hK K
      refine wpAnyH_ready (rs := [9]) (by kernel_rfl) (by simp) ?_
      refine AllReadyH.cons rfl (fun K hK => ?_) AllReadyH.nil
      clear hHeld
      go_simp
      refine hK.out _ _ (⟨p1, p2⟩) (fun hHeld => ?_)
      clear hK K
      refine wpAnyH_done (by kernel_rfl) ?_ _
      gi_wp2
      obtain ⟨q2, q3, q4, q5, q6, q7, q8⟩ := HQ.out
      have hbw := sd.out.2.2.2.2.2.2
      have kf : KeepsFrom (Bt + 1) W wq := ⟨hbw.size, fun j ob _ hj _ => (hbw.block j (Array.getElem?_eq_some_iff.1 hj).1).trans hj⟩
      refine ⟨by rw [hz3]; exact kf.trans q6, by rw [hz3]; exact (Turns.of_below hbw).trans q7, ⟨_, us2, q2, q3, q4, ?_⟩, (hb.trans (hbw.mono (by omega))).trans q8, Nat.le_trans hsz (Nat.le_trans hbw.size q7.size)⟩
      rw [take_atG hak, List.map_append]
      exact q5
    · clear hHeld
      go_simp
      refine HC.out.mono ?_
      rintro e wq ⟨o3, c3, rfl, ⟨s1, s2⟩, ⟨t1, t2⟩, sv, st, sd⟩
      have SV := Lib.hid sv
      clear HC
      go_simp
      refine hK.out _ _ (⟨s1, s2⟩) (fun hHeld => ?_)
      clear hK K
      refine wpAnyH_take (i := 6) (v := ?_) rfl (by kernel_rfl) (by kernel_rfl) (by kernel_rfl) (fun _ _ _ h => h) (Or.inl ⟨by kernel_rfl, by intro w _; go_simp; try with_reducible rfl⟩) hHeld ?_
      go_simp
      refine wpAnyH_ready (rs := [0, 7]) (by kernel_rfl) (by simp) ?_
      refine AllReadyH.cons rfl (fun K hK => ?_) (AllReadyH.cons rfl (fun K hK => ?_) AllReadyH.nil)
      · clear hHeld
        go_simp
        refine hK.out _ _ (⟨s1, s2⟩) (fun hHeld => ?_)
        clear hK K
        refine wpAnyH_ready (rs := [7]) (by kernel_rfl) (by simp) ?_
        refine AllReadyH.cons rfl (fun K hK => ?_) AllReadyH.nil
        clear hHeld
        go_simp
        refine hK.out _ _ (⟨t1, t2⟩) (fun hHeld => ?_)
        clear hK K
        refine wpAnyH_ready (rs := [8]) (by kernel_rfl) (by simp) ?_
        refine AllReadyH.cons rfl (fun K hK => ?_) AllReadyH.nil
        clear hHeld
        refine step_append_lies _ rfl (.tmp 14) (.tmp 21) 25 rfl (Bt + 1) 51 i0 _ 2 32 Tryz.underlying25 hi hz0 hz1 hz2 rfl (by decide) (.slice ov k cv) k us.flatten rfl (sd.out.2.1.alloc _) ⟨wq.heap.size, 0, none⟩ 1 1 [.slice o3 nL c3, .int .i64 vx] rfl rfl (cell_two wq _ _ _) (by intro u hu; simp at hu; rcases hu with rfl | rfl <;> rfl) (by decide) (by unfold maxLen; omega) (by omega) (by have := sd.out.2.2.2.2.2.2.size; simp; omega) _ rfl ?_
        intro g5 c5 w5 hown5 hgrow5 _ _
        obtain ⟨q1, ⟨us2, q2, q3, q4, q5⟩, q6, q7, q8⟩ := row_put (x := p.2) sd.out.1 (show ra < Bt + 1 by omega) (Nat.le_refl ra) (by have := sd.out.2.2.2.2.2.2.size; omega) sd.out.2.2.1 hulen hlow sd.out.2.2.2.1 hm sd.out.2.2.2.2.1 (show w5.ownsRow (Bt + 1) 51 2 (.slice (some ⟨g5, 0, none⟩) (k + 1) c5) (k + 1) (us.flatten ++ [.slice o3 p.2.1.length c3, .int .i64 p.2.2]) by rw [hnL, hvx]; exact hown5) hgrow5
        have hb5 : w5.heap[Bx]? = some (.cells #[.slice o2 nL c2, .int .i64 vx] 51 (0, 0)) := by
          have h9 := sd.out.2.2.2.2.2.1
          rw [hgrow5.block Bx (by have := (Array.getElem?_eq_some_iff.1 h9).1; simp; omega) (fun e => hxv e.symm), Below.heap_alloc wq _ _ (Array.getElem?_eq_some_iff.1 h9).1]; exact h9
        have hb6 : (w5.setCell ⟨ra, 0, none⟩ (.slice (some ⟨g5, 0, none⟩) (k + 1) c5)).heap[Bx]? = some (.cells #[.slice o2 nL c2, .int .i64 vx] 51 (0, 0)) := (Below.heap_setCell _ _ _ _ (show Bx ≠ ra by omega)).trans hb5
        have r1 : w5.cell? ⟨Bx, 0, none⟩ = some (.slice o2 nL c2) := by simp [World.cell?, hb5]
        have r2 : w5.cell? ⟨Bx, 1, none⟩ = some (.int .i64 vx) := by simp [World.cell?, hb5]
        have p1 : (w5.setCell ⟨ra, 0, none⟩ (.slice (some ⟨g5, 0, none⟩) (k + 1) c5)).cell? ⟨Bx, 0, none⟩ = some (.slice o2 nL c2) := by simp [World.cell?, hb6]
        have p2 : (w5.setCell ⟨ra, 0, none⟩ (.slice (some ⟨g5, 0, none⟩) (k + 1) c5)).cell? ⟨Bx, 1, none⟩ = some (.int .i64 vx) := by simp [World.cell?, hb6]
        have q10 := q1.cell
        have q11 := q1.frozen
        have HQ := Lib.hid (And.intro q2 (And.intro q3 (And.intro q4 (And.intro q5 (And.intro q6 (And.intro q7 q8))))))
        clear q1 q2 q3 q4 q5 q6 q7 q8 hb5 hb6 hown5 hgrow5
        refine hK.out _ _ ⟨r1, r2⟩ (fun hHeld => ?_)
        clear hK K
        refine wpAnyH_ready (rs := [9]) (by kernel_rfl) (by simp) ?_
        refine AllReadyH.cons rfl (fun K hK => ?_) AllReadyH.nil
        clear hHeld
        go_simp
        refine hK.out _ _ (⟨p1, p2⟩) (fun hHeld => ?_)
        clear hK K
        refine wpAnyH_done (by kernel_rfl) ?_ _
        gi_wp2
        obtain ⟨q2, q3, q4, q5, q6, q7, q8⟩ := HQ.out
        have hbw := sd.out.2.2.2.2.2.2
        have kf : KeepsFrom (Bt + 1) W wq := ⟨hbw.size, fun j ob _ hj _ => (hbw.block j (Array.getElem?_eq_some_iff.1 hj).1).trans hj⟩
        refine ⟨by rw [hz3]; exact kf.trans q6, by rw [hz3]; exact (Turns.of_below hbw).trans q7, ⟨_, us2, q2, q3, q4, ?_⟩, (hb.trans (hbw.mono (by omega))).trans q8, Nat.le_trans hsz (Nat.le_trans hbw.size q7.size)⟩
        rw [take_atG hak, List.map_append]
        exact q5
      · clear hHeld
        go_simp
        refine hK.out _ _ (⟨t1, t2⟩) (fun hHeld => ?_)
        clear hK K
        refine wpAnyH_ready (rs := [0]) (by kernel_rfl) (by simp) ?_
        refine AllReadyH.cons rfl (fun K hK => ?_) AllReadyH.nil
        clear hHeld
        go_simp
        refine hK.out _ _ (⟨t1, t2⟩) (fun hHeld => ?_)
        clear hK K
        refine wpAnyH_ready (rs := [8]) (by kernel_rfl) (by simp) ?_
        refine AllReadyH.cons rfl (fun K hK => ?_) AllReadyH.nil
        clear hHeld
        refine step_append_lies _ rfl (.tmp 14) (.tmp 21) 25 rfl (Bt + 1) 51 i0 _ 2 32 Tryz.underlying25 hi hz0 hz1 hz2 rfl (by decide) (.slice ov k cv) k us.flatten rfl (sd.out.2.1.alloc _) ⟨wq.heap.size, 0, none⟩ 1 1 [.slice o3 nL c3, .int .i64 vx] rfl rfl (cell_two wq _ _ _) (by intro u hu; simp at hu; rcases hu with rfl | rfl <;> rfl) (by decide) (by unfold maxLen; omega) (by omega) (by have := sd.out.2.2.2.2.2.2.size; simp; omega) _ rfl ?_
        intro g5 c5 w5 hown5 hgrow5 _ _
        obtain ⟨q1, ⟨us2, q2, q3, q4, q5⟩, q6, q7, q8⟩ := row_put (x := p.2) sd.out.1 (show ra < Bt + 1 by omega) (Nat.le_refl ra) (by have := sd.out.2.2.2.2.2.2.size; omega) sd.out.2.2.1 hulen hlow sd.out.2.2.2.1 hm sd.out.2.2.2.2.1 (show w5.ownsRow (Bt + 1) 51 2 (.slice (some ⟨g5, 0, none⟩) (k + 1) c5) (k + 1) (us.flatten ++ [.slice o3 p.2.1.length c3, .int .i64 p.2.2]) by rw [hnL, hvx]; exact hown5) hgrow5
        have hb5 : w5.heap[Bx]? = some (.cells #[.slice o2 nL c2, .int .i64 vx] 51 (0, 0)) := by
          have h9 := sd.out.2.2.2.2.2.1
          rw [hgrow5.block Bx (by have := (Array.getElem?_eq_some_iff.1 h9).1; simp; omega) (fun e => hxv e.symm), Below.heap_alloc wq _ _ (Array.getElem?_eq_some_iff.1 h9).1]; exact h9
        have hb6 : (w5.setCell ⟨ra, 0, none⟩ (.slice (some ⟨g5, 0, none⟩) (k + 1) c5)).heap[Bx]? = some (.cells #[.slice o2 nL c2, .int .i64 vx] 51 (0, 0)) := (Below.heap_setCell _ _ _ _ (show Bx ≠ ra by omega)).trans hb5
        have r1 : w5.cell? ⟨Bx, 0, none⟩ = some (.slice o2 nL c2) := by simp [World.cell?, hb5]
        have r2 : w5.cell? ⟨Bx, 1, none⟩ = some (.int .i64 vx) := by simp [World.cell?, hb5]
        have p1 : (w5.setCell ⟨ra, 0, none⟩ (.slice (some ⟨g5, 0, none⟩) (k + 1) c5)).cell? ⟨Bx, 0, none⟩ = some (.slice o2 nL c2) := by simp [World.cell?, hb6]
        have p2 : (w5.setCell ⟨ra, 0, none⟩ (.slice (some ⟨g5, 0, none⟩) (k + 1) c5)).cell? ⟨Bx, 1, none⟩ = some (.int .i64 vx) := by simp [World.cell?, hb6]
        have q10 := q1.cell
        have q11 := q1.frozen
        have HQ := Lib.hid (And.intro q2 (And.intro q3 (And.intro q4 (And.intro q5 (And.intro q6 (And.intro q7 q8))))))
        clear q1 q2 q3 q4 q5 q6 q7 q8 hb5 hb6 hown5 hgrow5
        refine hK.out _ _ ⟨r1, r2⟩ (fun hHeld => ?_)
        clear hK K
        refine wpAnyH_ready (rs := [9]) (by kernel_rfl) (by simp) ?_
        refine AllReadyH.cons rfl (fun K hK => ?_) AllReadyH.nil
        clear hHeld
        go_simp
        refine hK.out _ _ (⟨p1, p2⟩) (fun hHeld => ?_)
        clear hK K
        refine wpAnyH_done (by kernel_rfl) ?_ _
        gi_wp2
        obtain ⟨q2, q3, q4, q5, q6, q7, q8⟩ := HQ.out
        have hbw := sd.out.2.2.2.2.2.2
        have kf : KeepsFrom (Bt + 1) W wq := ⟨hbw.size, fun j ob _ hj _ => (hbw.block j (Array.getElem?_eq_some_iff.1 hj).1).trans hj⟩
        refine ⟨by rw [hz3]; exact kf.trans q6, by rw [hz3]; exact (Turns.of_below hbw).trans q7, ⟨_, us2, q2, q3, q4, ?_⟩, (hb.trans (hbw.mono (by omega))).trans q8, Nat.le_trans hsz (Nat.le_trans hbw.size q7.size)⟩
        rw [take_atG hak, List.map_append]
        exact q5
  case done =>
    rintro D W hD ⟨⟨v, us, hu, hlo, hv, hr⟩, hb, hsz⟩ hK
    rw [List.take_length] at hr
    have hvc := hv.cell
    gi_wp2
    refine ⟨by simp, .inl ⟨_, _, rfl, run_takeDeferred hK, ?_⟩⟩
    have htt : Turns (FreeT (fun _ => False) (Bt + 1) W) W (W.putObj D (.deferred none)) := Turns.put _ _ _ (.inr ⟨by omega, _, hK, rfl⟩)
    refine ⟨_, results_tmp rfl _ _ _, ⟨v, us, rfl, (rows_turns hr hlo htt (fun r hr => hr.elim)).own_le (by omega)⟩, ?_⟩
    rw [hra]
    exact hb.trans ((Below.refl ra W).grown (grownBy_putObj' W D (.deferred none)) (by omega) (fun k e => by cases e; omega))
end Go.Proofs.YtlnlbahggbbaeaaGreat.Mrg
