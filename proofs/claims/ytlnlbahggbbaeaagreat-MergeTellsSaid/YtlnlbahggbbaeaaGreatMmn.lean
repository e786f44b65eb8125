/- What the law of Merge wants of memory: lists lent in a list of one's own. -/
import Derived.Test.YtlnlbahggbbaeaaGreatMmc
import Derived.Test.YtlnlbahggbbaeaaGreatMmm
import Derived.Deep.AppendLies
namespace Go.Proofs.YtlnlbahggbbaeaaGreat.Mrg
open Go.RowKit Go.Lib Go.Proofs.YtlnlbahggbbaeaaGreat Go.Proofs.YtlnlbahggbbaeaaGreat.Vec Go.Proofs.YtlnlbahggbbaeaaGreat.Stb

/-- A list whose rows lie in no block that turns. -/
theorem LsS.turn {A C : World} {B : Nat} {m : Ls} {row : Option Nat} {t : TypeId} (h : LsS A B m) (hg : A.grownBy C row) (ht : 99 ≠ t) (hr : ∀ g, row = some g → B ≤ g ∧ ∃ cs q, A.heap[g]? = some (.cells cs t q)) (hne : ∀ b off, m.o = some ⟨b, off, none⟩ → row ≠ some b) : LsS C B m := by
  refine ⟨h.cap, h.len, ?_⟩
  rcases h.rows with h1 | ⟨b, off, e, hs⟩
  · exact .inl h1
  · refine .inr ⟨b, off, e, Nat.lt_of_lt_of_le hs.low hg.size, fun j x hx => ?_⟩
    obtain ⟨u, h2, h3⟩ := hs.at0 j x hx
    refine ⟨u, (firmRow (B := B) ht).grown _ _ _ _ _ h2 hr hg, fun i v hv => ?_⟩
    rw [← h3 i v hv]
    exact World.cell?_of_block (a := ⟨b, _, none⟩) (hg.block b hs.low (fun e2 => hne b off e e2.symm))
/-- A row of lists of one's own is lists as they are handed in; a part of them, too. -/
theorem lists_part {w : World} {N B g n c : Nat} {mss : List Ls} (h : w.ownsRow N 25 1 (.slice (some ⟨g, 0, none⟩) n c) n (mss.map fun m => .slice m.o m.xs.length m.c)) (hm : ∀ m ∈ mss, LsS w B m) (k q : Nat) : ListS w B (some ⟨g, k, none⟩) ((mss.drop k).take q) := by
  have hlt := (h.lt g rfl).2
  refine .inr ⟨g, k, rfl, hlt, fun j m hj => ?_⟩
  have h2 : mss[k + j]? = some m := by
    rw [List.getElem?_take] at hj
    split at hj
    · rw [List.getElem?_drop] at hj; exact hj
    · cases hj
  exact ⟨row_cell h (by rw [List.getElem?_map, h2]; rfl), hm m (List.mem_of_getElem? h2)⟩
theorem infoRs : (Tryz.prog.info? 25).map (fun i => (i.zero, i.size, i.bytes)) = some (some (.slice none 0 0), 1, 24) := by kernel_rfl
theorem neLR : 99 ≠ 25 := by decide
theorem neRR : 51 ≠ 25 := by decide
def slV (m : Ls) : Value := .slice m.o m.xs.length m.c
theorem own_n {w : World} {N s n c : Nat} {t : TypeId} {o : Option Addr} {xs : List Value} (h : w.ownsRow N t s (.slice o n c) n xs) : n ≤ c := by
  rcases h.2 with ⟨e, rfl⟩ | ⟨g, cap, cur, e, _, _, h4, _⟩
  · exact Nat.zero_le _
  · cases e; exact h4
section
open Go.Proofs.YtlnlbahggbbaeaaGreat.BkR (El Means Booked encE flatE)
theorem lent_own2 {w3 : World} {B C n : Nat} {v' : Value} {ys : List El} {ms : List Rw} (hn : ys.length = n) (hM : Means B w3 ys ms) (h : w3.ownsRow C 51 2 v' (n + 1) (flatE ys ++ [.slice none 0 0, .int .i64 (-77)])) : ∃ g cap, v' = .slice (some ⟨g, 0, none⟩) (n + 1) cap ∧ (n : Int) ≤ cap ∧ C ≤ g ∧ LentR w3 B g cap ms := by
  have e1 : flatE ys ++ [Value.slice none 0 0, .int .i64 (-77)] = flatE (ys ++ [((none, 0, 0), -77)]) := by rw [BkR.flatE_append]; rfl
  have hml : ms.length = n := by rw [← hM.len, hn]
  rcases BkR.own_open h with ⟨_, h0, _⟩ | ⟨g, cap, rfl, hCg, hlt, hcap, hbig, hc⟩
  · omega
  · refine ⟨g, cap, rfl, by omega, hCg, hlt, by rw [hml]; exact hcap, hbig, ?_, ?_⟩
    · by_cases h0 : ms = []
      · exact .inl h0
      · refine .inr ⟨g, 0, rfl, hlt, fun j m hm => ?_⟩
        have hj : j < ys.length := by rw [hM.len]; exact (List.getElem?_eq_some_iff.1 hm).1
        have hy := List.getElem?_eq_getElem hj
        refine ⟨encE (ys[j]), hM.one j _ m hy hm, fun i u hu => ?_⟩
        rw [Nat.zero_add]
        refine hc _ _ ?_
        rw [e1]
        exact BkR.flatE_at _ j _ (by rw [List.getElem?_append_left hj]; exact hy) i u hu
    · have := hc (n * 2 + 1) (.int .i64 (-77)) (by rw [e1]; exact BkR.flatE_at _ n ((none, 0, 0), -77) (by rw [← hn]; simp) 1 _ rfl)
      rw [hml]; exact this

set_option maxHeartbeats 4000000 in
set_option maxRecDepth 100000 in
theorem lentR2_any (o : Option Addr) (n c : Nat) (ms : List Rw) (B : Nat) (w : World) (hB : B ≤ w.heap.size) (hn : ms.length = n) (hm : n ≤ 1000000) (hl : SmR ms) (hS : RowsS w B o ms) :
    Calls Tryz.prog 6 #[.slice o n c] w fun e w' => (∃ g c', e = .returned (.slice (some ⟨g, 0, none⟩) n c') ∧ w.heap.size ≤ g ∧ LentR w' B g c' ms) ∧ Below w.heap.size w w' := by
  have HC := Lib.hid (BkR.copyRows_any o n c ms B w hB hn hm (fun m hm => by have := (hl m hm).len; omega) hS)
  obtain ⟨i0, hi, hz0, hz1, hz2⟩ := info_parts infoRow
  have HWB := Lib.hid hB
  clear hS hn hl hB
  go_enter Tryz.func6, Tryz.ntmps6
  go_wp2_with fail
  refine HC.out.mono ?_
  rintro e w1 ⟨⟨v, ys, rfl, hyl, ho, hM⟩, b1⟩
  have hz := b1.size
  have HB1 := Lib.hid b1
  have HM1 := Lib.hid hM
  have HLT := Lib.hid (fun g hg => ho.lt g hg)
  have HYL := Lib.hid hyl
  have hoA := ho.alloc (Obj.cells #[.slice none 0 0, .int .i64 (-77)] 51)
  clear b1 hM ho HC hyl
  go_wp2_with (at_builtin; go_must (refine wpList_append_own _ rfl _ _ 25 rfl w.heap.size 51 i0 (.agg #[.slice none 0 0, .int .i64 0]) 2 32 Tryz.underlying25 hi hz0 hz1 hz2 rfl (by decide) v n (flatE ys) rfl hoA ⟨w1.heap.size, 0, none⟩ 1 1 [.slice none 0 0, .int .i64 (-77)] rfl rfl (cells_k _ _ _) (by intro v hv; simp at hv; rcases hv with rfl | rfl <;> rfl) (by unfold maxLen; omega) (by omega) (by simp; omega) ?_); intro v' w3 hown' hgrow3 hnil3; obtain ⟨g, cap', rfl, q1, hCg, F⟩ := lent_own2 (ms := ms) HYL.out ((HM1.out.alloc _).grown neRow (fun g hg => by have h9 := own_row hoA g hg; exact ⟨Nat.le_trans HWB.out h9.1, h9.2⟩) hgrow3) hown'; have HG := Lib.hid hgrow3; clear hown' hgrow3 hnil3)
  have HB3 := Lib.hid (Below.grown (HB1.out.alloc hz _) HG.out (by simp; omega) (fun j hj => (HLT.out j hj).1) : Below w.heap.size w w3)
  have HF := Lib.hid F
  clear F
  go_ret
  exact ⟨⟨g, cap', rfl, hCg, HF.out⟩, HB3.out⟩

end
/-- A list that is lent, in a list of lists of one's own. -/
structure LtS (w : World) (r : Nat) (S : Value) (m : Ls) : Prop where
  ex : ∃ g, m.o = some ⟨g, 0, none⟩ ∧ LentR w r g m.c m.xs ∧ S.ownBlock ≠ some g
  len : m.xs.length ≤ 60
theorem LtS.ls {w : World} {r : Nat} {S : Value} {m : Ls} (h : LtS w r S m) : LsS w r m := by
  obtain ⟨⟨g, e, hL, _⟩, hn⟩ := h
  exact ⟨by have := hL.room; omega, by omega, by rw [e]; exact hL.rows⟩
theorem LtS.below {w w' : World} {r : Nat} {S : Value} {m : Ls} (h : LtS w r S m) (hb : Below w.heap.size w w') : LtS w' r S m := by
  obtain ⟨⟨g, e, hL, hne⟩, hn⟩ := h
  exact ⟨⟨g, e, hL.below hb, hne⟩, hn⟩
theorem push_lent {w3 w4 : World} {r i g8 c8 : Nat} {obj : Obj} {S : Value} {xs : List Value} {m : Ls}
    (hS : w3.ownsRow r 25 1 S i xs) (hg : (w3.alloc obj).grownBy w4 S.ownBlock) (hl : S.ownBlock = some g8 ∨ g8 = (w3.alloc obj).heap.size) (hm : LtS w3 r S m) : LtS w4 r (.slice (some ⟨g8, 0, none⟩) (i + 1) c8) m := by
  have hlS := hS.lt
  have hS' := hS.alloc obj
  have hba : Below w3.heap.size w3 (w3.alloc obj) := (Below.refl _ w3).alloc (Nat.le_refl _) obj
  have hz : (w3.alloc obj).heap.size = w3.heap.size + 1 := by simp
  have hz4 := hg.size
  have hls := hm.ls
  obtain ⟨⟨g, e, hL, hne⟩, hn⟩ := hm
  have hlow := hL.low
  have h9 := (hls.below hba).turn hg neLR (fun g e => ⟨(hlS g e).1, (own_row hS' g e).2⟩) (fun b off e1 e2 => by rw [e] at e1; cases e1; exact hne e2)
  refine ⟨⟨g, e, ⟨by omega, hL.room, hL.big, by rw [← e]; exact h9.rows, ?_⟩, fun e2 => ?_⟩, hn⟩
  · rw [← hL.mark]
    exact (World.cell?_of_block (a := ⟨g, _, none⟩) (hg.block g (by omega) (fun e2 => hne e2.symm))).trans (World.cell?_of_block (Below.heap_alloc _ _ _ hlow))
  · have e3 : g8 = g := by simpa [Value.ownBlock] using e2
    rcases hl with hl | hl
    · exact hne (by rw [hl, e3])
    · omega
theorem push_low {w3 w4 : World} {r i : Nat} {obj : Obj} {S : Value} {xs : List Value} (hr : r ≤ w3.heap.size) (hS : w3.ownsRow r 25 1 S i xs) (hg : (w3.alloc obj).grownBy w4 S.ownBlock) : Below r w3 w4 ∧ r ≤ w4.heap.size := by
  have hz : (w3.alloc obj).heap.size = w3.heap.size + 1 := by simp
  have hz4 := hg.size
  exact ⟨((Below.refl r w3).alloc hr obj).grown hg (by omega) (fun k e => (hS.lt k e).1), by omega⟩
theorem ints_flat (all : List (Nat × Rw)) : BkI.flatE (all.map fun p => ((p.1 : Nat) : Int)) = all.map fun p => .int .i64 (p.1 : Nat) := by
  unfold BkI.flatE BkI.encE
  induction all with
  | nil => rfl
  | cons p all ih => rw [List.map_cons, List.flatMap_cons, ih]; rfl
/-- In order, row by row. -/
theorem inO_snoc (by_ : Int) : ∀ (l : List Rw) (k : Nat) (x y : Rw), l[k]? = some x → l[k + 1]? = some y → inO by_ (l.take (k + 2)) = (inO by_ (l.take (k + 1)) && !lessR by_ y x)
  | [], k, x, y, h, _ => by simp at h
  | [a], k, x, y, h, h2 => by simp at h2
  | a :: b :: l, 0, x, y, h, h2 => by
    simp at h h2
    subst h h2
    simp [inO]
  | a :: b :: l, k + 1, x, y, h, h2 => by
    have ih := inO_snoc by_ (b :: l) k x y (by simpa using h) (by simpa using h2)
    rw [show k + 1 + 2 = (k + 2) + 1 from rfl, List.take_succ_cons, show k + 1 + 1 = (k + 1) + 1 from rfl, List.take_succ_cons]
    rw [List.take_succ_cons] at ih
    rw [List.take_succ_cons] at ih
    rw [List.take_succ_cons, List.take_succ_cons, inO, inO, ih, Bool.and_assoc]
end Go.Proofs.YtlnlbahggbbaeaaGreat.Mrg
