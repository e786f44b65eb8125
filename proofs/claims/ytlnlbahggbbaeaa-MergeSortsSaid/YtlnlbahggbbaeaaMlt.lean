/- Sorted lists of one's own, and what two appends leave. -/
import Derived.Test.YtlnlbahggbbaeaaMlr
namespace Go.Proofs.Ytlnlbahggbbaeaa.Mrg
open Go.RowKit Go.Lib Go.Proofs.Ytlnlbahggbbaeaa Go.Proofs.Ytlnlbahggbbaeaa.Vec Go.Proofs.Ytlnlbahggbbaeaa.Stb

theorem infoRs : (Try.prog.info? 25).map (fun i => (i.zero, i.size, i.bytes)) = some (some (.slice none 0 0), 1, 24) := by kernel_rfl
theorem neLR : 62 ≠ 25 := by decide
theorem neRR : 37 ≠ 25 := by decide
/-- A sorted list among those that there are. -/
structure SoS (w : World) (B : Nat) (A S : Value) (m : Ls) : Prop where
  ls : LsS w B m
  low : ∀ b off, m.o = some ⟨b, off, none⟩ → b < w.heap.size ∧ A.ownBlock ≠ some b ∧ S.ownBlock ≠ some b
def slV (m : Ls) : Value := .slice m.o m.xs.length m.c
theorem own_n {w : World} {N s n c : Nat} {t : TypeId} {o : Option Addr} {xs : List Value} (h : w.ownsRow N t s (.slice o n c) n xs) : n ≤ c := by
  rcases h.2 with ⟨e, rfl⟩ | ⟨g, cap, cur, e, _, _, h4, _⟩
  · exact Nat.zero_le _
  · cases e; exact h4
theorem SoS.below {w w' : World} {B : Nat} {A S : Value} {m : Ls} (h : SoS w B A S m) (hb : Below w.heap.size w w') : SoS w' B A S m :=
  ⟨h.ls.below hb, fun b off e => ⟨Nat.lt_of_lt_of_le (h.low b off e).1 hb.size, (h.low b off e).2⟩⟩
theorem push_lists {w3 w4 : World} {B r i g8 c8 : Nat} {obj : Obj} {A S : Value} {usA : List (List Value)} {P : List Rw} {xs : List Value} {mss : List Ls} {mN : Ls} (hB : B ≤ r) (hr : r ≤ w3.heap.size)
    (hS : w3.ownsRow r 25 1 S i xs) (hA : OwnG (ERow B) 2 37 w3 r A usA P) (hg : (w3.alloc obj).grownBy w4 S.ownBlock) (hl : S.ownBlock = some g8 ∨ g8 = (w3.alloc obj).heap.size)
    (hm : ∀ m ∈ mss, SoS w3 B A S m) (hN : SoS w3 B A S mN) :
    (∀ a : Addr, a.block < r → w4.cell? a = w3.cell? a) ∧ OwnG (ERow B) 2 37 w4 r A usA P ∧ (∀ m ∈ mss ++ [mN], SoS w4 B A (.slice (some ⟨g8, 0, none⟩) (i + 1) c8) m) ∧ Below r w3 w4 ∧ r ≤ w4.heap.size := by
  have hlS := hS.lt
  have hS' := hS.alloc obj
  have hba : Below w3.heap.size w3 (w3.alloc obj) := (Below.refl _ w3).alloc (Nat.le_refl _) obj
  have hz : (w3.alloc obj).heap.size = w3.heap.size + 1 := by simp
  have hz4 := hg.size
  refine ⟨fun a ha => ?_, own_other (hA.below frow hba) hS' neRR neLR hB hg, fun m h => ?_, ((Below.refl r w3).alloc hr obj).grown hg (by omega) (fun k e => (hlS k e).1), by omega⟩
  · exact (World.cell?_of_block (hg.block a.block (by omega) (fun e => by have := (hlS _ e.symm).1; omega))).trans (World.cell?_of_block (Below.heap_alloc _ _ _ (by omega)))
  · have h1 : SoS w3 B A S m := by
      rcases List.mem_append.1 h with h | h
      · exact hm m h
      · rw [List.mem_singleton.1 h]; exact hN
    refine ⟨(h1.ls.below hba).turn hg neLR (fun g e => ⟨by have := (hlS g e).1; omega, (own_row hS' g e).2⟩) (fun b off e e2 => (h1.low b off e).2.2 e2), fun b off e => ?_⟩
    obtain ⟨h2, h3, h4⟩ := h1.low b off e
    refine ⟨by omega, h3, fun e2 => ?_⟩
    have e3 : g8 = b := by simpa [Value.ownBlock] using e2
    rcases hl with hl | hl
    · exact h4 (by rw [hl, e3])
    · omega
theorem push_rows {w4 w5 : World} {B r i g7 na c7 : Nat} {A S : Value} {usA : List (List Value)} {P : List Rw} {xs : List Value} {mss : List Ls} (hB : B ≤ r) (hr : r ≤ w4.heap.size)
    (hS : w4.ownsRow r 25 1 S i xs) (hA : OwnG (ERow B) 2 37 w4 r A usA P) (hg : w4.grownBy w5 A.ownBlock) (hl : A.ownBlock = some g7 ∨ g7 = w4.heap.size)
    (hm : ∀ m ∈ mss, SoS w4 B A S m) :
    (∀ a : Addr, a.block < r → w5.cell? a = w4.cell? a) ∧ w5.ownsRow r 25 1 S i xs ∧ (∀ m ∈ mss, SoS w5 B (.slice (some ⟨g7, 0, none⟩) na c7) S m) ∧ Below r w4 w5 ∧ r ≤ w5.heap.size := by
  have hlA := hA.own.lt
  have hz4 := hg.size
  refine ⟨fun a ha => ?_, hS.kept hg (own_ne2 hS hA.own (Ne.symm neRR)), fun m h => ?_, (Below.refl r w4).grown hg hr (fun k e => (hlA k e).1), by omega⟩
  · exact World.cell?_of_block (hg.block a.block (by omega) (fun e => by have := (hlA _ e.symm).1; omega))
  · have h1 := hm m h
    refine ⟨h1.ls.turn hg neRow (fun g e => ⟨by have := (hlA g e).1; omega, (own_row hA.own g e).2⟩) (fun b off e e2 => (h1.low b off e).2.1 e2), fun b off e => ?_⟩
    obtain ⟨h2, h3, h4⟩ := h1.low b off e
    refine ⟨by omega, fun e2 => ?_, h4⟩
    have e3 : g7 = b := by simpa [Value.ownBlock] using e2
    rcases hl with hl | hl
    · exact h3 (by rw [hl, e3])
    · omega
/-- A list that was sorted just now. -/
theorem SoS.fresh {wr w3 : World} {B r na i c2 ca cs : Nat} {oa os o2 : Option Addr} {usA us : List (List Value)} {P S : List Rw} {xs : List Value} {k : Nat} (hA : OwnG (ERow B) 2 37 wr r (.slice oa na ca) usA P) (hS : wr.ownsRow r 25 1 (.slice os i cs) k xs)
    (hN : OwnG (ERow B) 2 37 w3 wr.heap.size (.slice o2 S.length c2) us S) (hl : S.length ≤ 100000) (hs : RowsS w3 B o2 S) : SoS w3 B (.slice oa na ca) (.slice os i cs) ⟨o2, c2, S⟩ := by
  refine ⟨⟨?_, hl, hs⟩, fun b off e => ?_⟩
  · have h9 := hN.own
    rw [hN.len] at h9
    exact own_n h9
  · have e1 : o2 = some ⟨b, off, none⟩ := e
    have h1 := hN.own.lt b (by rw [e1]; rfl)
    refine ⟨h1.2, fun e2 => ?_, fun e2 => ?_⟩
    · have := (hA.own.lt b e2).2; omega
    · have := (hS.lt b e2).2; omega
/-- The cells of a list's rows, at an address. -/
theorem cells_at {B : Nat} {w : World} {m : Ls} (h : LsS w B m) (hp : 0 < m.xs.length) : ∃ (ad : Addr) (us : List (List Value)), m.o = some ad ∧ us.length = m.xs.length ∧ (∀ (j : Nat) (x : Rw), m.xs[j]? = some x → ∃ u, us[j]? = some u ∧ ERow B w u x) ∧ us.flatten.length = m.xs.length * 2 ∧ (∀ (j : Nat) (v : Value), us.flatten[j]? = some v → w.cell? (ad.add j) = some v) ∧ ∀ v ∈ us.flatten, v.oneCell' = true := by
  rcases h.rows with h | ⟨b, off, e, h⟩
  · rw [h] at hp; cases hp
  · obtain ⟨us, h1, h2, h3, h4⟩ := cells_rows m.xs off h
    refine ⟨_, us, e, h1, h2, ?_, fun j v hv => by rw [off_add]; exact h4 j v hv, fun v hv => ?_⟩
    · rw [← h1]
      clear h1 h2 h4
      induction us with
      | nil => rfl
      | cons u us ih => rw [List.flatten_cons, List.length_append, (h3 u List.mem_cons_self).1, ih (fun v hv => h3 v (List.mem_cons_of_mem _ hv)), List.length_cons]; omega
    · obtain ⟨u, hu, hv⟩ := List.mem_flatten.1 hv
      exact (h3 u hu).2 v hv
theorem sorted_flat (by_ : Int) (ls : List (List Rw)) : (ls.map (sortF by_)).flatten.length = ls.flatten.length := by
  rw [← mergeF_len by_, sorted_all, sort_len]
theorem mergeH_le (by_ : Int) {ls : List (List Rw)} {n : Nat} (h : ls.flatten.length ≤ n) (h2 : n ≤ 100000) : (mergeH by_ ls).length ≤ 100000 := by rw [mergeH_len]; omega
/-- A part of the lists, put together. -/
theorem rows_part (by_ : Int) (os : Option Addr) (n cp B : Nat) (ms : List Ls) (W : World) (hn : ms.length = n) (h2 : n ≤ 1000) (hS : ListS W B os ms) (hsm : ∀ m ∈ ms, SmR m.xs) (hf : (lsx ms).flatten.length ≤ 200) :
    Calls Try.prog 8 #[.int .i64 by_, .slice os n cp] W fun e w' => ∃ o2 c2, e = .returned (.slice o2 (lsx ms).flatten.length c2) ∧ LsS w' 0 ⟨o2, c2, mergeF (lessR by_) (lsx ms)⟩ ∧ Below W.heap.size W w' := by
  have h := rows_list by_ os n cp B ms W hn h2 hS hsm (mergeH_le by_ hf (by omega))
  rw [mergeF_is] at h
  refine h.mono ?_
  rintro e w' ⟨⟨v, us, rfl, ho⟩, b⟩
  obtain ⟨o2, c2, rfl, hs, _⟩ := ho.sees frow
  have h9 := ho.own
  rw [ho.len] at h9
  exact ⟨o2, c2, by rw [mergeF_len], ⟨own_n h9, by rw [show (Ls.xs ⟨o2, c2, mergeF (lessR by_) (lsx ms)⟩) = mergeF (lessR by_) (lsx ms) from rfl, mergeF_len]; omega, hs⟩, b⟩
/-- Two lists in a row that was just built. -/
theorem rows_both (by_ : Int) (m1 m2 : Ls) (W : World) (h1 : LsS W 0 m1) (h2 : LsS W 0 m2) (s1 : SmR m1.xs) (s2 : SmR m2.xs) (hf : m1.xs.length + m2.xs.length ≤ 200) :
    Calls Try.prog 8 #[.int .i64 by_, .slice (some ⟨W.heap.size, 0, none⟩) 2 2] (W.alloc (Obj.cells #[.slice m1.o m1.xs.length m1.c, .slice m2.o m2.xs.length m2.c] 25)) fun e w' => ∃ o2 c2, e = .returned (.slice o2 (m1.xs.length + m2.xs.length) c2) ∧ RowsS w' 0 o2 (mergeF (lessR by_) [m1.xs, m2.xs]) ∧ Below W.heap.size W w' := by
  have hba : Below W.heap.size W (W.alloc (Obj.cells #[.slice m1.o m1.xs.length m1.c, .slice m2.o m2.xs.length m2.c] 25)) := (Below.refl _ W).alloc (Nat.le_refl _) _
  have hb := World.alloc_heap_new W (Obj.cells #[.slice m1.o m1.xs.length m1.c, .slice m2.o m2.xs.length m2.c] 25)
  have hz : (W.alloc (Obj.cells #[.slice m1.o m1.xs.length m1.c, .slice m2.o m2.xs.length m2.c] 25)).heap.size = W.heap.size + 1 := by simp
  have e1 := h1.below hba
  have e2 := h2.below hba
  generalize (W.alloc (Obj.cells #[.slice m1.o m1.xs.length m1.c, .slice m2.o m2.xs.length m2.c] 25)) = V at hba hb hz e1 e2 ⊢
  have hls : ListS V 0 (some ⟨W.heap.size, 0, none⟩) [m1, m2] := by
    refine .inr ⟨_, 0, rfl, (Array.getElem?_eq_some_iff.1 hb).1, fun j m' hj => ?_⟩
    match j, hj with
    | 0, hj => cases hj; exact ⟨by simp [World.cell?, hb], e1⟩
    | 1, hj => cases hj; exact ⟨by simp [World.cell?, hb], e2⟩
    | j + 2, hj => simp at hj
  have hl : (lsx [m1, m2]).flatten.length = m1.xs.length + m2.xs.length := by simp [lsx]
  refine (rows_part by_ _ 2 2 0 [m1, m2] V rfl (by omega) hls (fun m hm => ?_) (by rw [hl]; exact hf)).mono ?_
  · rcases List.mem_cons.1 hm with rfl | hm
    · exact s1
    · rw [List.mem_singleton.1 hm]; exact s2
  · rintro e w' ⟨o2, c2, rfl, h, b⟩
    rw [hl]
    exact ⟨o2, c2, rfl, h.rows, hba.trans (b.mono hba.size)⟩
theorem sort_in (by_ : Int) (l : List Rw) : inO by_ (sortF by_ l) = true := inO_srt (sort_srtd by_ l)
theorem cut_is (cut : Int) (i : Nat) (h : i ≤ 1000) : ∃ k : Nat, k ≤ i ∧ (wrap64 (wrap64 (cut.tmod ((i : Int) + 1) + i) + 1)).tmod ((i : Int) + 1) = k := by
  have h1 : -((i : Int) + 1) < cut.tmod ((i : Int) + 1) := Int.lt_tmod_of_pos _ (by omega)
  have h2 : cut.tmod ((i : Int) + 1) < (i : Int) + 1 := Int.tmod_lt_of_pos _ (by omega)
  generalize cut.tmod ((i : Int) + 1) = t at h1 h2 ⊢
  have w1 : wrap64 (t + i) = t + i := by unfold wrap64; omega
  have w2 : wrap64 (t + i + 1) = t + i + 1 := by unfold wrap64; omega
  rw [w1, w2]
  have h3 := Int.tmod_nonneg (a := t + i + 1) ((i : Int) + 1) (by omega)
  have h4 : (t + i + 1).tmod ((i : Int) + 1) < (i : Int) + 1 := Int.tmod_lt_of_pos _ (by omega)
  exact ⟨((t + i + 1).tmod ((i : Int) + 1)).toNat, by omega, by omega⟩
end Go.Proofs.Ytlnlbahggbbaeaa.Mrg
