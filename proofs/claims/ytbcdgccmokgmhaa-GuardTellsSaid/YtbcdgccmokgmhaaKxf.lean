/- The book of lists, sixth part: all lists are grown. -/
import Derived.Test.YtbcdgccmokgmhaaKxe
import Derived.Deep.AppendLies
namespace Go.Proofs.Ytbcdgccmokgmhaa.BkX
open Go.RowKit

theorem grow_step {w0 wq w1 w3 : World} {v vc v' : Value} (h : w0.grownBy wq v.ownBlock) (hc : vc.ownBlock = v.ownBlock ∨ ∀ b, vc.ownBlock = some b → w0.heap.size ≤ b) (hb : Below wq.heap.size wq w1) (hg : w1.grownBy w3 vc.ownBlock)
    (ha : v'.ownBlock = vc.ownBlock ∨ v'.ownBlock = some w1.heap.size) : w0.grownBy w3 v.ownBlock ∧ (v'.ownBlock = v.ownBlock ∨ ∀ b, v'.ownBlock = some b → w0.heap.size ≤ b) := by
  have s1 := h.size
  have s2 := hb.size
  refine ⟨⟨hg.os.trans (hb.os.trans h.os), hg.tape.trans (hb.tape.trans h.tape), hg.output.trans (hb.output.trans h.output), Nat.le_trans s1 (Nat.le_trans s2 hg.size), fun k hk hne => ?_⟩, ?_⟩
  · rw [hg.block k (by omega) ?_, hb.block k (by omega), h.block k hk hne]
    rcases hc with hc | hc
    · rw [hc]; exact hne
    · intro e
      have := hc k e.symm
      omega
  · rcases ha with ha | ha
    · rw [ha]; exact hc
    · refine .inr fun b hb' => ?_
      rw [ha] at hb'
      have := Option.some.inj hb'
      omega

/-- All lists up to one are grown. -/
structure GrowInv (B bk : Nat) (cs : Array Value) (R : Value) (L : List (Value × List El)) (w : World) (us : List Value) (vo : Value) (wr : World) : Prop where
  out : wr.ownsRow w.heap.size 31 1 vo us.length us
  kept : Kept B wr R L
  bk : wr.heap[bk]? = some (.cells cs 44 (0, 0))
  touch : Touch (L.map (·.1)) w wr
  each : ∀ (i : Nat) (u : Value), us[i]? = some u → ∃ v xs, L[i]? = some (v, xs) ∧ wr.ownsRow B 9 1 u (xs.length + 72) (flatE (marksR i 0 (xs.length + 72))) ∧ (u.ownBlock = v.ownBlock ∨ ∀ b, u.ownBlock = some b → w.heap.size ≤ b)

theorem GrowInv.step {B bk : Nat} {cs : Array Value} {R : Value} {L : List (Value × List El)} {w wr w3 w5 : World} {us : List Value} {vo vo' v u : Value} {xs : List El} {o : Obj} (h : GrowInv B bk cs R L w us vo wr) (hk0 : Kept B w R L) (hbk0 : bk < w.heap.size)
    (hv : L[us.length]? = some (v, xs)) (hg : wr.grownBy w3 v.ownBlock) (hv3 : w3.ownsRow B 9 1 v xs.length (flatE xs)) (hu : w3.ownsRow B 9 1 u (xs.length + 72) (flatE (marksR us.length 0 (xs.length + 72))))
    (hub : u.ownBlock = v.ownBlock ∨ ∀ b, u.ownBlock = some b → wr.heap.size ≤ b) (hg5 : (w3.alloc o).grownBy w5 vo.ownBlock) (ho : w5.ownsRow w.heap.size 31 1 vo' (us.length + 1) (us ++ [u])) : GrowInv B bk cs R L w (us ++ [u]) vo' w5 := by
  have hvk := h.kept.each _ _ _ hv
  have hset : L.set us.length (v, xs) = L := by
    apply List.ext_getElem?
    intro i
    rw [List.getElem?_set]
    by_cases hi : us.length = i
    · subst hi
      rw [if_pos rfl, if_pos (List.getElem?_eq_some_iff.1 hv).1, hv]
    · rw [if_neg hi]
  have k3 : Kept B w3 R L := by
    have := h.kept.put hv hg hv3 hvk.2
    rwa [hset] at this
  have hg35 : w3.grownBy w5 vo.ownBlock := (World.grownBy_alloc w3 o vo.ownBlock).trans hg5
  have o3 : w3.ownsRow w.heap.size 31 1 vo us.length us := h.out.kept hg (own_far h.out hvk.1 (by decide))
  have hbig := o3.lt
  have far21 : ∀ {B' n : Nat} {x : Value} {zs : List Value}, w3.ownsRow B' 9 1 x n zs → w5.ownsRow B' 9 1 x n zs := fun hx => hx.kept hg35 (own_far hx o3 (by decide))
  refine ⟨by rw [List.length_append]; exact ho, ⟨?_, fun i x zs hi => ⟨far21 (k3.each i x zs hi).1, (k3.each i x zs hi).2⟩, k3.apart, k3.few⟩, ?_, ?_, ?_⟩
  · refine k3.row.kept hg35 ?_
    cases hR : R.ownBlock with
    | none => exact .inl rfl
    | some r =>
      refine .inr fun e => ?_
      have h1 := (hk0.row.lt r hR).2
      have h2 := (hbig r e.symm).1
      omega
  · have hb3 : w3.heap[bk]? = some (.cells cs 44 (0, 0)) := by
      rw [hg.block bk (by have := h.touch.size; omega) (fun e => own_ne hvk.1 h.bk (by decide) e.symm)]; exact h.bk
    rw [hg35.block bk (by have := h.touch.size; have := hg.size; omega) (fun e => own_ne o3 hb3 (by decide) e.symm)]
    exact hb3
  · have h3 := h.touch.trans (Touch.of_grown hg (List.mem_map.2 ⟨_, List.mem_of_getElem? hv, rfl⟩))
    refine ⟨hg35.os.trans h3.os, hg35.tape.trans h3.tape, hg35.output.trans h3.output, Nat.le_trans h3.size hg35.size, fun k hk hn => ?_⟩
    rw [hg35.block k (by have := h3.size; omega) (fun e => by have := (hbig k e.symm).1; omega)]
    exact h3.block k hk hn
  · intro i x hi
    by_cases hlt : i < us.length
    · rw [List.getElem?_append_left hlt] at hi
      obtain ⟨v', xs', h1, h2, h3⟩ := h.each i x hi
      refine ⟨v', xs', h1, far21 (h2.kept hg ?_), h3⟩
      rcases h3 with h3 | h3
      · rw [h3]
        exact k3.apart i us.length _ _ (by omega) h1 hv
      · cases hx : x.ownBlock with
        | none => exact .inl rfl
        | some r =>
          refine .inr fun e => ?_
          have h4 := h3 r hx
          have h5 := ((hk0.each _ _ _ hv).1.lt r e.symm).2
          omega
    · rw [List.getElem?_append_right (by omega)] at hi
      have : i = us.length := by
        rcases Nat.lt_or_ge (i - us.length) 1 with h9 | h9
        · omega
        · rw [List.getElem?_eq_none (by simpa using h9)] at hi; cases hi
      subst this
      simp at hi
      subst hi
      refine ⟨v, xs, hv, far21 hu, ?_⟩
      rcases hub with hub | hub
      · exact .inl hub
      · exact .inr fun b hb => Nat.le_trans h.touch.size (hub b hb)

end Go.Proofs.Ytbcdgccmokgmhaa.BkX
