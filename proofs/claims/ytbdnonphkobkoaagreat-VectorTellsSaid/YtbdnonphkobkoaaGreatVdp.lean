/- The document's vectors, plain: the two loops of its Match are the pairs; keys in order, or twice; what it calls right. -/
import Derived.Test.YtbdnonphkobkoaaGreatGg
namespace Go.Proofs.YtbdnonphkobkoaaGreat.Vec
open Go.RowKit Go.Lib

/-- What comes of one pair that can be reckoned. -/
def putP (op : ByteArray) (p : Pr) (acc : List Rw) : List Rw :=
  if Fix.comparesF op then (if (Fix.doF op p.2.2.1 p.2.2.2).1 = 1 then acc ++ [p.1] else acc) else acc ++ [(p.2.1, (Fix.doF op p.2.2.1 p.2.2.2).1)]
theorem reck_cons (op : ByteArray) (acc : List Rw) (p : Pr) (r : List Pr) :
    reckA op acc (p :: r) = if (Fix.doF op p.2.2.1 p.2.2.2).2 = 0 then reckA op (putP op p acc) r else ([], (Fix.doF op p.2.2.1 p.2.2.2).2) := by
  rw [reckA]
  unfold putP
  by_cases h0 : (Fix.doF op p.2.2.1 p.2.2.2).2 = 0
  · rw [if_pos h0, if_pos h0]
    by_cases hc : Fix.comparesF op = true
    · rw [if_pos hc, if_pos hc]
      by_cases h1 : (Fix.doF op p.2.2.1 p.2.2.2).1 = 1
      · rw [if_pos h1, if_pos h1]
      · rw [if_neg h1, if_neg h1]
    · rw [if_neg hc, if_neg hc]
  · rw [if_neg h0, if_neg h0]

/-- The inner loop: a row against what is left of the other vector; none: it ends with this error. -/
def inD (op : ByteArray) (mode : Int) (ns : List ByteArray) (x : Rw) : List Rw → List Rw → List Rw × Int
  | [], acc => (acc, 0)
  | y :: r, acc => if cmpL (keyR mode ns x.1) (keyR mode ns y.1) = 0 then (if (Fix.doF op x.2 y.2).2 = 0 then inD op mode ns x r (putP op (x, keyR mode ns x.1, x.2, y.2) acc) else ([], (Fix.doF op x.2 y.2).2)) else inD op mode ns x r acc
/-- Both loops. -/
def mD (op : ByteArray) (mode : Int) (ns : List ByteArray) (b : List Rw) : List Rw → List Rw → List Rw × Int
  | [], acc => orderR acc
  | x :: r, acc => if (inD op mode ns x b acc).2 = 0 then mD op mode ns b r (inD op mode ns x b acc).1 else ([], (inD op mode ns x b acc).2)

theorem inD_none (op : ByteArray) {mode : Int} {ns : List ByteArray} {x : Rw} : ∀ (r acc : List Rw), keyR mode ns x.1 ∉ keysR mode ns r → inD op mode ns x r acc = (acc, 0)
  | [], _, _ => rfl
  | y :: r, acc, h => by
    unfold keysR at h
    rw [List.map_cons, List.mem_cons, not_or] at h
    rw [inD, if_neg (fun h0 => h.1 ((cmpL_zero _ _).1 h0))]
    exact inD_none op r acc h.2
theorem inD_eq (op : ByteArray) {mode : Int} {ns : List ByteArray} {x : Rw} : ∀ (b acc : List Rw), (keysR mode ns b).Nodup →
    inD op mode ns x b acc = match pairM mode ns b x with
      | none => (acc, 0)
      | some p => if (Fix.doF op p.2.2.1 p.2.2.2).2 = 0 then (putP op p acc, 0) else ([], (Fix.doF op p.2.2.1 p.2.2.2).2)
  | [], _, _ => rfl
  | y :: r, acc, h => by
    have h2 := h
    unfold keysR at h2
    rw [List.map_cons, List.nodup_cons] at h2
    by_cases hk : keyR mode ns x.1 = keyR mode ns y.1
    · rw [inD, if_pos ((cmpL_zero _ _).2 hk)]
      have hp : pairM mode ns (y :: r) x = some (x, keyR mode ns x.1, x.2, y.2) := by
        unfold pairM
        rw [findV, if_pos ((sameL_iff _ _).2 hk.symm)]
        rfl
      rw [hp]
      by_cases h0 : (Fix.doF op x.2 y.2).2 = 0
      · rw [if_pos h0, inD_none op r _ (by rw [hk]; exact h2.1)]
        show _ = if (Fix.doF op x.2 y.2).2 = 0 then _ else _
        rw [if_pos h0]
      · rw [if_neg h0]
        show _ = if (Fix.doF op x.2 y.2).2 = 0 then _ else _
        rw [if_neg h0]
    · rw [inD, if_neg (fun h0 => hk ((cmpL_zero _ _).1 h0)), inD_eq op r acc h2.2]
      have hp : pairM mode ns (y :: r) x = pairM mode ns r x := by
        unfold pairM
        rw [findV, if_neg (fun h0 => hk ((sameL_iff _ _).1 h0).symm)]
      rw [hp]
theorem mD_eq (op : ByteArray) {mode : Int} {ns : List ByteArray} {b : List Rw} (hb : (keysR mode ns b).Nodup) : ∀ a acc : List Rw, mD op mode ns b a acc = reckA op acc (a.filterMap (pairM mode ns b))
  | [], _ => rfl
  | x :: r, acc => by
    rw [mD, inD_eq op b acc hb]
    cases hp : pairM mode ns b x with
    | none =>
      rw [List.filterMap_cons_none hp]
      show (if (0 : Int) = 0 then _ else _) = _
      rw [if_pos rfl]
      exact mD_eq op hb r acc
    | some p =>
      rw [List.filterMap_cons_some hp, reck_cons]
      by_cases h0 : (Fix.doF op p.2.2.1 p.2.2.2).2 = 0
      · simp only [if_pos h0]
        exact mD_eq op hb r _
      · simp only [if_neg h0]

/-- Rows of keys alone. -/
def keyed0 (l : List Labs) : List Rw := l.map fun k => (k, 0)
theorem keyed0_labs (l : List Labs) : (keyed0 l).map (·.1) = l := by
  unfold keyed0
  rw [List.map_map]
  exact List.map_id l
theorem rises_nodupD {s : List Rw} (h : risesR s = true) : (s.map (·.1)).Nodup := by
  have h2 := (rises_iff s).1 h
  rw [List.nodup_iff_pairwise_ne, List.pairwise_map]
  exact h2.imp fun {x y} h3 h4 => by
    rw [h4, cmpL_self] at h3
    omega
theorem nodup_risesD {s : List Rw} (hs : s.Pairwise fun x y => leR x y = true) (hn : (s.map (·.1)).Nodup) : risesR s = true := by
  rw [rises_iff]
  rw [List.nodup_iff_pairwise_ne, List.pairwise_map] at hn
  refine (hs.and hn).imp fun {x y} h => ?_
  have h1 := (leR_iff x y).1 h.1
  have h2 : cmpL x.1 y.1 ≠ 0 := fun h3 => h.2 ((cmpL_zero _ _).1 h3)
  omega
theorem keys_order (l : List Labs) : (orderR (keyed0 l)).2 = if onceB l then 0 else 6 := by
  have hp := (sortR_perm (keyed0 l)).map (·.1)
  rw [keyed0_labs] at hp
  unfold orderR
  by_cases h : onceB l = true
  · rw [if_pos h, if_pos (nodup_risesD (sortR_sorted _) (hp.nodup_iff.2 ((once_iff l).1 h)))]
  · rw [if_neg h, if_neg (fun h2 => h ((once_iff l).2 (hp.nodup_iff.1 (rises_nodupD h2))))]

/-- Do two lists bear the same labels, row by row? -/
def labsB : List Rw → List Rw → Bool
  | x :: r, y :: s => decide (cmpL x.1 y.1 = 0) && labsB r s
  | _, _ => true
theorem labs_map : ∀ {a b : List Rw}, a.length = b.length → labsB a b = true → a.map (·.1) = b.map (·.1)
  | [], [], _, _ => rfl
  | x :: r, y :: s, hl, h => by
    rw [labsB, Bool.and_eq_true, decide_eq_true_eq] at h
    rw [List.map_cons, List.map_cons, (cmpL_zero _ _).1 h.1, labs_map (Nat.succ.inj hl) h.2]
theorem labs_refl : ∀ a : List Rw, labsB a a = true
  | [] => rfl
  | x :: r => by rw [labsB, labs_refl r, cmpL_self]; rfl
theorem rises_labs {a b : List Rw} (h : a.map (·.1) = b.map (·.1)) (ha : risesR a = true) : risesR b = true := by
  have key : ∀ s : List Rw, risesR s = true ↔ (s.map (·.1)).Pairwise fun x y => cmpL x y < 0 := fun s => by rw [rises_iff, List.pairwise_map]
  rw [key] at *
  rw [← h]; exact ha
theorem rightD_err {xs : List Rw} (h : (tidyR xs).2 ≠ 0) : rightR xs = false := by
  cases hr : rightR xs with
  | false => rfl
  | true =>
    refine absurd ?_ h
    unfold rightR at hr
    rw [Bool.and_eq_true] at hr
    unfold tidyR
    rw [if_pos hr.1, order_rises hr.2]
theorem rightD_ok {xs : List Rw} (h : (tidyR xs).2 = 0) : (tidyR xs).1.length = xs.length ∧ rightR xs = labsB (tidyR xs).1 xs := by
  have hf : fitR xs = true := by
    by_cases hf : fitR xs = true
    · exact hf
    · unfold tidyR at h
      rw [if_neg hf] at h
      cases h
  have ht : tidyR xs = orderR xs := by unfold tidyR; rw [if_pos hf]
  rw [ht] at h ⊢
  rcases order_cases xs with h2 | ⟨_, hp, hr⟩
  · rw [h2] at h; cases h
  refine ⟨hp.length_eq, ?_⟩
  have h3 : rightR xs = risesR xs := by unfold rightR; rw [hf]; rfl
  rw [h3]
  cases hx : risesR xs with
  | true => rw [order_rises hx]; exact (labs_refl _).symm
  | false =>
    cases hb : labsB (orderR xs).1 xs with
    | false => rfl
    | true =>
      have := rises_labs (labs_map hp.length_eq hb) hr
      rw [hx] at this; cases this
end Go.Proofs.YtbdnonphkobkoaaGreat.Vec
