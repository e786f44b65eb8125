/- Groups: by all names, and by none, plain. -/
import Derived.Test.YtbdnonphkobkoaaGreatGsa
namespace Go.Proofs.YtbdnonphkobkoaaGreat.Grp
open Go.RowKit Go.Lib Go.Sort Vec Fix

/-- The names of all rows' labels, in their order. -/
def namesR (xs : List Rw) : List ByteArray := (xs.map fun x => x.1.map (·.1)).flatten
theorem by_all {ns : List ByteArray} {l : Labs} (h : ∀ x ∈ l, inB ns x = true) : byR 1 ns l = l := by
  unfold byR keyR
  rw [if_pos (.inl rfl), if_pos rfl, List.filter_eq_self.2 h]
theorem join_rise : ∀ (l acc : List Grp), (acc ++ l).Pairwise (fun x y => cmpL x.1 y.1 < 0) → l.foldl joinF acc = acc ++ l
  | [], acc, _ => by simp
  | g :: l, acc, h => by
    rw [List.foldl_cons]
    have e : joinF acc g = acc ++ [g] := by
      rcases snoc_cases acc with rfl | ⟨A, m, rfl⟩
      · rfl
      · have hlt := (List.pairwise_append.mp h).2.2 m (by simp) g (by simp)
        rw [joinF_snoc, if_neg]
        intro hs
        rw [sameL_iff] at hs
        rw [hs, cmpL_self] at hlt
        omega
    rw [e, join_rise l (acc ++ [g]) (by simpa using h)]
    simp
theorem split_all {ns : List ByteArray} {xs : List Rw} (h : ∀ x ∈ xs, byR 1 ns x.1 = x.1) (hr : risesR xs = true) : splitR 1 ns xs = xs.map fun x => (x.1, [x]) := by
  have e : onesR 1 ns xs = xs.map fun x => (x.1, [x]) := by
    unfold onesR oneG
    exact List.map_congr_left fun x hx => by rw [h x hx]
  have hp : (xs.map fun x => ((x.1, [x]) : Grp)).Pairwise fun x y => cmpL x.1 y.1 < 0 := List.pairwise_map.2 ((rises_iff xs).1 hr)
  unfold splitR joinR
  rw [e, Stb.srt_self swoG (hp.imp fun {a b} hab => by
    unfold ltG
    rw [decide_eq_false_iff_not]
    have := cmpL_swap a.1 b.1
    omega), join_rise _ [] (by simpa using hp)]
  simp
theorem vals_all {ns : List ByteArray} {xs : List Rw} (h : ∀ x ∈ xs, byR 1 ns x.1 = x.1) (hr : risesR xs = true) : valsOf (3, 0) (splitR 1 ns xs) = xs := by
  rw [split_all h hr]
  unfold valsOf
  rw [List.map_map]
  exact (List.map_congr_left fun x _ => rfl).trans (List.map_id xs)
theorem join_same : ∀ (l : List Rw) (A : List Rw), (l.map fun x => (([] : Labs), [x])).foldl joinF [([], A)] = [([], A ++ l)]
  | [], A => by simp
  | x :: l, A => by
    rw [List.map_cons, List.foldl_cons]
    have e : joinF [(([] : Labs), A)] ([], [x]) = [([], A ++ [x])] := by
      have := joinF_snoc [] (([] : Labs), A) ([], [x])
      rw [List.nil_append] at this
      rw [this, if_pos (sameL_refl _)]; rfl
    rw [e, join_same l (A ++ [x])]; simp
theorem split_one {xs : List Rw} (h : xs ≠ []) : splitR 0 [] xs = [([], xs)] := by
  have e : onesR 0 [] xs = xs.map fun x => (([] : Labs), [x]) := by
    unfold onesR oneG byR
    exact List.map_congr_left fun x _ => by simp
  unfold splitR joinR
  rw [e, Stb.srt_self swoG (List.pairwise_map.2 (List.pairwise_of_forall (fun a b => by unfold ltG; rw [cmpL_self]; rfl)))]
  match xs, h with
  | x :: xs, _ =>
    rw [List.map_cons, List.foldl_cons, joinF_nil, join_same xs [x]]; rfl
theorem vals_one (xs : List Rw) : valsOf (4, 0) (splitR 0 [] xs) = if xs = [] then [] else [([], (xs.length : Int))] := by
  by_cases h : xs = []
  · subst h; rw [split_nil, if_pos rfl]; rfl
  · rw [split_one h, if_neg h]
    show [(([] : Labs), ((nums xs).length : Int))] = _
    unfold nums; rw [List.length_map]
theorem vals_nil (a : Nat × Int) (mode : Int) (ns : List ByteArray) : valsOf a (splitR mode ns []) = [] := by rw [split_nil]; rfl
end Go.Proofs.YtbdnonphkobkoaaGreat.Grp
