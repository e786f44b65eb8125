/- Groups: names that a call gathers. -/
import Derived.Test.YtbdnonphkobkoaaGreatGse
import Derived.Test.YtbdnonphkobkoaaGreatGsv
namespace Go.Proofs.YtbdnonphkobkoaaGreat.Grp
open Go.RowKit Go.Lib Go.Sort Vec Fix

theorem infoStr : (Tryz.prog.info? 9).map (fun i => (i.zero, i.size, i.bytes)) = some (some (.string ⟨#[]⟩), 1, 16) := by kernel_rfl
theorem cells_1 (w : World) (a : Value) (t : TypeId) : ∀ j u, [a][j]? = some u → (w.alloc (.cells #[a] t)).cell? ((⟨w.heap.size, 0, none⟩ : Addr).add j) = some u := by
  intro j u hj
  match j, hj with
  | 0, hj => simp at hj; subst hj; simp [Addr.add]
  | j + 1, hj => simp at hj
theorem one_1 (a : ByteArray) : ∀ v ∈ [Value.string a], v.oneCell' = true := by
  intro v hv; simp at hv; rcases hv with rfl; rfl
/-- A slice of the call's own reads as its names. -/
theorem own_names {w : World} {B : Nat} {v : Value} {ns : List ByteArray} (h : w.ownsRow B 9 1 v ns.length (ns.map .string)) : ∃ o c, v = .slice o ns.length c ∧ SeesN w o ns := by
  rcases h.2 with ⟨rfl, h0⟩ | ⟨g, cap, cur, rfl, hg, hh, hn, hcap, hsz, htake⟩
  · have h0' : ns = [] := List.eq_nil_of_length_eq_zero h0
    subst h0'
    exact ⟨none, 0, rfl, .inl rfl⟩
  · refine ⟨_, cap, rfl, .inr ⟨g, 0, rfl, (Array.getElem?_eq_some_iff.1 hh).1, fun j hj => ?_⟩⟩
    have hx : (ns.map Value.string)[j]? = some (.string (ns.getD j ByteArray.empty)) := by
      rw [List.getElem?_map, List.getElem?_eq_getElem hj, List.getD_eq_getElem?_getD, List.getElem?_eq_getElem hj]; rfl
    have := h.cells (g := g) rfl j _ hx
    rw [← this]; simp [Addr.add]; split <;> simp_all
theorem in_names {xs : List Rw} {x : Rw} (hx : x ∈ xs) : ∀ y ∈ x.1, inB (namesR xs) y = true := fun y hy => by
  unfold inB
  have hm : y.1 ∈ namesR xs := List.mem_flatten.2 ⟨x.1.map (·.1), List.mem_map.2 ⟨x, hx, rfl⟩, List.mem_map.2 ⟨y, hy, rfl⟩⟩
  exact (Lib.containsS_iff _ _).2 hm
theorem names_snoc {xs : List Rw} {i : Nat} {x : Rw} (h : xs[i]? = some x) : namesR (xs.take (i + 1)) = namesR (xs.take i) ++ x.1.map (·.1) := by
  rw [take_atG h]; unfold namesR; simp

end Go.Proofs.YtbdnonphkobkoaaGreat.Grp
