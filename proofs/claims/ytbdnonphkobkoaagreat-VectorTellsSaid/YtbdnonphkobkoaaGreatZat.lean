/- Walks: lists of texts that are seen. -/
import Derived.Test.YtbdnonphkobkoaaGreatGe
import Derived.Laws.OwnMore
namespace Go.Proofs.YtbdnonphkobkoaaGreat.Txt
open Go.RowKit

theorem get_at {xs : List ByteArray} {n k : Nat} (hn : xs.length = n) (hk : k < n) : ∃ x, xs[k]? = some x := ⟨xs[k]'(by omega), List.getElem?_eq_getElem _⟩
/-- A slice that reads as these texts. -/
def SeesT (w : World) (o : Option Addr) (zs : List ByteArray) : Prop := zs = [] ∨ ∃ b off, o = some ⟨b, off, none⟩ ∧ b < w.heap.size ∧ ∀ (j : Nat) (x : ByteArray), zs[j]? = some x → w.cell? ⟨b, off + j, none⟩ = some (.string x)
theorem SeesT.below {w w' : World} {o : Option Addr} {zs : List ByteArray} (h : SeesT w o zs) (hb : Below w.heap.size w w') : SeesT w' o zs :=
  h.imp id fun ⟨b, off, e, hl, hc⟩ => ⟨b, off, e, Nat.lt_of_lt_of_le hl hb.size, fun j x hx => (hb.cell (p := ⟨b, off + j, none⟩) hl).trans (hc j x hx)⟩
theorem SeesT.at {w : World} {o : Option Addr} {zs : List ByteArray} (h : SeesT w o zs) {k : Nat} {x : ByteArray} (hx : zs[k]? = some x) : ∃ b off, o = some ⟨b, off, none⟩ ∧ w.cell? ⟨b, off + k, none⟩ = some (.string x) := by
  rcases h with rfl | ⟨b, off, e, _, hc⟩
  · simp at hx
  · exact ⟨b, off, e, hc k x hx⟩
theorem infoT : (Tryz.prog.info? 9).map (fun i => (i.zero, i.size, i.bytes)) = some (some (.string ⟨#[]⟩), 1, 16) := by kernel_rfl
theorem one_int (xs : List ByteArray) : ∀ u ∈ xs.map (Value.string), u.oneCell' = true := by
  intro u hu; obtain ⟨x, _, rfl⟩ := List.mem_map.1 hu; rfl
/-- The cells of texts that are read, as a source. -/
theorem sees_src {w : World} {b off : Nat} {zs : List ByteArray} (hc : ∀ (j : Nat) (x : ByteArray), zs[j]? = some x → w.cell? ⟨b, off + j, none⟩ = some (.string x)) : ∀ j u, (zs.map (Value.string))[j]? = some u → w.cell? ((⟨b, off, none⟩ : Addr).add j) = some u := by
  intro j u hu
  have e : ((⟨b, off, none⟩ : Addr).add j) = ⟨b, off + j, none⟩ := by
    unfold Addr.add; split
    · next h => subst h; rfl
    · rfl
  rw [List.getElem?_map] at hu
  cases hz : zs[j]? with
  | none => rw [hz] at hu; simp at hu
  | some x => rw [hz] at hu; simp at hu; subst hu; rw [e]; exact hc j x hz

theorem SeesT.of {w : World} {o : Option Addr} {ns : List ByteArray} (h : SeesN w o ns) : SeesT w o ns :=
  h.imp id fun ⟨b, off, e, hl, hc⟩ => ⟨b, off, e, hl, fun j x hx => by
    have hj := (List.getElem?_eq_some_iff.1 hx).1
    rw [hc j hj]; simp [List.getD, hx]⟩
theorem SeesT.to {w : World} {o : Option Addr} {ns : List ByteArray} (h : SeesT w o ns) : SeesN w o ns :=
  h.imp id fun ⟨b, off, e, hl, hc⟩ => ⟨b, off, e, hl, fun j hj => hc j _ (by simp [List.getD, List.getElem?_eq_getElem hj])⟩
end Go.Proofs.YtbdnonphkobkoaaGreat.Txt
