import Derived.Test.YtlnlbahggbbaeaaGreatGg
import Derived.Test.YtlnlbahggbbaeaaGreatGe
import Derived.Test.YtlnlbahggbbaeaaGreatGf
section
/- Vectors: all rows with their keys, keys as texts, numbers by these. -/

namespace Go.Proofs.YtlnlbahggbbaeaaGreat.Vec
open Go.RowKit Go.Maps Go.WideMaps

theorem infoRow : (Tryz.prog.info? 51).map (fun i => (i.zero, i.size, i.bytes)) = some (some (.agg #[.slice none 0 0, .int .i64 0]), 2, 32) := by kernel_rfl
theorem cells_k (w : World) (L : List Value) (t : TypeId) : ∀ j u, L[j]? = some u → (w.alloc (.cells L.toArray t)).cell? ((⟨w.heap.size, 0, none⟩ : Addr).add j) = some u := by
  intro j u hj
  have hW : (w.alloc (.cells L.toArray t)).heap[w.heap.size]? = some (.cells L.toArray t (0, 0)) := Array.getElem?_push_size
  unfold Addr.add
  split
  · next e => subst e; unfold World.cell?; simp only [hW]; simpa using hj
  · unfold World.cell?; simp only [hW]; simpa using hj
abbrev OwnR (w : World) (B : Nat) (v : Value) (us : List (List Value)) (xs : List Rw) : Prop := OwnG (ERow 0) 2 51 w B v us xs
def SmR (xs : List Rw) : Prop := ∀ x ∈ xs, SmL x.1

end Go.Proofs.YtlnlbahggbbaeaaGreat.Vec
end

section
/- Vectors: keys as texts, numbers by these. -/

namespace Go.Proofs.YtlnlbahggbbaeaaGreat.Vec
open Go.RowKit Go.Maps Go.WideMaps

def kT (l : Labs) : ByteArray := ⟨(textT l).toArray⟩
theorem kT_list (l : Labs) : (kT l).data.toList = textT l := rfl

def findK (key : Labs) : List (Rw × Labs) → Option Int
  | [] => none
  | p :: r => if sameL p.2 key then some p.1.2 else findK key r
theorem findK_snoc (key : Labs) (p : Rw × Labs) : ∀ l : List (Rw × Labs), findK key (l ++ [p]) = (findK key l).or (if sameL p.2 key then some p.1.2 else none)
  | [] => by simp [findK]
  | q :: r => by
    rw [List.cons_append, findK, findK, findK_snoc key p r]
    split <;> simp
/-- A map from the texts of keys to numbers. -/
structure NumsOf (D : DataW Unit) (l : List (Rw × Labs)) : Prop where
  isMap : IsMap D
  has : ∀ key, rightB key = true → Maps.has D (.string (kT key).data.toList) = (findK key l).isSome
  at0 : ∀ key v, rightB key = true → findK key l = some v → ∀ z, D.atKey (.string (kT key).data.toList) z = .lit (.int .i64 v)
theorem NumsOf.nil : NumsOf (.map []) [] := ⟨isMap_empty, fun _ _ => rfl, fun _ _ _ h => by cases h⟩
theorem NumsOf.put {D : DataW Unit} {l : List (Rw × Labs)} {p : Rw × Labs} (h : NumsOf D l) (hp : rightB p.2 = true) (hf : findK p.2 l = none) : NumsOf (D.put (.string (kT p.2).data.toList) (.lit (.int .i64 p.1.2))) (l ++ [p]) := by
  have hne : ∀ key, rightB key = true → key ≠ p.2 → (Lit.string (kT key).data.toList) ≠ .string (kT p.2).data.toList := fun key hk hne e => by
    rw [kT_list, kT_list] at e
    exact hne (text_inj key p.2 (right_names hk) (right_names hp) (Lit.string.inj e))
  refine ⟨h.isMap.put _ _, fun key hk => ?_, fun key v hk hv z => ?_⟩
  · rw [findK_snoc]
    by_cases e : key = p.2
    · subst e
      rw [has_put_same h.isMap (by simp [WideAt.IsKeyLit]), hf, if_pos ((sameL_iff _ _).2 rfl)]; rfl
    · rw [has_put_other (hne key hk e), h.has key hk, if_neg (fun hs => e ((sameL_iff _ _).1 hs).symm), Option.or_none]
  · rw [findK_snoc] at hv
    by_cases e : key = p.2
    · subst e
      rw [hf, if_pos ((sameL_iff _ _).2 rfl)] at hv
      rw [atKey_put_same h.isMap (by simp [WideAt.IsKeyLit])]
      cases hv; rfl
    · rw [if_neg (fun hs => e ((sameL_iff _ _).1 hs).symm), Option.or_none] at hv
      rw [atKey_put_other (hne key hk e)]
      exact h.at0 key v hk hv z
theorem grown_none {w w' : World} (h : Below w.heap.size w w') : w.grownBy w' none := ⟨h.os, h.tape, h.output, h.size, fun i hi _ => h.block i hi⟩
end Go.Proofs.YtlnlbahggbbaeaaGreat.Vec
end

section
/- Vectors: numbers by the texts of keys: the walk. -/

namespace Go.Proofs.YtlnlbahggbbaeaaGreat.Vec
open Go.RowKit Go.Maps Go.WideMaps

end Go.Proofs.YtlnlbahggbbaeaaGreat.Vec
end

section
/- Rows of the call's own, brought into order by the library's sort. -/

namespace Go.Proofs.YtlnlbahggbbaeaaGreat.Vec
open Go.RowKit Go.Lib Go.Sort

/-- A row, where it lies in a world. -/
structure At (w : World) where
  o : Option Addr
  c : Nat
  x : Rw
  ok : LabS w 0 o x.1 ∧ x.1.length ≤ maxLen
instance (w : World) : Inhabited (At w) := ⟨⟨none, 0, ([], 0), ⟨.inl rfl, fun h => absurd rfl h⟩, Nat.zero_le _⟩⟩
variable {t : TypeId}

end Go.Proofs.YtlnlbahggbbaeaaGreat.Vec
end

section
/- Vectors: new rows brought into order: the walk. -/

namespace Go.Proofs.YtlnlbahggbbaeaaGreat.Vec
open Go.RowKit

end Go.Proofs.YtlnlbahggbbaeaaGreat.Vec
end
