/- Plain, and what the law of sorted lists wants of memory. -/
import Derived.Test.YtlnlbahggbbaeaaMlq
import Derived.Test.YtlnlbahggbbaeaaMlm
import Derived.Deep.AppendLies
import Derived.Laws.AppendOwnNone
import Derived.Deep.Upon
namespace Go.Proofs.Ytlnlbahggbbaeaa.Mrg
open Go.RowKit Go.Lib Go.Proofs.Ytlnlbahggbbaeaa Go.Proofs.Ytlnlbahggbbaeaa.Vec Go.Proofs.Ytlnlbahggbbaeaa.Stb

theorem sort_is (by_ : Int) : sortF by_ = srt (lessR by_) := funext fun l => sortF_srt by_ l
theorem mergeF_is (by_ : Int) (ls : List (List Rw)) : (mergeH by_ ls).map (·.2) = mergeF (lessR by_) ls := rfl
/-- Sorted lists, put together: all rows sorted; in order; in two parts. -/
theorem sorted_all {by_ : Int} (ls : List (List Rw)) : mergeF (lessR by_) (ls.map (sortF by_)) = sortF by_ ls.flatten := by
  rw [sort_is]; exact merge_sorted (swo_less by_) ls
theorem sorted_each {by_ : Int} {ls : List (List Rw)} : ∀ l ∈ ls.map (sortF by_), Srt (lessR by_) l := fun l hl => by
  obtain ⟨x, _, rfl⟩ := List.mem_map.1 hl
  exact sort_srtd by_ x
theorem sorted_in {by_ : Int} (ls : List (List Rw)) : inO by_ (mergeF (lessR by_) (ls.map (sortF by_))) = true := by
  rw [sorted_all]; exact inO_srt (sort_srtd by_ _)
theorem sorted_two {by_ : Int} (ls : List (List Rw)) (k : Nat) : mergeF (lessR by_) [mergeF (lessR by_) ((ls.map (sortF by_)).take k), mergeF (lessR by_) ((ls.map (sortF by_)).drop k)] = mergeF (lessR by_) (ls.map (sortF by_)) := by
  have h := merge_parts (swo_less by_) ((ls.map (sortF by_)).take k) ((ls.map (sortF by_)).drop k) (fun l hl => sorted_each l (List.mem_of_mem_take hl)) (fun l hl => sorted_each l (List.mem_of_mem_drop hl))
  rw [List.take_append_drop] at h
  exact h
theorem sort_mem {by_ : Int} {l : List Rw} {x : Rw} (h : x ∈ sortF by_ l) : x ∈ l := by
  rw [sort_is] at h
  exact (srt_perm l).mem_iff.1 h
theorem sort_smR {by_ : Int} {l : List Rw} (h : SmR l) : SmR (sortF by_ l) := fun x hx => h x (sort_mem hx)
theorem mergeF_len (by_ : Int) (ls : List (List Rw)) : (mergeF (lessR by_) ls).length = ls.flatten.length := by
  rw [← mergeF_is, List.length_map, mergeH_len]
theorem mergeF_smR {by_ : Int} {ls : List (List Rw)} (h : ∀ l ∈ ls, SmR l) : SmR (mergeF (lessR by_) ls) := fun x hx => by
  obtain ⟨l, hl, hx⟩ := List.mem_flatten.1 (mergeN_mem (swo_less by_) _ ls x hx)
  exact h l hl x hx
/-- The cells of rows that are read. -/
theorem cells_rows {B b : Nat} {w : World} : ∀ (P : List Rw) (off : Nat), SeesG (ERow B) 2 w b off P → ∃ us : List (List Value), us.length = P.length ∧ (∀ (j : Nat) (x : Rw), P[j]? = some x → ∃ u, us[j]? = some u ∧ ERow B w u x) ∧ (∀ u ∈ us, u.length = 2 ∧ ∀ v ∈ u, v.oneCell' = true) ∧ ∀ (i : Nat) (v : Value), us.flatten[i]? = some v → w.cell? ⟨b, off + i, none⟩ = some v
  | [], _, _ => ⟨[], rfl, fun j x h => by simp at h, fun u h => by simp at h, fun i v h => by simp at h⟩
  | x :: P, off, h => by
    obtain ⟨u, h1, h2⟩ := h.at0 0 x rfl
    obtain ⟨us, i1, i2, i3, i4⟩ := cells_rows P (off + 2) ⟨h.low, fun j y hy => by
      obtain ⟨u, h1, h2⟩ := h.at0 (j + 1) y (by simpa using hy)
      exact ⟨u, h1, fun i v hv => by rw [← h2 i v hv]; congr 2; omega⟩⟩
    have hu : u.length = 2 := (frow (B := B)).wide _ _ _ h1
    refine ⟨u :: us, by rw [List.length_cons, i1, List.length_cons], fun j y hy => ?_, fun v hv => ?_, fun i v hv => ?_⟩
    · cases j with
      | zero => simp at hy; subst hy; exact ⟨u, rfl, h1⟩
      | succ j => exact i2 j y (by simpa using hy)
    · rcases List.mem_cons.1 hv with rfl | hv
      · exact ⟨hu, (frow (B := B)).cell _ _ _ h1⟩
      · exact i3 v hv
    · rw [List.flatten_cons] at hv
      by_cases hi : i < 2
      · rw [List.getElem?_append_left (by omega)] at hv
        rw [← h2 i v hv]; congr 2; omega
      · rw [List.getElem?_append_right (by omega), hu] at hv
        rw [← i4 (i - 2) v hv]; congr 2; omega
theorem off_add (b off j : Nat) : (⟨b, off, none⟩ : Addr).add j = ⟨b, off + j, none⟩ := by
  unfold Addr.add
  split
  · next h => subst h; rfl
  · rfl
/-- A list whose rows lie in no block that turns. -/
theorem LsS.turn {A C : World} {B : Nat} {m : Ls} {row : Option Nat} {t : TypeId} (h : LsS A B m) (hg : A.grownBy C row) (ht : 62 ≠ t) (hr : ∀ g, row = some g → B ≤ g ∧ ∃ cs q, A.heap[g]? = some (.cells cs t q)) (hne : ∀ b off, m.o = some ⟨b, off, none⟩ → row ≠ some b) : LsS C B m := by
  refine ⟨h.cap, h.len, ?_⟩
  rcases h.rows with h1 | ⟨b, off, e, hs⟩
  · exact .inl h1
  · refine .inr ⟨b, off, e, Nat.lt_of_lt_of_le hs.low hg.size, fun j x hx => ?_⟩
    obtain ⟨u, h2, h3⟩ := hs.at0 j x hx
    refine ⟨u, (firmRow (B := B) ht).grown _ _ _ _ _ h2 hr hg, fun i v hv => ?_⟩
    rw [← h3 i v hv]
    exact World.cell?_of_block (a := ⟨b, _, none⟩) (hg.block b hs.low (fun e2 => hne b off e e2.symm))
theorem own_ne2 {w : World} {B1 B2 s1 s2 n1 n2 : Nat} {t1 t2 : TypeId} {v1 v2 : Value} {x1 x2 : List Value} (h1 : w.ownsRow B1 t1 s1 v1 n1 x1) (h2 : w.ownsRow B2 t2 s2 v2 n2 x2) (hne : t1 ≠ t2) : v1.ownBlock = none ∨ v1.ownBlock ≠ v2.ownBlock := by
  cases e1 : v1.ownBlock with
  | none => exact .inl rfl
  | some g =>
    refine .inr fun e2 => ?_
    obtain ⟨_, cs, q, hh⟩ := own_row h1 g e1
    obtain ⟨_, cs2, q2, hh2⟩ := own_row h2 g e2.symm
    rw [hh] at hh2
    cases hh2
    exact hne rfl
/-- Rows of one's own, where a row of another type turns. -/
theorem own_other {w w' : World} {BE B N s n : Nat} {v v2 : Value} {us : List (List Value)} {xs : List Rw} {x2 : List Value} {t : TypeId} (h : OwnG (ERow BE) 2 37 w B v us xs) (h2 : w.ownsRow N t s v2 n x2) (ht : 37 ≠ t) (hl : 62 ≠ t) (hN : BE ≤ N) (hg : w.grownBy w' v2.ownBlock) : OwnG (ERow BE) 2 37 w' B v us xs := by
  refine ⟨h.len, h.own.kept hg (own_ne2 h.own h2 ht), fun j x hx => ?_⟩
  obtain ⟨u, h3, h4⟩ := h.one j x hx
  refine ⟨u, h3, (firmRow (B := BE) hl).grown _ _ _ _ _ h4 (fun g e => ?_) hg⟩
  obtain ⟨g1, g2⟩ := own_row h2 g e
  exact ⟨by omega, g2⟩
theorem wpList_append_empty {P : Program} {w : World} {ops : Array Oper} {rest : List Oper} {o : Oper} {a : Act} {Q : Exit → Act → World → Prop} (hgd : o.guard = none) (s x : Operand) (t : TypeId)
    (ho : o.op = .call { callee := .builtin .append, args := #[s, x], argTypes := #[t, t] }) (e : TypeId) (i : TypeInfo) (ht : P.underlying t = some (.slice e)) (hi : P.info? e = some i)
    (bo : Option Addr) (n c : Nat) (hs : a.eval s = .slice bo n c) (hle : n ≤ c) (xo : Option Addr) (xc : Nat) (hx : a.eval x = .slice xo 0 xc) (h : wpList P ops Q rest (a.put o.dst (.slice bo n c)) w) : wpList P ops Q (o :: rest) a w := by
  refine wpList_plain hgd fun K hK => ?_
  have hsrc : Src P i.size t (.slice xo 0 xc) 0 [] w := by
    cases xo with
    | none => exact Src.ofNil w ht xc
    | some ad => exact Src.ofSlice w ht ad 0 xc [] (by simp) (fun j u hj => by simp at hj) (fun u hu => by cases hu)
  have hrun := run_append_nothing (P := P) w t t o.type e i ht hi bo n c hle (.slice xo 0 xc) hsrc
  unfold Oper.wp
  simp [execOp, ho, resolve, invoke, builtin, hs, hx, hrun, Result.andThen]
  exact hK _ _ h
/-- A row of lists of one's own is lists as they are handed in; a part of them, too. -/
theorem lists_part {w : World} {N B g n c : Nat} {mss : List Ls} (h : w.ownsRow N 25 1 (.slice (some ⟨g, 0, none⟩) n c) n (mss.map fun m => .slice m.o m.xs.length m.c)) (hm : ∀ m ∈ mss, LsS w B m) (k q : Nat) : ListS w B (some ⟨g, k, none⟩) ((mss.drop k).take q) := by
  have hlt := (h.lt g rfl).2
  refine .inr ⟨g, k, rfl, hlt, fun j m hj => ?_⟩
  have h2 : mss[k + j]? = some m := by
    rw [List.getElem?_take] at hj
    split at hj
    · rw [List.getElem?_drop] at hj; exact hj
    · cases hj
  exact ⟨row_cell h (by rw [List.getElem?_map, h2]; rfl), hm m (List.mem_of_getElem? h2)⟩
end Go.Proofs.Ytlnlbahggbbaeaa.Mrg
