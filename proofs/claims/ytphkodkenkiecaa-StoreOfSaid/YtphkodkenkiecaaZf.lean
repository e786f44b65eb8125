/- The document's own Tidy: plain, and what its regions lean on. -/
import Derived.Test.YtphkodkenkiecaaMg13
import Derived.Deep.RegionLaw
import Derived.Deep.AppendLies
namespace Go.Proofs.Ytphkodkenkiecaa
open Go.RowKit Go.Lib

theorem sees_all {w : World} {b off : Nat} {xs : List Lab} (h : Sees w b off xs) : ∀ j u, (flatL xs)[j]? = some u → w.cell? ((⟨b, off, none⟩ : Addr).add j) = some u := by
  intro j u hj
  have hjl : j < xs.length * 2 := by have := (List.getElem?_eq_some_iff.1 hj).1; rw [flatL_len] at this; exact this
  have ha : (⟨b, off, none⟩ : Addr).add j = ⟨b, off + j, none⟩ := by
    unfold Addr.add; split
    · next h => subst h; rfl
    · rfl
  rw [ha]
  obtain ⟨x, hx⟩ : ∃ x, xs[j / 2]? = some x := ⟨_, List.getElem?_eq_getElem (by omega)⟩
  have hf := flatL_at _ _ _ hx
  rcases Nat.mod_two_eq_zero_or_one j with hm | hm
  · rw [show j = j / 2 * 2 by omega, hf.1] at hj
    have := h.at0 _ _ hx
    rw [show off + j / 2 * 2 = off + j by omega] at this
    rw [this]; exact hj
  · rw [show j = j / 2 * 2 + 1 by omega, hf.2] at hj
    have := h.at1 _ _ hx
    rw [show off + j / 2 * 2 + 1 = off + j by omega] at this
    rw [this]; exact hj
theorem drewN_two (w : World) (a b : Nat) : (w.drewN a).drewN b = w.drewN (a + b) := by simp [World.drewN, Nat.add_assoc]
theorem Txt.drewN_below (w : World) (n : Nat) : Below w.heap.size w (w.drewN n) := ⟨rfl, rfl, rfl, Nat.le_refl _, fun _ _ => rfl⟩

/-- A label put where it belongs. -/
def insL (S : List Lab) (x : Lab) (k : Nat) : List Lab := S.take k ++ x :: S.drop k
theorem insL_perm (S : List Lab) (x : Lab) (k : Nat) : (insL S x k).Perm (S ++ [x]) := by
  unfold insL
  have h1 : (S.take k ++ x :: S.drop k).Perm (x :: (S.take k ++ S.drop k)) := List.perm_middle
  rw [List.take_append_drop] at h1
  exact h1.trans (List.perm_append_comm (l₁ := [x]) (l₂ := S))
theorem insL_len (S : List Lab) (x : Lab) (k : Nat) : (insL S x k).length = S.length + 1 := by
  have := (insL_perm S x k).length_eq; simpa using this
/-- The first labels, in order, all fit. -/
def Laid (S zs : List Lab) (i : Nat) : Prop := S.length = i ∧ S.Pairwise (fun a b => nm a < nm b) ∧ S.Perm (zs.take i) ∧ ∀ x ∈ S, fitsB x.1 x.2 = true
theorem Laid.nil (zs : List Lab) : Laid [] zs 0 := ⟨rfl, List.Pairwise.nil, List.Perm.refl _, fun x hx => by simp at hx⟩
theorem Laid.step {S zs : List Lab} {x : Lab} {i : Nat} (h : Laid S zs i) (k : Nat) (h1 : ∀ y ∈ S.take k, nm y < nm x) (h2 : ∀ y, S[k]? = some y → nm x < nm y) (hf : fitsB x.1 x.2 = true) (ht : zs.take (i + 1) = zs.take i ++ [x]) : Laid (insL S x k) zs (i + 1) := by
  obtain ⟨a, b, c, d⟩ := h
  refine ⟨by rw [insL_len, a], ?_, by rw [ht]; exact (insL_perm S x k).trans (c.append_right [x]), fun y hy => ?_⟩
  · unfold insL
    have hdrop : ∀ y ∈ S.drop k, nm x < nm y := by
      have hp : (S.drop k).Pairwise (fun a b => nm a < nm b) := b.sublist (List.drop_sublist _ _)
      cases hd : S.drop k with
      | nil => intro y hy; simp at hy
      | cons z r =>
        have hz : S[k]? = some z := by
          have : (S.drop k)[0]? = some z := by rw [hd]; rfl
          rw [List.getElem?_drop] at this; exact this
        have h3 := h2 z hz
        rw [hd] at hp
        intro y hy
        rcases List.mem_cons.1 hy with rfl | hy
        · exact h3
        · exact lt_trans' h3 ((List.pairwise_cons.1 hp).1 y hy)
    rw [List.pairwise_append]
    refine ⟨b.sublist (List.take_sublist _ _), List.pairwise_cons.2 ⟨hdrop, b.sublist (List.drop_sublist _ _)⟩, fun u hu v hv => ?_⟩
    rcases List.mem_cons.1 hv with rfl | hv
    · exact h1 u hu
    · exact lt_trans' (h1 u hu) (hdrop v hv)
  · rcases List.mem_append.1 ((insL_perm S x k).mem_iff.1 hy) with hy | hy
    · exact d y hy
    · rw [List.mem_singleton.1 hy]; exact hf
theorem Laid.done {S zs : List Lab} {n : Nat} (h : Laid S zs n) (hn : zs.length = n) (h8 : n ≤ 8) : tidyB zs = true ∧ S = sortL zs := by
  obtain ⟨a, b, c, d⟩ := h
  have hr : rightB S = true := (right_iff S).2 ⟨by omega, b, d⟩
  rw [List.take_of_length_le (by omega)] at c
  obtain ⟨e1, e2⟩ := sorted_right c (right_sorted hr)
  exact ⟨by rw [← e2]; exact hr, e1 hr⟩
theorem unfit {zs : List Lab} {x : Lab} (hx : x ∈ zs) (hf : fitsB x.1 x.2 = false) : tidyB zs = false := by
  cases ht : tidyB zs with
  | false => rfl
  | true =>
    have := ((right_iff _).1 ht).2.2 x ((sortL_perm zs).mem_iff.2 hx)
    rw [hf] at this; cases this
theorem twice {zs : List Lab} {i : Nat} {x y : Lab} (hx : zs[i]? = some x) (hy : y ∈ zs.take i) (he : nm y = nm x) : tidyB zs = false := by
  cases ht : tidyB zs with
  | false => rfl
  | true =>
    have hs := ((right_iff _).1 ht).2.1
    have hd : (sortL zs).Pairwise (fun a b => nm a ≠ nm b) := hs.imp fun {a b} h e => by rw [e] at h; exact lt_asymm' h h
    have h3 : zs.Pairwise (fun a b => nm a ≠ nm b) := (sortL_perm zs).pairwise hd (fun h e => h e.symm)
    rw [← List.take_append_drop i zs, List.pairwise_append] at h3
    have hm : x ∈ zs.drop i := by rw [drop_at hx]; exact List.mem_cons_self
    exact absurd he (h3.2.2 y hy x hm)
theorem Sees.take {w : World} {b off : Nat} {xs : List Lab} (h : Sees w b off xs) (k : Nat) : Sees w b off (xs.take k) := by
  have e : ∀ (j : Nat) (x : Lab), (xs.take k)[j]? = some x → xs[j]? = some x := fun j x hx => by
    rw [List.getElem?_take] at hx; split at hx
    · exact hx
    · simp at hx
  exact ⟨h.low, fun j x hx => h.at0 j x (e j x hx), fun j x hx => h.at1 j x (e j x hx)⟩
theorem Sees.drop {w : World} {b off : Nat} {xs : List Lab} (h : Sees w b off xs) (k : Nat) : Sees w b (off + k * 2) (xs.drop k) := by
  refine ⟨h.low, fun j x hx => ?_, fun j x hx => ?_⟩
  · rw [List.getElem?_drop] at hx
    have := h.at0 _ _ hx
    rw [show off + k * 2 + j * 2 = off + (k + j) * 2 by omega]; exact this
  · rw [List.getElem?_drop] at hx
    have := h.at1 _ _ hx
    rw [show off + k * 2 + j * 2 = off + (k + j) * 2 by omega]; exact this
theorem own_posL {B i : Nat} {v : Value} {S : List Lab} {w : World} (h : w.ownsRow B 57 2 v i (flatL S)) (hS : S.length = i) (h1 : 1 ≤ i) : ∃ g cap, v = .slice (some ⟨g, 0, none⟩) i cap ∧ (i : Int) ≤ cap ∧ g < w.heap.size ∧ i ≤ cap ∧ cap ≤ maxLen ∧ Sees w g 0 S := by
  subst hS
  obtain ⟨o, c, rfl, hs, _⟩ := own_sees h
  rcases h.2 with ⟨_, h0⟩ | ⟨g, cap, cur, e, hg, hh, hn, hcap, hsz, htake⟩
  · omega
  · cases e
    refine ⟨g, _, rfl, by omega, (Array.getElem?_eq_some_iff.1 hh).1, hn, hcap, ?_⟩
    rcases hs with rfl | ⟨b, off, e, hs⟩
    · simp at h1
    · cases e; exact hs
/-- An append onto a row of the call's own, in a region that draws its order. -/
theorem own_stepL {P : Program} {ops : Array Oper} {o : Oper} {a : Act} {w : World} {K : Act → World → Prop} {Q : Exit → Act → World → Prop} {E : Prop} (hg : o.guard = none) (s x : Operand) (t : TypeId)
    (ho : o.op = .call { callee := .builtin .append, args := #[s, x], argTypes := #[t, t] })
    (base : Nat) (e : TypeId) (i : TypeInfo) (z : Value) (size bytes : Nat) (ht : P.underlying t = some (.slice e)) (hi : P.info? e = some i) (hz : i.zero = some z)
    (hsize : i.size = size) (hby : i.bytes = bytes) (hzs : z.cells.size = size) (hsz : 0 < size)
    (v : Value) (n : Nat) (xs : List Value) (hs : a.eval s = v) (hown : w.ownsRow base e size v n xs)
    (ad : Addr) (m c : Nat) (news : List Value) (hx : a.eval x = .slice (some ad) m c) (hl : news.length = m * size) (hnews : ∀ j u, news[j]? = some u → w.cell? (ad.add j) = some u) (h1 : ∀ u ∈ news, u.oneCell' = true)
    (h63 : n + m ≤ maxLen) (hbytes : (n + m) * bytes ≤ 140737488355328) (hbase : base ≤ w.heap.size)
    (h : ∀ v' w', w'.ownsRow base e size v' (n + m) (xs ++ news) → w.grownBy w' v.ownBlock → K (a.put o.dst v') w') :
    if Region.wanted o (yielded ops a.tmps) = true then Oper.wp P o a w K Q else E := by
  rw [if_pos (by simp [Region.wanted, hg])]
  exact wp_append_own w s x t ho base e i z size bytes ht hi hz hsize hby hzs hsz v n xs hs hown ad m c news hx hl hnews h1 h63 hbytes hbase fun v' w' h2 h3 _ => h v' w' h2 h3
theorem below_ownL {w w' : World} (h : w.grownBy w' (Value.slice none 0 0).ownBlock) : Below w.heap.size w w' := ⟨h.os, h.tape, h.output, h.size, fun j hj => h.block j hj (by simp [Value.ownBlock])⟩
theorem cell_keptL {wq wA : World} {x : Lab} (h : (wq.drew.alloc (.cells #[.string x.1, .string x.2] 57)).grownBy wA (Value.slice none 0 0).ownBlock) : ∀ j u, [Value.string x.1, Value.string x.2][j]? = some u → wA.cell? ((⟨wq.heap.size, 0, none⟩ : Addr).add j) = some u := by
  intro j u hj
  have h1 := cells_2 wq.drew (.string x.1) (.string x.2) 57 j u hj
  refine ((below_ownL h).cell (p := (⟨wq.heap.size, 0, none⟩ : Addr).add j) ?_).trans h1
  unfold Addr.add; split <;> simp
theorem own_insL {w0 : Nat} {wq wD : World} {S : List Lab} {i : Nat} {v : Value} (hB : w0 ≤ wq.heap.size) (k : Nat) (x : Lab) (hk : k ≤ i)
    (h : wD.ownsRow wq.heap.size 57 2 v (0 + k + 1 + (i - k)) ([] ++ flatL (S.take k) ++ [.string x.1, .string x.2] ++ flatL (S.drop k))) : wD.ownsRow w0 57 2 v (i + 1) (flatL (insL S x k)) := by
  have e1 : 0 + k + 1 + (i - k) = i + 1 := by omega
  have e2 : [] ++ flatL (S.take k) ++ [.string x.1, .string x.2] ++ flatL (S.drop k) = flatL (insL S x k) := by unfold insL flatL; simp
  rw [e1, e2] at h
  exact own_mono h hB
theorem le_step {S : List Lab} {x y : Lab} {k : Nat} (h : ∀ z ∈ S.take k, nm z < nm x) (hy : S[k]? = some y) (hl : nm y < nm x) : ∀ z ∈ S.take (k + 1), nm z < nm x := by
  have e : S.take (k + 1) = S.take k ++ [y] := by rw [List.take_add_one, hy]; rfl
  intro z hz
  rw [e] at hz
  rcases List.mem_append.1 hz with hz | hz
  · exact h z hz
  · rw [List.mem_singleton.1 hz]; exact hl
/-- What the document's Tidy leaves. -/
def RTidied (B : Nat) (xs : List Lab) (e : Ending) (w' : World) : Prop :=
  (tidyB xs = true ∧ ∃ v, e = .returned (.tuple #[v, .bool true]) ∧ w'.ownsRow B 57 2 v (sortL xs).length (flatL (sortL xs))) ∨ (tidyB xs = false ∧ e = .returned (.tuple #[.slice none 0 0, .bool false]))
end Go.Proofs.Ytphkodkenkiecaa
