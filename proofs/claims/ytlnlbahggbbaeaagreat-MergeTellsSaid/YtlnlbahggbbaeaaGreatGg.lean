import Derived.Test.YtlnlbahggbbaeaaGreatGe
import Derived.Test.YtlnlbahggbbaeaaGreatGa
import Derived.Deep.OwnRows
import Derived.Test.YtlnlbahggbbaeaaGreatGb
import Derived.Deep.RegionHeld3
import Derived.Deep.DeepFit
import Derived.Deep.RegionWith
section
/- Vectors, plain: rows in order, keys, and what comes of pairs. -/

namespace Go.Proofs.YtlnlbahggbbaeaaGreat.Vec
open Go.RowKit Go.Lib

abbrev Labs := List Lab
abbrev Rw := Labs × Int
abbrev metricT : ByteArray := ⟨#[109, 101, 116, 114, 105, 99]⟩
def leR (x y : Rw) : Bool := decide (cmpL x.1 y.1 ≤ 0)
def risesR : List Rw → Bool
  | x :: y :: r => decide (cmpL x.1 y.1 < 0) && risesR (y :: r)
  | _ => true
def sortR (xs : List Rw) : List Rw := xs.mergeSort leR
/-- Rows by labels; none, if two have the same ones. -/
def orderR (xs : List Rw) : List Rw × Int := if risesR (sortR xs) then (sortR xs, 0) else ([], 6)
def keyR (mode : Int) (ns : List ByteArray) (l : Labs) : Labs :=
  if mode = 1 then l.filter (inB ns) else if mode = 2 then (l.filter (outB ns)).filter (outB [metricT]) else l.filter (outB [metricT])

theorem cmpL_self (l : Labs) : cmpL l l = 0 := (cmpL_zero l l).2 rfl
theorem cmpL_lt_trans {a b c : Labs} (h : cmpL a b < 0) (h2 : cmpL b c < 0) : cmpL a c < 0 := by
  have h3 := cmpL_trans a b c (by omega) (by omega)
  by_cases h0 : cmpL a c = 0
  · obtain rfl := (cmpL_zero a c).1 h0
    have := cmpL_swap a b
    omega
  · omega
theorem rises_iff : ∀ xs : List Rw, risesR xs = true ↔ xs.Pairwise fun x y => cmpL x.1 y.1 < 0
  | [] => by simp [risesR]
  | [x] => by simp [risesR]
  | x :: y :: r => by
    have ih := rises_iff (y :: r)
    rw [risesR, Bool.and_eq_true, decide_eq_true_eq, ih, List.pairwise_cons (a := x)]
    constructor
    · rintro ⟨h1, h2⟩
      refine ⟨fun z hz => ?_, h2⟩
      rcases List.mem_cons.1 hz with rfl | hz
      · exact h1
      · exact cmpL_lt_trans h1 ((List.pairwise_cons.1 h2).1 z hz)
    · rintro ⟨h1, h2⟩
      exact ⟨h1 y List.mem_cons_self, h2⟩
theorem leR_iff (x y : Rw) : leR x y = true ↔ cmpL x.1 y.1 ≤ 0 := by unfold leR; rw [decide_eq_true_eq]
theorem leR_trans (a b c : Rw) (h1 : leR a b = true) (h2 : leR b c = true) : leR a c = true := by
  rw [leR_iff] at *
  exact cmpL_trans _ _ _ h1 h2
theorem leR_total (a b : Rw) : (leR a b || leR b a) = true := by
  rw [Bool.or_eq_true, leR_iff, leR_iff]
  have := cmpL_swap a.1 b.1
  omega
theorem sortR_perm (xs : List Rw) : (sortR xs).Perm xs := List.mergeSort_perm _ _
theorem sortR_sorted (xs : List Rw) : (sortR xs).Pairwise fun x y => leR x y = true := List.pairwise_mergeSort leR_trans leR_total _
theorem same_labs {xs : List Rw} (h : risesR xs = true) : ∀ a ∈ xs, ∀ b ∈ xs, a.1 = b.1 → a = b := by
  have h2 := (rises_iff xs).1 h
  intro a ha b hb hab
  obtain ⟨i, hi, rfl⟩ := List.getElem_of_mem ha
  obtain ⟨j, hj, rfl⟩ := List.getElem_of_mem hb
  rw [List.pairwise_iff_getElem] at h2
  rcases Nat.lt_trichotomy i j with h | h | h
  · have := h2 i j hi hj h
    rw [hab, cmpL_self] at this; omega
  · subst h; rfl
  · have := h2 j i hj hi h
    rw [hab, cmpL_self] at this; omega
theorem rises_sorted {s : List Rw} (h : risesR s = true) : s.Pairwise fun x y => leR x y = true :=
  ((rises_iff s).1 h).imp fun {x y} h => (leR_iff x y).2 (by omega)
theorem sorted_sameR {s t : List Rw} (hp : s.Perm t) (h1 : s.Pairwise fun x y => leR x y = true) (h2 : t.Pairwise fun x y => leR x y = true) (hr : risesR s = true) : s = t := by
  refine hp.eq_of_pairwise (le := fun x y => leR x y = true) (fun a b ha hb hab hba => ?_) h1 h2
  rw [leR_iff] at hab hba
  have := cmpL_swap a.1 b.1
  exact same_labs hr a ha b (hp.mem_iff.2 hb) ((cmpL_zero _ _).1 (by omega))
theorem order_any {s xs : List Rw} (hp : s.Perm xs) (h1 : s.Pairwise fun x y => leR x y = true) : orderR xs = if risesR s then (s, 0) else ([], 6) := by
  unfold orderR
  by_cases hr : risesR s = true
  · have e := sorted_sameR (hp.trans (sortR_perm xs).symm) h1 (sortR_sorted xs) hr
    rw [← e]
  · by_cases hr2 : risesR (sortR xs) = true
    · have e := sorted_sameR ((sortR_perm xs).trans hp.symm) (sortR_sorted xs) h1 hr2
      rw [e]
    · rw [if_neg hr, if_neg hr2]
theorem key_mem {l : Labs} (mode : Int) (ns : List ByteArray) {x : Lab} (h : x ∈ keyR mode ns l) : x ∈ l := by
  unfold keyR at h
  split at h
  · exact (List.mem_filter.1 h).1
  · split at h
    · exact (List.mem_filter.1 (List.mem_filter.1 h).1).1
    · exact (List.mem_filter.1 h).1
theorem key_len (l : Labs) (mode : Int) (ns : List ByteArray) : (keyR mode ns l).length ≤ l.length := by
  unfold keyR
  split
  · exact List.length_filter_le _ _
  · split
    · exact Nat.le_trans (List.length_filter_le _ _) (List.length_filter_le _ _)
    · exact List.length_filter_le _ _
end Go.Proofs.YtlnlbahggbbaeaaGreat.Vec
end

section
/- Rows in memory: lists that are read, lists of the call's own. -/

namespace Go.Proofs.YtlnlbahggbbaeaaGreat.Vec
open Go.RowKit Go.Lib

/-- A block below B, or one of labels. -/
def Far (w : World) (B : Nat) (o : Option Addr) : Prop := ∀ b off, o = some ⟨b, off, none⟩ → b < B ∨ ∃ cs m, w.heap[b]? = some (.cells cs 99 m)
theorem Far.mono {w : World} {B B' : Nat} {o : Option Addr} (h : Far w B o) (hB : B ≤ B') : Far w B' o := fun b off e => (h b off e).imp (fun h => by omega) id
theorem Far.below {w w' : World} {B : Nat} {o : Option Addr} (h : Far w B o) (hb : Below w.heap.size w w') : Far w' B o := fun b off e =>
  (h b off e).imp id fun ⟨cs, m, hh⟩ => ⟨cs, m, (hb.block b (Array.getElem?_eq_some_iff.1 hh).1).trans hh⟩
/-- Labels that are read, out of the way of rows from B on. -/
structure LabS (w : World) (B : Nat) (o : Option Addr) (l : Labs) : Prop where
  sees : Go.Proofs.YtlnlbahggbbaeaaGreat.SeesO w o l
  far : l ≠ [] → Far w B o
theorem LabS.below {w w' : World} {B : Nat} {o : Option Addr} {l : Labs} (h : LabS w B o l) (hb : Below w.heap.size w w') : LabS w' B o l := ⟨h.sees.below hb, fun hne => (h.far hne).below hb⟩
theorem LabS.mono {w : World} {B B' : Nat} {o : Option Addr} {l : Labs} (h : LabS w B o l) (hB : B ≤ B') : LabS w B' o l := ⟨h.sees, fun hne => (h.far hne).mono hB⟩
theorem cell_same {w w' : World} {b off : Nat} (h : w'.heap[b]? = w.heap[b]?) : w'.cell? ⟨b, off, none⟩ = w.cell? ⟨b, off, none⟩ := by
  simp [World.cell?, h]
/-- A write into a row's block, from B on, that is not of labels, leaves them. -/
theorem LabS.grown {w w' : World} {B : Nat} {o : Option Addr} {l : Labs} {row : Option Nat} {t : TypeId} (h : LabS w B o l) (hne : 99 ≠ t) (hr : ∀ g, row = some g → B ≤ g ∧ ∃ cs m, w.heap[g]? = some (.cells cs t m)) (hg : w.grownBy w' row) : LabS w' B o l := by
  by_cases hl : l = []
  · subst hl; exact ⟨.inl rfl, fun h => absurd rfl h⟩
  have key : ∀ b off, o = some ⟨b, off, none⟩ → b < w.heap.size → w'.heap[b]? = w.heap[b]? := fun b off e hlt => by
    refine hg.block b hlt fun e2 => ?_
    obtain ⟨hB, cs2, m2, hh2⟩ := hr b e2.symm
    rcases h.far hl b off e with h1 | ⟨cs, m, hh⟩
    · omega
    · rw [hh] at hh2; cases hh2; exact hne rfl
  refine ⟨?_, fun _ b off e => ?_⟩
  · rcases h.sees with h3 | ⟨b, off, e, hS⟩
    · exact .inl h3
    · exact .inr ⟨b, off, e, Nat.lt_of_lt_of_le hS.low hg.size, fun j x hx => (cell_same (key b off e hS.low)).trans (hS.at0 j x hx), fun j x hx => (cell_same (key b off e hS.low)).trans (hS.at1 j x hx)⟩
  · rcases h.far hl b off e with h1 | ⟨cs, m, hh⟩
    · exact .inl h1
    · exact .inr ⟨cs, m, (key b off e (Array.getElem?_eq_some_iff.1 hh).1).trans hh⟩
/-- A list of labels of the call's own. -/
theorem labs_own {w : World} {B C : Nat} {v : Value} {l : Labs} (h : w.ownsRow B 99 2 v l.length (flatL l)) : ∃ o c, v = .slice o l.length c ∧ LabS w C o l ∧ l.length ≤ maxLen := by
  obtain ⟨o, c, rfl, hs, hm⟩ := own_sees h
  refine ⟨o, c, rfl, ⟨hs, fun _ b off e => .inr ?_⟩, hm⟩
  rcases h.2 with ⟨e1, _⟩ | ⟨g, cap, cur, e1, _, hh, _⟩
  · rw [(Value.slice.inj e1).1] at e; cases e
  · rw [(Value.slice.inj e1).1] at e; cases e
    exact ⟨_, _, hh⟩

/-! ### a list of the call's own, of elements of k cells -/
abbrev Elem (α : Type) := World → List Value → α → Prop
/-- What elements must bear: that blocks are laid behind, that rows of type t from B on are written. -/
structure Firm {α : Type} (E : Elem α) (k : Nat) (t : TypeId) (B : Nat) : Prop where
  wide : ∀ w u x, E w u x → u.length = k
  below : ∀ w w' u x, E w u x → Below w.heap.size w w' → E w' u x
  grown : ∀ w w' u x row, E w u x → (∀ g, row = some g → B ≤ g ∧ ∃ cs m, w.heap[g]? = some (.cells cs t m)) → w.grownBy w' row → E w' u x
  cell : ∀ w u x, E w u x → ∀ v ∈ u, v.oneCell' = true
structure OwnG {α : Type} (E : Elem α) (k : Nat) (t : TypeId) (w : World) (B : Nat) (v : Value) (us : List (List Value)) (xs : List α) : Prop where
  len : us.length = xs.length
  own : w.ownsRow B t k v us.length us.flatten
  one : ∀ (j : Nat) (x : α), xs[j]? = some x → ∃ u, us[j]? = some u ∧ E w u x
variable {α : Type} {E : Elem α} {k : Nat} {t : TypeId} {BE : Nat}
theorem OwnG.nil (w : World) (B : Nat) : OwnG E k t w B (.slice none 0 0) [] [] := ⟨rfl, World.ownsRow_nil _ _ _ _, fun j x h => by simp at h⟩
theorem OwnG.below {w w' : World} {B : Nat} {v : Value} {us : List (List Value)} {xs : List α} (F : Firm E k t BE) (h : OwnG E k t w B v us xs) (hb : Below w.heap.size w w') : OwnG E k t w' B v us xs :=
  ⟨h.len, own_grown h.own hb, fun j x hx => by
    obtain ⟨p, h1, h2⟩ := h.one j x hx
    exact ⟨p, h1, F.below _ _ _ _ h2 hb⟩⟩
theorem OwnG.own_le {w : World} {B B' : Nat} {v : Value} {us : List (List Value)} {xs : List α} (h : OwnG E k t w B v us xs) (hB : B' ≤ B) : OwnG E k t w B' v us xs := ⟨h.len, own_mono h.own hB, h.one⟩
theorem own_row {w : World} {B e n s : Nat} {v : Value} {xs : List Value} (h : w.ownsRow B e s v n xs) : ∀ g, v.ownBlock = some g → B ≤ g ∧ ∃ cs m, w.heap[g]? = some (.cells cs e m) := by
  intro g hg
  rcases h.2 with ⟨rfl, _⟩ | ⟨g', cap, cur, rfl, hB, hh, _⟩
  · cases hg
  · have : g' = g := by simpa [Value.ownBlock] using hg
    subst this
    exact ⟨hB, _, _, hh⟩
theorem OwnG.snoc {w w' : World} {B : Nat} {v v' : Value} {us : List (List Value)} {xs : List α} {u : List Value} {x : α} (F : Firm E k t BE) (hB : BE ≤ B) (h : OwnG E k t w B v us xs) (hx : E w u x) (hown : w'.ownsRow B t k v' (us.length + 1) (us.flatten ++ u)) (hg : w.grownBy w' v.ownBlock) : OwnG E k t w' B v' (us ++ [u]) (xs ++ [x]) := by
  have hr : ∀ g, v.ownBlock = some g → BE ≤ g ∧ ∃ cs m, w.heap[g]? = some (.cells cs t m) := fun g hg => ⟨Nat.le_trans hB (own_row h.own g hg).1, (own_row h.own g hg).2⟩
  refine ⟨by rw [List.length_append, List.length_append, h.len]; rfl, by rw [List.length_append, List.flatten_append, List.flatten_singleton]; exact hown, fun j y hy => ?_⟩
  by_cases hj : j < xs.length
  · rw [List.getElem?_append_left hj] at hy
    obtain ⟨q, h1, h2⟩ := h.one j y hy
    exact ⟨q, by rw [List.getElem?_append_left (by rw [h.len]; exact hj)]; exact h1, F.grown _ _ _ _ _ h2 hr hg⟩
  · have hjl := (List.getElem?_eq_some_iff.1 hy).1
    rw [List.length_append] at hjl
    simp at hjl
    obtain rfl : j = xs.length := by omega
    rw [List.getElem?_append_right (Nat.le_refl _), Nat.sub_self] at hy
    simp at hy; subst hy
    refine ⟨u, ?_, F.grown _ _ _ _ _ hx hr hg⟩
    rw [← h.len, List.getElem?_append_right (Nat.le_refl _), Nat.sub_self]; rfl
theorem flat_at : ∀ (us : List (List Value)) (_ : ∀ u ∈ us, u.length = k) (j i : Nat) (u : List Value) (v : Value), us[j]? = some u → u[i]? = some v → us.flatten[j * k + i]? = some v
  | [], _, j, i, u, v, h, _ => by simp at h
  | y :: ys, hk, 0, i, u, v, h, hv => by
    simp at h; subst h
    rw [List.flatten_cons, Nat.zero_mul, Nat.zero_add, List.getElem?_append_left (List.getElem?_eq_some_iff.1 hv).1]
    exact hv
  | y :: ys, hk, j + 1, i, u, v, h, hv => by
    have ih := flat_at ys (fun z hz => hk z (List.mem_cons_of_mem _ hz)) j i u v (by simpa using h) hv
    have hy := hk y List.mem_cons_self
    rw [List.flatten_cons, List.getElem?_append_right (by rw [hy, Nat.add_mul]; omega), hy, show (j + 1) * k + i - k = j * k + i by rw [Nat.add_mul]; omega]
    exact ih
theorem OwnG.wide {w : World} {B : Nat} {v : Value} {us : List (List Value)} {xs : List α} (F : Firm E k t BE) (h : OwnG E k t w B v us xs) : ∀ u ∈ us, u.length = k := by
  intro u hu
  obtain ⟨j, hj, rfl⟩ := List.getElem_of_mem hu
  obtain ⟨u2, h1, h2⟩ := h.one j (xs[j]'(by rw [← h.len]; exact hj)) (List.getElem?_eq_getElem _)
  rw [List.getElem?_eq_getElem hj] at h1
  cases h1
  exact F.wide _ _ _ h2
theorem OwnG.cellsE {w : World} {B : Nat} {v : Value} {us : List (List Value)} {xs : List α} (F : Firm E k t BE) (h : OwnG E k t w B v us xs) : ∀ u ∈ us, ∀ v ∈ u, v.oneCell' = true := by
  intro u hu
  obtain ⟨j, hj, rfl⟩ := List.getElem_of_mem hu
  obtain ⟨u2, h1, h2⟩ := h.one j (xs[j]'(by rw [← h.len]; exact hj)) (List.getElem?_eq_getElem _)
  rw [List.getElem?_eq_getElem hj] at h1
  cases h1
  exact F.cell _ _ _ h2
/-- Cells of elements of k cells that read as these. -/
structure SeesG (E : Elem α) (k : Nat) (w : World) (b off : Nat) (xs : List α) : Prop where
  low : b < w.heap.size
  at0 : ∀ (j : Nat) (x : α), xs[j]? = some x → ∃ u, E w u x ∧ ∀ i v, u[i]? = some v → w.cell? ⟨b, off + (j * k + i), none⟩ = some v
def SeeG (E : Elem α) (k : Nat) (w : World) (o : Option Addr) (xs : List α) : Prop := xs = [] ∨ ∃ b off, o = some ⟨b, off, none⟩ ∧ SeesG E k w b off xs
theorem SeesG.below {w w' : World} {b off : Nat} {xs : List α} (F : Firm E k t BE) (h : SeesG E k w b off xs) (hb : Below w.heap.size w w') : SeesG E k w' b off xs :=
  ⟨Nat.lt_of_lt_of_le h.low hb.size, fun j x hx => by
    obtain ⟨u, h1, h2⟩ := h.at0 j x hx
    exact ⟨u, F.below _ _ _ _ h1 hb, fun i v hv => (hb.cell (p := ⟨b, off + (j * k + i), none⟩) h.low).trans (h2 i v hv)⟩⟩
theorem SeeG.below {w w' : World} {o : Option Addr} {xs : List α} (F : Firm E k t BE) (h : SeeG E k w o xs) (hb : Below w.heap.size w w') : SeeG E k w' o xs :=
  h.imp id fun ⟨b, off, e, hs⟩ => ⟨b, off, e, hs.below F hb⟩
theorem SeeG.at {w : World} {o : Option Addr} {xs : List α} (h : SeeG E k w o xs) {j : Nat} {x : α} (hx : xs[j]? = some x) : ∃ b off, o = some ⟨b, off, none⟩ ∧ SeesG E k w b off xs := by
  rcases h with rfl | h
  · simp at hx
  · exact h
theorem OwnG.sees {w : World} {B : Nat} {v : Value} {us : List (List Value)} {xs : List α} (F : Firm E k t BE) (h : OwnG E k t w B v us xs) : ∃ o c, v = .slice o xs.length c ∧ SeeG E k w o xs ∧ xs.length ≤ maxLen := by
  have hl := h.len
  have hw := h.wide F
  rcases h.own.2 with ⟨rfl, h0⟩ | ⟨g, cap, cur, rfl, hg, hh, hn, hcap, hsz, htake⟩
  · have h0' : xs = [] := List.eq_nil_of_length_eq_zero (by rw [← hl]; exact h0)
    subst h0'
    exact ⟨none, 0, rfl, .inl rfl, Nat.zero_le _⟩
  · refine ⟨_, cap, by rw [hl], .inr ⟨g, 0, rfl, (Array.getElem?_eq_some_iff.1 hh).1, fun j x hx => ?_⟩, Nat.le_trans (by rw [← hl]; exact hn) hcap⟩
    obtain ⟨u, h1, h2⟩ := h.one j x hx
    refine ⟨u, h2, fun i v hv => ?_⟩
    have := h.own.cells (g := g) rfl (j * k + i) _ (flat_at us hw j i u v h1 hv)
    rw [← this]; congr 1
    unfold Addr.add
    split
    · next e => rw [e]
    · rfl
theorem get_ltG {xs : List α} {n j : Nat} (hn : xs.length = n) (hk : j < n) : ∃ x, xs[j]? = some x := ⟨xs[j]'(by omega), List.getElem?_eq_getElem _⟩
theorem drop_atG {xs : List α} {j : Nat} {x : α} (h : xs[j]? = some x) : xs.drop j = x :: xs.drop (j + 1) := by
  obtain ⟨hk, e⟩ := List.getElem?_eq_some_iff.1 h
  rw [List.drop_eq_getElem_cons hk, e]
theorem take_atG {xs : List α} {j : Nat} {x : α} (h : xs[j]? = some x) : xs.take (j + 1) = xs.take j ++ [x] := by rw [List.take_add_one, h]; rfl

/-! ### rows, rows with their keys, pairs -/
/-- Two cells that read as a row. -/
def ERow (B : Nat) : Elem Rw := fun w u x => ∃ o c, u = [.slice o x.1.length c, .int .i64 x.2] ∧ LabS w B o x.1 ∧ x.1.length ≤ maxLen
theorem firmRow {t : TypeId} {B : Nat} (hne : 99 ≠ t) : Firm (ERow B) 2 t B where
  wide := fun w u x ⟨o, c, h, _⟩ => by rw [h]; rfl
  below := fun w w' u x ⟨o, c, h1, h2, h3⟩ hb => ⟨o, c, h1, h2.below hb, h3⟩
  grown := fun w w' u x row ⟨o, c, h1, h2, h3⟩ hr hg => ⟨o, c, h1, h2.grown hne hr hg, h3⟩
  cell := fun w u x ⟨o, c, h, _⟩ v hv => by rw [h] at hv; simp at hv; rcases hv with rfl | rfl <;> rfl
theorem ERow.mono {w : World} {B B' : Nat} {u : List Value} {x : Rw} (h : ERow B w u x) (hB : B ≤ B') : ERow B' w u x := by
  obtain ⟨o, c, h1, h2, h3⟩ := h
  exact ⟨o, c, h1, h2.mono hB, h3⟩
/-- A slice that reads as rows. -/
abbrev RowsS (w : World) (B : Nat) (o : Option Addr) (xs : List Rw) : Prop := SeeG (ERow B) 2 w o xs
theorem RowsS.mono {w : World} {B B' : Nat} {o : Option Addr} {xs : List Rw} (h : RowsS w B o xs) (hB : B ≤ B') : RowsS w B' o xs :=
  h.imp id fun ⟨b, off, e, hs⟩ => ⟨b, off, e, hs.low, fun j x hx => by
    obtain ⟨u, h1, h2⟩ := hs.at0 j x hx
    exact ⟨u, h1.mono hB, h2⟩⟩
/-- A row of a list that is read. -/
theorem row_at {w : World} {B b off : Nat} {xs : List Rw} (h : SeesG (ERow B) 2 w b off xs) {j : Nat} {x : Rw} (hx : xs[j]? = some x) : ∃ o c, w.cell? ⟨b, off + j * 2, none⟩ = some (.slice o x.1.length c) ∧ w.cell? ⟨b, off + j * 2 + 1, none⟩ = some (.int .i64 x.2) ∧ LabS w B o x.1 ∧ x.1.length ≤ maxLen := by
  obtain ⟨u, ⟨o, c, rfl, h1, h2⟩, h3⟩ := h.at0 j x hx
  exact ⟨o, c, h3 0 _ rfl, h3 1 _ rfl, h1, h2⟩
end Go.Proofs.YtlnlbahggbbaeaaGreat.Vec
end

section
/- Labels compared: no more than draws and new blocks come of it; rows compared. -/

namespace Go.Proofs.YtlnlbahggbbaeaaGreat.Vec
open Go.RowKit Go.Lib Go.Sort

/-- Draws, and blocks behind. -/
def Gr (w w' : World) : Prop := ∃ q os, w' = grow (w.drewN q) os
theorem Gr.refl (w : World) : Gr w w := ⟨0, #[], by rw [grow_empty]; rfl⟩
theorem Gr.trans {a b c : World} (h : Gr a b) (h2 : Gr b c) : Gr a c := by
  obtain ⟨q, os, rfl⟩ := h
  obtain ⟨q2, os2, rfl⟩ := h2
  refine ⟨q + q2, os ++ os2, ?_⟩
  rw [← grow_grow]
  unfold grow World.drewN
  simp [Nat.add_assoc]
theorem Gr.alloc {w w' : World} (h : Gr w w') (o : Obj) : Gr w (w'.alloc o) := h.trans ⟨0, #[o], by rw [alloc_eq_grow]; rfl⟩
theorem Gr.below {w w' : World} (h : Gr w w') : Below w.heap.size w w' := by
  obtain ⟨q, os, rfl⟩ := h
  refine ⟨rfl, rfl, rfl, by simp [grow, World.drewN], fun k hk => ?_⟩
  unfold grow World.drewN
  simp only
  rw [Array.getElem?_append_left hk]

/-- A row, as it is handed in. -/
def rowV (o : Option Addr) (n c : Nat) (v : Int) : Value := .agg #[.slice o n c, .int .i64 v]
end Go.Proofs.YtlnlbahggbbaeaaGreat.Vec
end

section
/- Vectors: whether rows may be, ops, keys, rows anew. -/

namespace Go.Proofs.YtlnlbahggbbaeaaGreat.Vec
open Go.RowKit

theorem box2 (w : World) (u v : Value) (t : TypeId) : ∀ W, Below (w.alloc (.cells #[u, v] t)).heap.size (w.alloc (.cells #[u, v] t)) W → W.cell? ⟨w.heap.size, 0, none⟩ = some u ∧ W.cell? ⟨w.heap.size, 1, none⟩ = some v := by
  intro W h
  have hW : (w.alloc (.cells #[u, v] t)).heap[w.heap.size]? = some (.cells #[u, v] t (0, 0)) := Array.getElem?_push_size
  have h1 := (h.block _ (Array.getElem?_eq_some_iff.1 hW).1).trans hW
  constructor <;> simp [World.cell?, h1]
theorem below_box {w w' : World} (h : Below w.heap.size w w') (u v : Value) (t : TypeId) : Below w.heap.size w (w'.alloc (.cells #[u, v] t)) := h.alloc (by have := h.size; omega) _
theorem neRow : 99 ≠ 51 := by decide
theorem frow {B : Nat} : Firm (ERow B) 2 51 B := firmRow neRow

end Go.Proofs.YtlnlbahggbbaeaaGreat.Vec
end

section
/- Vectors: keys of rows, rows anew. -/

namespace Go.Proofs.YtlnlbahggbbaeaaGreat.Vec
open Go.RowKit

/-- Labels as short as all that may be handed in here. -/
structure SmL (l : Labs) : Prop where
  len : l.length ≤ 1000
  sizes : ∀ y ∈ l, y.1.size ≤ 1000 ∧ y.2.size ≤ 1000
theorem SmL.big {l : Labs} (h : SmL l) : ∀ y ∈ l, y.1.size ≤ 281474976710656 ∧ y.2.size ≤ 281474976710656 := fun y hy => by
  have := h.sizes y hy; omega
theorem SmL.key {l : Labs} (h : SmL l) (mode : Int) (ns : List ByteArray) : SmL (keyR mode ns l) :=
  ⟨Nat.le_trans (key_len l mode ns) h.len, fun y hy => h.sizes y (key_mem mode ns hy)⟩
theorem SmL.filter {l : Labs} (h : SmL l) (p : Lab → Bool) : SmL (l.filter p) :=
  ⟨Nat.le_trans (List.length_filter_le _ _) h.len, fun y hy => h.sizes y (List.mem_filter.1 hy).1⟩
theorem own_low {w : World} {B B' e s n : Nat} {v : Value} {xs : List Value} (h : w.ownsRow B e s v n xs) (hB : B' ≤ B) : w.ownsRow B' e s v n xs := own_mono h hB

theorem filter_out_nil (l : Labs) : l.filter (outB []) = l := List.filter_eq_self.2 fun _ _ => rfl
/-- The row handed in, and the answer's cells. -/
structure TwoR (k : Nat) (o : Option Addr) (n c : Nat) (v : Int) (w W : World) : Prop where
  h0 : W.heap[k]? = some (.cells #[.slice o n c, .int .i64 v] 51 (0, 0))
  h1 : W.heap[k + 1]? = some (.cells #[.slice none 0 0, .int .i64 0] 51 (0, 0))
  on : Below k w W
theorem TwoR.below {k : Nat} {o : Option Addr} {n c : Nat} {v : Int} {w W W' : World} (h : TwoR k o n c v w W) (hb : Below W.heap.size W W') : TwoR k o n c v w W' :=
  ⟨(hb.block _ (Array.getElem?_eq_some_iff.1 h.h0).1).trans h.h0, (hb.block _ (Array.getElem?_eq_some_iff.1 h.h1).1).trans h.h1, h.on.trans (hb.mono (by have := (Array.getElem?_eq_some_iff.1 h.h0).1; omega))⟩
theorem TwoR.reads {k : Nat} {o : Option Addr} {n c : Nat} {v : Int} {w W : World} (h : TwoR k o n c v w W) : W.cell? ⟨k, 0, none⟩ = some (.slice o n c) ∧ W.cell? ⟨k, 1, none⟩ = some (.int .i64 v) ∧ W.cell? ⟨k + 1, 0, none⟩ = some (.slice none 0 0) ∧ W.cell? ⟨k + 1, 1, none⟩ = some (.int .i64 0) ∧ W.frozen? ⟨k + 1, 0, none⟩ = false ∧ W.frozen? ⟨k + 1, 1, none⟩ = false := by
  have h0 := h.h0
  have h1 := h.h1
  refine ⟨?_, ?_, ?_, ?_, ?_, ?_⟩ <;> simp [World.cell?, World.frozen?, h0, h1]
theorem grown_set (w : World) (a : Addr) (u : Value) : w.grownBy (w.setCell a u) (some a.block) :=
  ⟨rfl, rfl, rfl, by simp, fun k _ hk => Below.heap_setCell w a u k (fun e => hk (by rw [e]))⟩
theorem grown_two {a b c : World} {r : Option Nat} (h : a.grownBy b r) (h2 : b.grownBy c r) : a.grownBy c r :=
  ⟨h2.os.trans h.os, h2.tape.trans h.tape, h2.output.trans h.output, Nat.le_trans h.size h2.size, fun k hk hne => (h2.block k (Nat.lt_of_lt_of_le hk h.size) hne).trans (h.block k hk hne)⟩

end Go.Proofs.YtlnlbahggbbaeaaGreat.Vec
end
