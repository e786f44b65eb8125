import Derived.Test.YtlnlbahggbbaeaaGreatProg
import Derived.WalkKit
import Derived.BigCall
import Derived.Lib.OthersKept
import Derived.Lib.Hide
import Derived.Laws.OwnMore
import Derived.Deep.DeepMust
import Derived.Maps.AppendAt
import Derived.BigQuiet
import Derived.Deep.QuietTactic
import Derived.Laws.StructEq
import Derived.Deep.RegionWith
import Derived.BigRegion
import Derived.Deep.AppendLies
import Derived.Deep.RegionLaw
section
/- The book of ints, first part: an append keeps every earlier view of the same row; rows of the call's own. -/











namespace Go.Proofs.YtlnlbahggbbaeaaGreat.BkI
open Go.RowKit

abbrev El := Int
/-- The cells of one element, and of a list. -/
def encE (x : El) : List Value := [.int .i64 x]
def flatE (xs : List El) : List Value := xs.flatMap encE
theorem encE_len (x : El) : (encE x).length = 1 := rfl
theorem flatE_nil : flatE [] = [] := rfl
theorem flatE_append (xs ys : List El) : flatE (xs ++ ys) = flatE xs ++ flatE ys := by simp [flatE]
theorem flatE_one (x : El) : flatE [x] = encE x := by simp [flatE]
theorem flatE_len (xs : List El) : (flatE xs).length = xs.length * 1 := by
  induction xs with
  | nil => rfl
  | cons x xs ih => rw [show x :: xs = [x] ++ xs from rfl, flatE_append, List.length_append, flatE_one, encE_len, ih, List.length_append]; simp <;> omega
theorem flatE_at (xs : List El) : ∀ (j : Nat) (x : El), xs[j]? = some x → ∀ (t : Nat) (u : Value), (encE x)[t]? = some u → (flatE xs)[j * 1 + t]? = some u := by
  induction xs with
  | nil => intro j x h; simp at h
  | cons y ys ih =>
    intro j x h t u hu
    have ht : t < 1 := by have := (List.getElem?_eq_some_iff.1 hu).1; rwa [encE_len] at this
    rw [show y :: ys = [y] ++ ys from rfl, flatE_append, flatE_one]
    cases j with
    | zero => simp at h; subst h; rw [List.getElem?_append_left (by rw [encE_len]; omega), Nat.zero_mul, Nat.zero_add]; exact hu
    | succ j =>
      rw [List.getElem?_append_right (by rw [encE_len]; omega), encE_len]
      rw [show (j + 1) * 1 + t - 1 = j * 1 + t by omega]
      exact ih j x (by simpa using h) t u hu
theorem flatE_cells (xs : List El) : ∀ v ∈ flatE xs, v.oneCell' = true := by
  intro v hv
  obtain ⟨x, _, hv⟩ := List.mem_flatMap.1 hv
  simp [encE] at hv
  subst hv; rfl
theorem encE_cells (x : El) : ∀ v ∈ encE x, v.oneCell' = true := by
  intro v hv
  simp [encE] at hv
  subst hv; rfl
theorem infoE : (Tryz.prog.info? 3).map (fun i => (i.zero, i.size, i.bytes)) = some (some (.int .i64 0), 1, 8) := by kernel_rfl
theorem infoS : (Tryz.prog.info? 40).map (fun i => (i.zero, i.size, i.bytes)) = some (some (.slice none 0 0), 1, 24) := by kernel_rfl
theorem cell_1 (w : World) (v : Value) (t : TypeId) : ∀ j u, [v][j]? = some u → (w.alloc (.cells #[v] t)).cell? ((⟨w.heap.size, 0, none⟩ : Addr).add j) = some u := by
  intro j u hj
  match j, hj with
  | 0, hj => simp at hj; subst hj; simp [Addr.add]
  | j + 1, hj => simp at hj
theorem cells_2 (w : World) (a b : Value) (t : TypeId) : ∀ j u, [a, b][j]? = some u → (w.alloc (.cells #[a, b] t)).cell? ((⟨w.heap.size, 0, none⟩ : Addr).add j) = some u := by
  intro j u hj
  match j, hj with
  | 0, hj => simp at hj; subst hj; simp [Addr.add]
  | 1, hj => simp at hj; subst hj; simp [Addr.add]
  | j + 2, hj => simp at hj
theorem cells_3 (w : World) (a b c : Value) (t : TypeId) : ∀ j u, [a, b, c][j]? = some u → (w.alloc (.cells #[a, b, c] t)).cell? ((⟨w.heap.size, 0, none⟩ : Addr).add j) = some u := by
  intro j u hj
  match j, hj with
  | 0, hj => simp at hj; subst hj; simp [Addr.add]
  | 1, hj => simp at hj; subst hj; simp [Addr.add]
  | 2, hj => simp at hj; subst hj; simp [Addr.add]
  | j + 3, hj => simp at hj
theorem cells_n (w : World) (L : List Value) (t : TypeId) : ∀ j u, L[j]? = some u → (w.alloc (.cells L.toArray t)).cell? ((⟨w.heap.size, 0, none⟩ : Addr).add j) = some u := by
  intro j u hj
  have ha : (⟨w.heap.size, 0, none⟩ : Addr).add j = ⟨w.heap.size, j, none⟩ := by
    unfold Addr.add; split
    · next h => subst h; rfl
    · rw [Nat.zero_add]
  have hh : (w.alloc (.cells L.toArray t)).heap[w.heap.size]? = some (.cells L.toArray t (0, 0)) := Array.getElem?_push_size
  rw [ha]
  unfold World.cell?
  simp only [hh, List.getElem?_toArray, hj]
  rfl
theorem own_ne {w : World} {B e sz n : Nat} {v : Value} {xs : List Value} {bk : Nat} {cs : Array Value} {T : TypeId} {fr : Nat × Nat} (h : w.ownsRow B e sz v n xs) (hb : w.heap[bk]? = some (.cells cs T fr)) (hne : T ≠ e) : v.ownBlock ≠ some bk := by
  rcases h.2 with ⟨rfl, _⟩ | ⟨g, cap, cur, rfl, _, hg, _⟩
  · simp [Value.ownBlock]
  · intro e1
    have e2 : g = bk := Option.some.inj e1
    subst e2
    rw [hg] at hb
    injection hb with hb
    injection hb with _ hb _
    exact hne hb.symm
/-- What is left: a slice of the call's own that holds these. -/
def Spelt (B : Nat) (xs : List El) (e : Ending) (w' : World) : Prop := ∃ v, e = .returned v ∧ w'.ownsRow B 3 1 v xs.length (flatE xs)
/-- A slice that the call owns, opened: its value and where its cells lie. -/
theorem own_open {B e sz n : Nat} {v : Value} {xs : List Value} {w : World} (h : w.ownsRow B e sz v n xs) : (v = .slice none 0 0 ∧ n = 0 ∧ xs = []) ∨ ∃ g cap, v = .slice (some ⟨g, 0, none⟩) n cap ∧ B ≤ g ∧ g < w.heap.size ∧ n ≤ cap ∧ cap ≤ maxLen ∧ ∀ j u, xs[j]? = some u → w.cell? ⟨g, j, none⟩ = some u := by
  have hl := h.1
  rcases h.2 with ⟨rfl, h0⟩ | ⟨g, cap, cur, rfl, hg, hh, hn, hcap, hsz, htake⟩
  · subst h0
    exact .inl ⟨rfl, rfl, List.eq_nil_of_length_eq_zero (by simpa using hl)⟩
  · refine .inr ⟨g, cap, rfl, hg, (Array.getElem?_eq_some_iff.1 hh).1, hn, hcap, fun j u hu => ?_⟩
    have hj : j < xs.length := (List.getElem?_eq_some_iff.1 hu).1
    rw [h.cellAt j (by rw [← hl]; exact hj), hu]

theorem own_far {w : World} {B C e f s1 s2 n m : Nat} {v u : Value} {xs ys : List Value} (h : w.ownsRow B e s1 v n xs) (h' : w.ownsRow C f s2 u m ys) (hef : e ≠ f) : v.ownBlock = none ∨ v.ownBlock ≠ u.ownBlock := by
  rcases h'.2 with ⟨rfl, _⟩ | ⟨g, cap, cur, rfl, _, hg, _⟩
  · cases hv : v.ownBlock with
    | none => exact .inl rfl
    | some k => exact .inr (by simp [Value.ownBlock])
  · exact .inr (own_ne h hg (fun e' => hef e'.symm))

theorem grown_drew {w w' : World} {r : Option Nat} (h : w.grownBy w' r) : w.grownBy w'.drew r := ⟨h.os, h.tape, h.output, h.size, h.block⟩
/-- What was there is what it was, but for the rows of V. -/
structure Touch (V : List Value) (w w' : World) : Prop where
  os : w'.os = w.os
  tape : w'.tape = w.tape
  output : w'.output = w.output
  size : w.heap.size ≤ w'.heap.size
  block : ∀ k, k < w.heap.size → (∀ v ∈ V, v.ownBlock ≠ some k) → w'.heap[k]? = w.heap[k]?
theorem Touch.refl (V : List Value) (w : World) : Touch V w w := ⟨rfl, rfl, rfl, Nat.le_refl _, fun _ _ _ => rfl⟩
theorem Touch.trans {V : List Value} {a b c : World} (h : Touch V a b) (k : Touch V b c) : Touch V a c :=
  ⟨k.os.trans h.os, k.tape.trans h.tape, k.output.trans h.output, Nat.le_trans h.size k.size, fun i hi hv => (k.block i (Nat.lt_of_lt_of_le hi h.size) hv).trans (h.block i hi hv)⟩
theorem Touch.of_below {V : List Value} {a b : World} (h : Below a.heap.size a b) : Touch V a b := ⟨h.os, h.tape, h.output, h.size, fun k hk _ => h.block k hk⟩
theorem Touch.of_grown {V : List Value} {a b : World} {v : Value} (h : a.grownBy b v.ownBlock) (hv : v ∈ V) : Touch V a b :=
  ⟨h.os, h.tape, h.output, h.size, fun k hk hn => h.block k hk (fun e => hn v hv e.symm)⟩
theorem own_grown {w w' : World} {B e sz n : Nat} {v : Value} {xs : List Value} (h : w.ownsRow B e sz v n xs) (hb : Below w.heap.size w w') : w'.ownsRow B e sz v n xs :=
  h.kept (row := none) ⟨hb.os, hb.tape, hb.output, hb.size, fun k hk _ => hb.block k hk⟩ (by cases hv : v.ownBlock <;> simp)
theorem drewN_drewN (w : World) (a b : Nat) : (w.drewN a).drewN b = w.drewN (a + b) := by
  show World.mk _ _ _ _ _ = World.mk _ _ _ _ _
  congr 1
  simp [World.drewN]
  try omega
section
variable {P : Program} (w : World)
/-- Behind an append onto an owned row each shorter view of a row of that kind is what it was. -/
theorem run_append_keeps (base : Nat) (t ty e : TypeId) (i : TypeInfo) (z : Value) (size bytes : Nat) (ht : P.underlying t = some (.slice e)) (hi : P.info? e = some i) (hz : i.zero = some z)
    (hsize : i.size = size) (hby : i.bytes = bytes) (hzs : z.cells.size = size) (hsz : 0 < size)
    (v : Value) (n : Nat) (xs : List Value) (hown : w.ownsRow base e size v n xs)
    (a : Addr) (m c : Nat) (news : List Value) (hl : news.length = m * size) (hnews : ∀ j u, news[j]? = some u → w.cell? (a.add j) = some u) (h1 : ∀ u ∈ news, u.oneCell' = true)
    (h63 : n + m ≤ maxLen) (hbytes : (n + m) * bytes ≤ 140737488355328) (hbase : base ≤ w.heap.size) :
    ∃ v' w', (Builtin.append_ #[t, t] ty #[v, .slice (some a) m c]).run P w = .ok v' w' ∧ w'.ownsRow base e size v' (n + m) (xs ++ news) ∧ w.grownBy w' v.ownBlock ∧
      (v'.ownBlock = v.ownBlock ∨ v'.ownBlock = some w.heap.size) ∧ ∀ b0 v0 n0 xs0, n0 ≤ n → w.ownsRow b0 e size v0 n0 xs0 → w'.ownsRow b0 e size v0 n0 xs0 := by
  obtain ⟨v', w', hr, h2, h3, _, h5⟩ := run_append_own_at (P := P) w base t ty e i z size bytes ht hi hz hsize hby hzs hsz v n xs hown a m c news hl hnews h1 h63 hbytes hbase
  refine ⟨v', w', hr, h2, h3, h5, ?_⟩
  intro b0 v0 n0 xs0 hn0 h0
  by_cases hb : v0.ownBlock = none ∨ v0.ownBlock ≠ v.ownBlock
  · exact h0.kept h3 hb
  have hb1 : v0.ownBlock ≠ none := fun h => hb (.inl h)
  have hb2 : v0.ownBlock = v.ownBlock := Classical.byContradiction fun h => hb (.inr h)
  subst hsize
  subst hby
  have hown2 := hown
  rcases hown2.2 with ⟨rfl, _⟩ | ⟨g, cap, cur, rfl, hbg, hg, hnc, hcm, hcs, htake⟩
  · exact absurd hb2 (by simpa [Value.ownBlock] using hb1)
  rcases h0.2 with ⟨rfl, _⟩ | ⟨g0, cap0, cur0, rfl, hbg0, hg0, hnc0, hcm0, hcs0, htake0⟩
  · exact absurd rfl hb1
  have hgg : g0 = g := by simpa [Value.ownBlock] using hb2
  subst hgg
  rw [hg] at hg0
  injection hg0 with hg0
  injection hg0 with hg0 _ _
  subst hg0
  have hbig : n0 * i.size ≤ n * i.size := Nat.mul_le_mul_right _ hn0
  by_cases hroom : n + m ≤ cap
  · have hfit : n * i.size + news.length ≤ cur.size := by rw [hl, hcs, ← Nat.add_mul]; exact Nat.mul_le_mul_right _ hroom
    have hr2 := run_append_room (P := P) w t ty e i ht hi g0 n cap cur hg a m c news hl hnews h1 hroom hfit
    rw [hr] at hr2
    injection hr2 with _ hw
    subst hw
    refine ⟨h0.1, .inr ⟨g0, cap0, _, rfl, hbg0, setRow_heap w g0 cur _ e _ hg, hnc0, hcm0, ?_, ?_⟩⟩
    · simp only [List.size_toArray, List.length_append, List.length_take, List.length_drop, Array.length_toList]
      omega
    · show ((cur.toList.take (n * i.size) ++ news ++ cur.toList.drop (n * i.size + news.length))).take (n0 * i.size) = xs0
      have hlt : (cur.toList.take (n * i.size)).length = n * i.size := by rw [List.length_take, Array.length_toList]; omega
      rw [List.append_assoc, List.take_append_of_le_length (by omega), List.take_take, Nat.min_eq_left hbig]
      exact htake0
  · have hsmall : n + m ≤ 9223372036854775807 := by simp only [maxLen] at h63; omega
    have holds : ∀ j u, xs[j]? = some u → w.cell? ((⟨g0, 0, none⟩ : Addr).add j) = some u := hown.cells (g := g0) rfl
    have hr2 := run_append_grow (P := P) w t ty e i z ht hi hz ⟨g0, 0, none⟩ n cap xs hown.1 holds a m c news hl hnews (by omega) (by omega) (growslice_fits (by omega) hbytes)
    rw [hr] at hr2
    injection hr2 with _ hw
    subst hw
    refine ⟨h0.1, .inr ⟨g0, cap0, cur, rfl, hbg0, ?_, hnc0, hcm0, hcs0, htake0⟩⟩
    rw [heap_alloc_old w.drew _ (Array.getElem?_eq_some_iff.1 hg).1]
    exact hg

theorem wp_append_keeps {o : Oper} {a : Act} {K : Act → World → Prop} {Q : Exit → Act → World → Prop} (s x : Operand) (t : TypeId)
    (ho : o.op = .call { callee := .builtin .append, args := #[s, x], argTypes := #[t, t] })
    (base : Nat) (e : TypeId) (i : TypeInfo) (z : Value) (size bytes : Nat) (ht : P.underlying t = some (.slice e)) (hi : P.info? e = some i) (hz : i.zero = some z)
    (hsize : i.size = size) (hby : i.bytes = bytes) (hzs : z.cells.size = size) (hsz : 0 < size)
    (v : Value) (n : Nat) (xs : List Value) (hs : a.eval s = v) (hown : w.ownsRow base e size v n xs)
    (ad : Addr) (m c : Nat) (news : List Value) (hx : a.eval x = .slice (some ad) m c) (hl : news.length = m * size) (hnews : ∀ j u, news[j]? = some u → w.cell? (ad.add j) = some u) (h1 : ∀ u ∈ news, u.oneCell' = true)
    (h63 : n + m ≤ maxLen) (hbytes : (n + m) * bytes ≤ 140737488355328) (hbase : base ≤ w.heap.size)
    (h : ∀ v' w', w'.ownsRow base e size v' (n + m) (xs ++ news) → w.grownBy w' v.ownBlock → (v'.ownBlock = v.ownBlock ∨ v'.ownBlock = some w.heap.size) → (∀ b0 v0 n0 xs0, n0 ≤ n → w.ownsRow b0 e size v0 n0 xs0 → w'.ownsRow b0 e size v0 n0 xs0) → K (a.put o.dst v') w') : o.wp P a w K Q := by
  obtain ⟨v', w', hr, h2, h3, h4, h5⟩ := run_append_keeps (P := P) w base t o.type e i z size bytes ht hi hz hsize hby hzs hsz v n xs hown ad m c news hl hnews h1 h63 hbytes hbase
  unfold Oper.wp execOp
  simp only [ho, resolve, invoke, builtin, Sem.run_bind, Sem.run_pure, Result.andThen_ok, List.map_toArray, List.map_cons, List.map_nil, hs, hx, hr]
  exact h v' w' h2 h3 h4 h5

theorem wpList_append_keeps {ops : Array Oper} {rest : List Oper} {o : Oper} {a : Act} {Q : Exit → Act → World → Prop} (hgd : o.guard = none) (s x : Operand) (t : TypeId)
    (ho : o.op = .call { callee := .builtin .append, args := #[s, x], argTypes := #[t, t] })
    (base : Nat) (e : TypeId) (i : TypeInfo) (z : Value) (size bytes : Nat) (ht : P.underlying t = some (.slice e)) (hi : P.info? e = some i) (hz : i.zero = some z)
    (hsize : i.size = size) (hby : i.bytes = bytes) (hzs : z.cells.size = size) (hsz : 0 < size)
    (v : Value) (n : Nat) (xs : List Value) (hs : a.eval s = v) (hown : w.ownsRow base e size v n xs)
    (ad : Addr) (m c : Nat) (news : List Value) (hx : a.eval x = .slice (some ad) m c) (hl : news.length = m * size) (hnews : ∀ j u, news[j]? = some u → w.cell? (ad.add j) = some u) (h1 : ∀ u ∈ news, u.oneCell' = true)
    (h63 : n + m ≤ maxLen) (hbytes : (n + m) * bytes ≤ 140737488355328) (hbase : base ≤ w.heap.size)
    (h : ∀ v' w', w'.ownsRow base e size v' (n + m) (xs ++ news) → w.grownBy w' v.ownBlock → (v'.ownBlock = v.ownBlock ∨ v'.ownBlock = some w.heap.size) → (∀ b0 v0 n0 xs0, n0 ≤ n → w.ownsRow b0 e size v0 n0 xs0 → w'.ownsRow b0 e size v0 n0 xs0) → wpList P ops Q rest (a.put o.dst v') w') : wpList P ops Q (o :: rest) a w :=
  wpList_plain hgd fun _ hK => wp_append_keeps w s x t ho base e i z size bytes ht hi hz hsize hby hzs hsz v n xs hs hown ad m c news hx hl hnews h1 h63 hbytes hbase fun v' w' h2 h3 h4 h5 => hK _ _ (h v' w' h2 h3 h4 h5)
end
end Go.Proofs.YtlnlbahggbbaeaaGreat.BkI
end

section
/- The book of lists, second part: the marks of a list of runes. -/

namespace Go.Proofs.YtlnlbahggbbaeaaGreat.BkI
open Go.RowKit

/-- Of list i the marks from place k on, n of them. -/
def markE (i k : Nat) : El := -1000000 * (i : Int) - (k : Int) - 7
def marksR (i k n : Nat) : List El := (List.range n).map fun j => markE i (k + j)
theorem marksR_length (i k n : Nat) : (marksR i k n).length = n := by simp [marksR]
theorem marksR_succ (i k n : Nat) : marksR i k (n + 1) = marksR i k n ++ [markE i (k + n)] := by simp [marksR, List.range_succ]
theorem marksR_app (i k n m : Nat) : marksR i k n ++ marksR i (k + n) m = marksR i k (n + m) := by
  induction m with
  | zero => simp [marksR]
  | succ m ih => rw [marksR_succ, ← List.append_assoc, ih, ← Nat.add_assoc, marksR_succ, Nat.add_assoc k n m]

set_option maxHeartbeats 2000000 in
set_option maxRecDepth 100000 in
theorem markRunes_any (i k n : Nat) (hi250 : i ≤ 250) (hk : k ≤ 1000000) (hn : n ≤ 1000000) (w : World) :
    Calls Tryz.prog 89 #[.int .i64 i, .int .i64 k, .int .i64 n] w fun e w' => Spelt w.heap.size (marksR i k n) e w' ∧ Below w.heap.size w w' := by
  obtain ⟨i0, hi, hz0, hz1, hz2⟩ := info_parts infoE
  go_enter Tryz.func89, Tryz.ntmps89
  go_wp2
  go_loopw [7, 8] (fun v vk wr => ∃ m : Nat, wr.ownsRow w.heap.size 3 1 v m (flatE (marksR i k m)) ∧ Below w.heap.size w wr ∧ vk = .int .i64 ((k + m : Nat) : Int) ∧ m ≤ n) (fun _ vk _ => k + n - (intOf vk).toNat)
  case atStart => exact ⟨0, World.ownsRow_nil _ _ _ _, Below.refl _ _, by simp, Nat.zero_le _⟩
  case round =>
    obtain ⟨m, hown, hbw, rfl, hm⟩ := hrel
    have hwr := hbw.size
    by_cases hlt : m < n
    · have i1 : ((k + m : Nat) : Int) < (k : Int) + n := by omega
      have s1 : IntKind.i64.wrap (-1000000 * (i : Int)) = -1000000 * (i : Int) := by rw [IntKind.wrap_i64]; omega
      have s2 : IntKind.i64.wrap (-1000000 * (i : Int) - ((k + m : Nat) : Int)) = -1000000 * (i : Int) - ((k + m : Nat) : Int) := by rw [IntKind.wrap_i64]; omega
      have s3 : IntKind.i64.wrap (-1000000 * (i : Int) - ((k + m : Nat) : Int) - 7) = -1000000 * (i : Int) - ((k + m : Nat) : Int) - 7 := by rw [IntKind.wrap_i64]; omega
      go_wp2_with (at_builtin; go_must (refine wpList_append_own _ rfl _ _ 40 rfl w.heap.size 3 i0 (.int .i64 0) 1 8 Tryz.underlying40 hi hz0 hz1 hz2 rfl (by decide) _ _ _ rfl (hown.alloc _) ⟨wr.heap.size, 0, none⟩ 1 1 [.int .i64 (-1000000 * (i : Int) - ((k + m : Nat) : Int) - 7)] rfl rfl (cell_1 _ _ _) (encE_cells _) (by unfold maxLen; omega) (by omega) (by simp; omega) ?_); intro v' w3 hown' hgrow3 hnil3)
      have hbw3 : Below w.heap.size w w3 := Below.grown (hbw.alloc (by omega) _) hgrow3 (by simp; omega) (fun j hj => (hown.lt _ hj).1)
      have ho3 : w3.ownsRow w.heap.size 3 1 v' (m + 1) (flatE (marksR i k (m + 1))) := by
        rw [marksR_succ, flatE_append, flatE_one]; exact hown'
      clear hown' hgrow3 hnil3
      go_roundw
      case rel => exact ⟨m + 1, ho3, hbw3, by go_num, by omega⟩
      case measure => simp [intOf]; omega
    · have i1 : ¬ ((k + m : Nat) : Int) < (k : Int) + n := by omega
      have : m = n := by omega
      subst this
      go_wp2
      go_ret
      refine ⟨⟨_, rfl, ?_⟩, hbw⟩
      rw [marksR_length]; exact hown
end Go.Proofs.YtlnlbahggbbaeaaGreat.BkI
end

section
/- The book of lists, third part: a copy of a list; are two lists alike. -/



namespace Go.Proofs.YtlnlbahggbbaeaaGreat.BkI
open Go.RowKit

set_option maxHeartbeats 2000000 in
set_option maxRecDepth 100000 in
theorem copyRunes_any (v : Value) (B : Nat) (xs : List El) (hx : xs.length ≤ 1000000000) (w : World) (h : w.ownsRow B 3 1 v xs.length (flatE xs)) :
    Calls Tryz.prog 24 #[v] w fun e w' => Spelt w.heap.size xs e w' ∧ Below w.heap.size w w' := by
  obtain ⟨i0, hi, hz0, hz1, hz2⟩ := info_parts infoE
  rcases own_open h with ⟨rfl, h0, _⟩ | ⟨g, cap, rfl, _, hg, hc, hm, hcell⟩
  · have h0 : xs = [] := List.eq_nil_of_length_eq_zero h0
    subst h0
    go_enter Tryz.func24, Tryz.ntmps24
    go_wp2
    go_ret
    exact ⟨⟨_, rfl, World.ownsRow_nil _ _ _ _⟩, Below.refl _ _⟩
  · have hone := flatE_cells xs
    have hnews : ∀ j u, (flatE xs)[j]? = some u → w.cell? ((⟨g, 0, none⟩ : Addr).add j) = some u := by
      intro j u hu
      have e : ((⟨g, 0, none⟩ : Addr).add j) = ⟨g, j, none⟩ := by simp [Addr.add]; intro h; exact h.symm
      rw [e]; exact hcell j u hu
    clear hcell
    go_enter Tryz.func24, Tryz.ntmps24
    go_wp2_with (at_builtin; go_must (refine wpList_append_own _ rfl _ _ 40 rfl w.heap.size 3 i0 (.int .i64 0) 1 8 Tryz.underlying40 hi hz0 hz1 hz2 rfl (by decide) _ 0 [] rfl (World.ownsRow_nil _ _ _ _) ⟨g, 0, none⟩ xs.length cap (flatE xs) rfl (flatE_len xs) hnews hone (by unfold maxLen; omega) (by omega) (Nat.le_refl _) ?_); intro v' w3 hown' hgrow3 hnil3)
    have hg3 : w.grownBy w3 none := hgrow3
    clear hnil3 hgrow3
    go_ret
    refine ⟨⟨_, rfl, ?_⟩, Below.grown (Below.refl _ _) hg3 (Nat.le_refl _) (fun j hj => by cases hj)⟩
    simpa using hown'

set_option maxHeartbeats 2000000 in
set_option maxRecDepth 100000 in
theorem sameRunes_any (va vb : Value) (B C : Nat) (xs : List El) (hxm : xs.length ≤ 1000000000) (w : World) (ha : w.ownsRow B 3 1 va xs.length (flatE xs)) (hb : w.ownsRow C 3 1 vb xs.length (flatE xs)) :
    Calls Tryz.prog 13 #[va, vb] w fun e w' => e = .returned (.bool true) ∧ ∃ m, w' = w.drewN m := by
  rcases own_open ha with ⟨rfl, h0, _⟩ | ⟨g, cap, rfl, _, _, _, _, hca⟩
  · have h0 : xs = [] := List.eq_nil_of_length_eq_zero h0
    subst h0
    have hvb : ∃ o c, vb = .slice o 0 c := by
      rcases own_open hb with ⟨rfl, _, _⟩ | ⟨g, cap, rfl, _, _, _, _, _⟩
      · exact ⟨_, _, rfl⟩
      · exact ⟨_, _, rfl⟩
    obtain ⟨o, c, rfl⟩ := hvb
    clear ha hb
    go_enter Tryz.func13, Tryz.ntmps13
    go_wp2
    go_loopw [5] (fun vi wr => vi = .int .i64 0 ∧ wr = w) (fun _ _ => 0)
    case atStart => exact ⟨rfl, rfl⟩
    case round =>
      obtain ⟨rfl, rfl⟩ := hrel
      go_wp2
      go_ret
      exact ⟨rfl, 0, rfl⟩
  · rcases own_open hb with ⟨rfl, h0, _⟩ | ⟨g2, cap2, rfl, _, _, _, _, hcb⟩
    · have h0 : xs = [] := List.eq_nil_of_length_eq_zero h0
      subst h0
      clear ha hb hca
      go_enter Tryz.func13, Tryz.ntmps13
      go_wp2
      go_loopw [5] (fun vi wr => vi = .int .i64 0 ∧ wr = w) (fun _ _ => 0)
      case atStart => exact ⟨rfl, rfl⟩
      case round =>
        obtain ⟨rfl, rfl⟩ := hrel
        go_wp2
        go_ret
        exact ⟨rfl, 0, rfl⟩
    · obtain ⟨n, hn⟩ : ∃ n, xs.length = n := ⟨_, rfl⟩
      have HN := Lib.hid hn
      rw [hn] at hxm ⊢
      clear hn ha hb
      go_enter Tryz.func13, Tryz.ntmps13
      go_wp2
      go_loopw [5] (fun vi wr => ∃ (k m : Nat), vi = .int .i64 k ∧ wr = w.drewN m ∧ k ≤ n) (fun vi _ => n - (intOf vi).toNat)
      case atStart => exact ⟨0, 0, rfl, rfl, Nat.zero_le _⟩
      case round =>
        obtain ⟨k, m, rfl, rfl, hk⟩ := hrel
        by_cases hkn : k < n
        · have i1 : (k : Int) < n := by omega
          obtain ⟨x, hx⟩ : ∃ x, xs[k]? = some x := ⟨_, List.getElem?_eq_getElem (by have := HN.out; omega)⟩
          have a0 : ∀ n, (w.drewN n).cell? ⟨g, k, none⟩ = some (.int .i64 x) := fun n => hca _ _ (by have hh := flatE_at xs k x hx 0 _ rfl; rwa [Nat.mul_one, Nat.add_zero] at hh)
          have b0 : ∀ n, (w.drewN n).cell? ⟨g2, k, none⟩ = some (.int .i64 x) := fun n => hcb _ _ (by have hh := flatE_at xs k x hx 0 _ rfl; rwa [Nat.mul_one, Nat.add_zero] at hh)
          clear hx hca hcb
          go_wp2_with fail
          have hq : True := trivial
          have hS : True := trivial
          have hp : True := trivial
          have hr : (x == x) = true := beq_self_eq_true _
          go_quiet (fail)
          clear hq hS hp hr
          go_wp2
          go_roundw
          case rel => exact ⟨k + 1, _, by go_num, rfl, by omega⟩
          case measure => simp [intOf]; omega
        · have i1 : (n : Int) ≤ k := by omega
          go_wp2
          go_ret
          exact ⟨rfl, m, rfl⟩
end Go.Proofs.YtlnlbahggbbaeaaGreat.BkI
end

section
/- The book of ints, fourth part: what it holds of one kind; it still holds it. -/

namespace Go.Proofs.YtlnlbahggbbaeaaGreat.BkI
open Go.RowKit

/-- A list of lists, all of the call's own, no two in one block. -/
structure Kept (B : Nat) (w : World) (R : Value) (L : List (Value × List El)) : Prop where
  row : w.ownsRow B 40 1 R L.length (L.map (·.1))
  each : ∀ (i : Nat) (v : Value) (xs : List El), L[i]? = some (v, xs) → w.ownsRow B 3 1 v xs.length (flatE xs) ∧ xs.length ≤ 100000
  apart : ∀ (i j : Nat) (p q : Value × List El), i ≠ j → L[i]? = some p → L[j]? = some q → p.1.ownBlock = none ∨ p.1.ownBlock ≠ q.1.ownBlock
  few : L.length ≤ 250

theorem Kept.drewN {B : Nat} {w : World} {R : Value} {L : List (Value × List El)} (h : Kept B w R L) (n : Nat) : Kept B (w.drewN n) R L := ⟨h.row, h.each, h.apart, h.few⟩
/-- The list of lists, opened at one place. -/
theorem Kept.at {B : Nat} {w : World} {R : Value} {L : List (Value × List El)} (h : Kept B w R L) {k : Nat} (hk : k < L.length) : ∃ g cap v xs, R = .slice (some ⟨g, 0, none⟩) L.length cap ∧ L[k]? = some (v, xs) ∧ w.cell? ⟨g, k, none⟩ = some v ∧ w.ownsRow B 3 1 v xs.length (flatE xs) ∧ xs.length ≤ 100000 := by
  rcases own_open h.row with ⟨_, h0, _⟩ | ⟨g, cap, hR, _, _, _, _, hc⟩
  · omega
  · refine ⟨g, cap, L[k].1, L[k].2, hR, by simp [hk], hc k _ (by simp [hk]), ?_⟩
    exact h.each k _ _ (by simp [hk])

set_option maxHeartbeats 2000000 in
set_option maxRecDepth 100000 in
theorem stillRunes_any (B bk : Nat) (R R' : Value) (L L' : List (Value × List El)) (hLL : L.map (·.2) = L'.map (·.2)) (w : World) (h : Kept B w R L) (h' : Kept B w R' L')
    (h4 : w.cell? ⟨bk, 2, none⟩ = some R) (h5 : w.cell? ⟨bk, 3, none⟩ = some R') :
    Calls Tryz.prog 29 #[.pointer (some ⟨bk, 0, none⟩)] w fun e w' => e = .returned (.bool true) ∧ ∃ m, w' = w.drewN m := by
  have hlen : L'.length = L.length := by have := congrArg List.length hLL; simpa using this.symm
  obtain ⟨nL, hnL⟩ : ∃ n, L.length = n := ⟨_, rfl⟩
  have hR : ∃ o c, R = .slice o nL c := by
    rcases own_open h.row with ⟨rfl, h0, _⟩ | ⟨g, cap, rfl, _⟩
    · exact ⟨none, 0, by rw [← hnL, h0]⟩
    · exact ⟨_, cap, by rw [hnL]⟩
  have hR' : ∃ o c, R' = .slice o nL c := by
    rcases own_open h'.row with ⟨rfl, h0, _⟩ | ⟨g, cap, rfl, _⟩
    · exact ⟨none, 0, by rw [← hnL, ← hlen, h0]⟩
    · exact ⟨_, cap, by rw [hlen, hnL]⟩
  obtain ⟨o, c, rfl⟩ := hR
  obtain ⟨o', c', rfl⟩ := hR'
  have hfew := h.few
  rw [hnL] at hfew
  have HN := Lib.hid hnL
  have HN' := Lib.hid (hlen.trans hnL)
  have HK := Lib.hid h
  have HK' := Lib.hid h'
  have HL := Lib.hid hLL
  have h4n : ∀ n, (w.drewN n).cell? ⟨bk, 2, none⟩ = some (.slice o nL c) := fun _ => h4
  have h5n : ∀ n, (w.drewN n).cell? ⟨bk, 3, none⟩ = some (.slice o' nL c') := fun _ => h5
  have H4 := Lib.hid h4n
  have H5 := Lib.hid h5n
  clear h h' hlen hnL hLL h4n h5n h4 h5
  go_enter Tryz.func29, Tryz.ntmps29
  go_wp2
  go_loopw [3] (fun vi wr => ∃ (k : Nat), vi = .int .i64 k ∧ Hid (∃ m, wr = w.drewN m) ∧ k ≤ nL) (fun vi _ => nL - (intOf vi).toNat)
  case atStart => exact ⟨0, rfl, ⟨0, rfl⟩, Nat.zero_le _⟩
  case round =>
    obtain ⟨k, rfl, HW, hk⟩ := hrel
    have f4 : ∀ n, (wr.drewN n).cell? ⟨bk, 2, none⟩ = some (.slice o nL c) := fun n => by obtain ⟨m, rfl⟩ := HW.out; exact H4.out 0
    have f5 : ∀ n, (wr.drewN n).cell? ⟨bk, 3, none⟩ = some (.slice o' nL c') := fun n => by obtain ⟨m, rfl⟩ := HW.out; exact H5.out 0
    have f40 : wr.cell? ⟨bk, 2, none⟩ = some (.slice o nL c) := f4 0
    by_cases hkn : k < nL
    · have i1 : (k : Int) < nL := by omega
      obtain ⟨g, cap, v, xs, hR, hv, hcv, hown, hx⟩ := HK.out.at (k := k) (by rw [HN.out]; exact hkn)
      obtain ⟨g', cap', v', xs', hR', hv', hcv', hown', hx'⟩ := HK'.out.at (k := k) (by rw [HN'.out]; exact hkn)
      have hxx : xs = xs' := by
        have h1 := congrArg (fun l : List (List El) => l[k]?) HL.out
        simp only [List.getElem?_map, hv, hv', Option.map_some] at h1
        exact Option.some.inj h1
      subst hxx
      injection hR with hR _ _
      injection hR' with hR' _ _
      subst hR
      subst hR'
      have c1 : ∀ n, (wr.drewN n).cell? ⟨g, k, none⟩ = some v := fun n => by obtain ⟨m, rfl⟩ := HW.out; exact hcv
      have c2 : ∀ n, (wr.drewN n).cell? ⟨g', k, none⟩ = some v' := fun n => by obtain ⟨m, rfl⟩ := HW.out; exact hcv'
      have C := Lib.hid (fun n => sameRunes_any v v' B B xs (by omega) (wr.drewN n) (by obtain ⟨m, rfl⟩ := HW.out; exact hown) (by obtain ⟨m, rfl⟩ := HW.out; exact hown'))
      clear hv hcv hown hv' hcv' hown' hx hx'
      go_wp2_with fail
      go_quiet ((go_at_call 13; exact Calls.quiet_of (C.out _)))
      go_wp2
      go_roundw
      case rel => exact ⟨k + 1, by go_num, (by obtain ⟨m, rfl⟩ := HW.out; exact ⟨_, drewN_drewN _ _ _⟩), by omega⟩
      case measure => simp [intOf]; omega
    · have i1 : (nL : Int) ≤ k := by omega
      go_wp2
      go_ret
      exact ⟨rfl, HW.out⟩
end Go.Proofs.YtlnlbahggbbaeaaGreat.BkI
end

section
/- The book of lists, fifth part: all lists are marked. -/



namespace Go.Proofs.YtlnlbahggbbaeaaGreat.BkI
open Go.RowKit

theorem grown_trans {a b c : World} {r : Option Nat} (h : a.grownBy b r) (k : b.grownBy c r) : a.grownBy c r :=
  ⟨k.os.trans h.os, k.tape.trans h.tape, k.output.trans h.output, Nat.le_trans h.size k.size, fun i hi hr => (k.block i (Nat.lt_of_lt_of_le hi h.size) hr).trans (h.block i hi hr)⟩
theorem Kept.below {B : Nat} {w w' : World} {R : Value} {L : List (Value × List El)} (h : Kept B w R L) (hb : Below w.heap.size w w') : Kept B w' R L :=
  ⟨own_grown h.row hb, fun i v xs hi => ⟨own_grown (h.each i v xs hi).1 hb, (h.each i v xs hi).2⟩, h.apart, h.few⟩
/-- One list has other contents. -/
theorem Kept.put {B : Nat} {w w' : World} {R : Value} {L : List (Value × List El)} (h : Kept B w R L) {k : Nat} {v : Value} {xs ys : List El} (hk : L[k]? = some (v, xs)) (hg : w.grownBy w' v.ownBlock)
    (hown : w'.ownsRow B 3 1 v ys.length (flatE ys)) (hy : ys.length ≤ 100000) : Kept B w' R (L.set k (v, ys)) := by
  have hkl : k < L.length := (List.getElem?_eq_some_iff.1 hk).1
  have hmap : (L.set k (v, ys)).map (·.1) = L.map (·.1) := by
    apply List.ext_getElem?
    intro i
    simp only [List.getElem?_map, List.getElem?_set]
    by_cases hik : k = i
    · subst hik
      rw [if_pos rfl, if_pos hkl, hk]; rfl
    · rw [if_neg hik]
  have hval : ∀ i p, (L.set k (v, ys))[i]? = some p → ∃ q, L[i]? = some q ∧ q.1 = p.1 ∧ (i ≠ k → q = p) ∧ (i = k → p = (v, ys)) := by
    intro i p hi
    rw [List.getElem?_set] at hi
    by_cases hik : k = i
    · subst hik
      rw [if_pos rfl, if_pos hkl] at hi
      injection hi with hi
      subst hi
      exact ⟨_, hk, rfl, fun h => absurd rfl h, fun _ => rfl⟩
    · rw [if_neg hik] at hi
      exact ⟨p, hi, rfl, fun _ => rfl, fun h => absurd h.symm hik⟩
  refine ⟨?_, ?_, ?_, by rw [List.length_set]; exact h.few⟩
  · rw [List.length_set, hmap]
    exact h.row.kept hg (own_far h.row (h.each k v xs hk).1 (by decide))
  · intro i u zs hi
    obtain ⟨q, hq, h1, h2, h3⟩ := hval i _ hi
    by_cases hik : i = k
    · have := h3 hik
      injection this with e1 e2
      subst e1; subst e2
      exact ⟨hown, hy⟩
    · have := h2 hik
      subst this
      refine ⟨(h.each i _ _ hq).1.kept hg ?_, (h.each i _ _ hq).2⟩
      exact h.apart i k _ _ hik hq hk
  · intro i j p q hij hp hq
    obtain ⟨p', hp', e1, _⟩ := hval i _ hp
    obtain ⟨q', hq', e2, _⟩ := hval j _ hq
    rw [← e1, ← e2]
    exact h.apart i j p' q' hij hp' hq'

theorem mix_step {M xs : List El} {n j : Nat} (hM : M.length = n) (hx : xs.length = n) (hj : j < n) {y : El} (hy : M[j]? = some y) : ((flatE (M.take j ++ xs.drop j)).set (j) (.int .i64 y)) = flatE (M.take (j + 1) ++ xs.drop (j + 1)) := by
  obtain ⟨x, hx0⟩ : ∃ x, xs[j]? = some x := ⟨_, List.getElem?_eq_getElem (by omega)⟩
  have e1 : xs.drop j = [x] ++ xs.drop (j + 1) := by
    obtain ⟨h1, h2⟩ := List.getElem?_eq_some_iff.1 hx0
    rw [List.drop_eq_getElem_cons h1, h2]; rfl
  have e2 : M.take (j + 1) = M.take j ++ [y] := by
    obtain ⟨h1, h2⟩ := List.getElem?_eq_some_iff.1 hy
    rw [List.take_succ_eq_append_getElem h1, h2]
  have hA : (flatE (M.take j)).length = j := by rw [flatE_len, List.length_take]; omega
  rw [e1, e2]
  simp only [flatE_append, flatE_one, encE, List.append_assoc]
  generalize flatE (M.take j) = A at hA ⊢
  rw [List.set_append_right _ _ (by omega), show j - A.length = 0 by omega]
  simp

set_option maxHeartbeats 4000000 in
set_option maxRecDepth 100000 in
theorem putRunes_any (B bk : Nat) (cs : Array Value) (R : Value) (L : List (Value × List El)) (w : World) (h : Kept B w R L) (hbk : w.heap[bk]? = some (.cells cs 38 (0, 0))) (h4 : cs[2]? = some R) :
    Calls Tryz.prog 41 #[.pointer (some ⟨bk, 0, none⟩)] w fun e w' => e = .returned (.tuple #[]) ∧ (∃ L2, Kept B w' R L2 ∧ L2.length = L.length ∧ ∀ i v xs, L[i]? = some (v, xs) → L2[i]? = some (v, marksR i 0 xs.length)) ∧ Touch (L.map (·.1)) w w' := by
  obtain ⟨nL, hnL⟩ : ∃ n, L.length = n := ⟨_, rfl⟩
  have hR : ∃ o c, R = .slice o nL c := by
    rcases own_open h.row with ⟨rfl, h0, _⟩ | ⟨g, cap, rfl, _⟩
    · exact ⟨none, 0, by rw [← hnL, h0]⟩
    · exact ⟨_, cap, by rw [hnL]⟩
  obtain ⟨o, c, rfl⟩ := hR
  have hfew := h.few
  rw [hnL] at hfew
  have HN := Lib.hid hnL
  have HK := Lib.hid h
  have HB := Lib.hid hbk
  have H4 := Lib.hid h4
  clear h hnL hbk h4
  go_enter Tryz.func41, Tryz.ntmps41
  go_wp2
  go_loopw [2, 3, 4] (fun vi vm vj wr => ∃ (k : Nat) (L2 : List (Value × List El)), vi = .int .i64 k ∧ k ≤ nL ∧ Hid (Kept B wr (.slice o nL c) L2 ∧ wr.heap[bk]? = some (.cells cs 38 (0, 0)) ∧ L2.length = L.length ∧ (∀ i v xs, L[i]? = some (v, xs) → L2[i]? = some (v, if i < k then marksR i 0 xs.length else xs)) ∧ Touch (L.map (·.1)) w wr)) (fun vi _ _ _ => nL - (intOf vi).toNat)
  case atStart => exact ⟨0, L, rfl, Nat.zero_le _, HK.out, HB.out, rfl, fun i v xs hi => by simpa using hi, Touch.refl _ _⟩
  case round =>
    obtain ⟨k, L2, rfl, hk, H⟩ := hrel
    have f4 : wr.cell? ⟨bk, 2, none⟩ = some (.slice o nL c) := by rw [cell_of_row wr bk 2 cs 38 (0, 0) H.out.2.1]; exact H4.out
    by_cases hkn : k < nL
    · have i1 : (k : Int) < nL := by omega
      obtain ⟨g, cap, v, xs, hR, hv, hcv, hown, hx⟩ := H.out.1.at (k := k) (by rw [H.out.2.2.1, HN.out]; exact hkn)
      injection hR with hR x2 x3; clear x2 x3
      subst hR
      obtain ⟨n, hn⟩ : ∃ n, xs.length = n := ⟨_, rfl⟩
      have HXN := Lib.hid hn
      have hvs : ∃ o c, v = .slice o n c := by
        rcases own_open hown with ⟨rfl, h0, _⟩ | ⟨g, cap, rfl, _⟩
        · exact ⟨none, 0, by rw [← hn, h0]⟩
        · exact ⟨_, cap, by rw [hn]⟩
      obtain ⟨ov, cv, rfl⟩ := hvs
      rw [hn] at hx hown
      have HO := Lib.hid hown
      have HV := Lib.hid hv
      clear hown hv hn
      have C := Lib.hid (fun W => markRunes_any k 0 n (by omega) (by omega) (by omega) W)
      go_wp2_with fail
      refine (C.out _).mono ?_
      rintro e w1 ⟨⟨vm, rfl, hm⟩, hb1⟩
      obtain ⟨M, hM⟩ : ∃ M, M = marksR k 0 n := ⟨_, rfl⟩
      rw [marksR_length, ← hM] at hm
      have hMl : M.length = n := by rw [hM, marksR_length]
      have HM := Lib.hid hM
      have hvm : ∃ o c, vm = .slice o n c := by
        rcases own_open hm with ⟨rfl, h0, _⟩ | ⟨g, cap, rfl, _⟩
        · exact ⟨none, 0, by rw [h0]⟩
        · exact ⟨_, cap, rfl⟩
      obtain ⟨om, cm, rfl⟩ := hvm
      have HMO := Lib.hid hm
      have HML := Lib.hid hMl
      have HB1 := Lib.hid hb1
      clear hm hM hMl hb1 C
      obtain ⟨w0, hw0⟩ : ∃ w0, w0 = wr := ⟨_, rfl⟩
      subst hw0
      go_wp2
      go_loopw [4] (fun vj wq => ∃ (j : Nat), vj = .int .i64 j ∧ j ≤ n ∧ Hid (wq.ownsRow B 3 1 (.slice ov n cv) n (flatE (M.take j ++ xs.drop j)) ∧ w1.grownBy wq (Value.ownBlock (.slice ov n cv)))) (fun vj _ => n - (intOf vj).toNat)
      case atStart => exact ⟨0, rfl, Nat.zero_le _, by simpa using own_grown HO.out HB1.out, ⟨rfl, rfl, rfl, Nat.le_refl _, fun _ _ _ => rfl⟩⟩
      case round =>
        obtain ⟨j, rfl, hj, HQ⟩ := hrel
        by_cases hjn : j < n
        · have j1 : (j : Int) < n := by omega
          rcases own_open HQ.out.1 with ⟨_, h0, _⟩ | ⟨gv, cv', e1, _, _, _, _, _⟩
          · omega
          injection e1 with e1 x2 x3; clear x2 x3
          subst e1
          rcases own_open HMO.out with ⟨_, h0, _⟩ | ⟨gm, cm', e1, hgm, hgm1, _, _, hcm⟩
          · omega
          injection e1 with e1 x2 x3; clear x2 x3
          subst e1
          have hgv : gv < w0.heap.size := (HO.out.lt gv rfl).2
          have hbw := HB1.out
          have hgq := HQ.out.2
          have hbs := (Array.getElem?_eq_some_iff.1 H.out.2.1).1
          have hgs := (H.out.1.row.lt g rfl).2
          have hnb : gv ≠ bk := fun e => own_ne HO.out H.out.2.1 (by decide) (by rw [← e]; rfl)
          have hng : gv ≠ g := fun e => (own_far HO.out H.out.1.row (by decide)).elim (fun h => by cases h) (fun h => h (by rw [e]; rfl))
          have hBK : wr.heap[bk]? = some (.cells cs 38 (0, 0)) := by
            rw [hgq.block bk (Nat.lt_of_lt_of_le hbs hbw.size) (fun e => hnb (Option.some.inj e).symm), hbw.block bk hbs]; exact H.out.2.1
          have hGK : wr.heap[g]? = w0.heap[g]? := by
            rw [hgq.block g (Nat.lt_of_lt_of_le hgs hbw.size) (fun e => hng (Option.some.inj e).symm), hbw.block g hgs]
          have hMK : wr.heap[gm]? = w1.heap[gm]? := hgq.block gm hgm1 (fun e => by have : gm = gv := Option.some.inj e; omega)
          obtain ⟨y, hMj⟩ : ∃ y, M[j]? = some y := ⟨_, List.getElem?_eq_getElem (by have := HML.out; omega)⟩
          have d1 : ∀ n, (wr.drewN n).cell? ⟨bk, 2, none⟩ = some (.slice (some ⟨g, 0, none⟩) nL c) := fun n => by
            show wr.cell? _ = _
            rw [cell_of_row wr bk 2 cs 38 (0, 0) hBK]; exact H4.out
          have d2 : ∀ n', (wr.drewN n').cell? ⟨g, k, none⟩ = some (.slice (some ⟨gv, 0, none⟩) n cv) := fun _ => by
            show wr.cell? _ = _
            rw [World.cell?_of_block (a := ⟨g, k, none⟩) hGK]; exact hcv
          have m0 : wr.cell? ⟨gm, j, none⟩ = some (.int .i64 y) := by
            rw [World.cell?_of_block (a := ⟨gm, j, none⟩) hMK]; exact hcm _ _ (by have hh := flatE_at M j y hMj 0 _ rfl; rwa [Nat.mul_one, Nat.add_zero] at hh)
          obtain ⟨u0, v0⟩ : ∃ u, wr.cell? ⟨gv, j, none⟩ = some u := by
            have hl : j < (flatE (M.take j ++ xs.drop j)).length := by rw [HQ.out.1.1]; omega
            exact ⟨_, by rw [HQ.out.1.cellAt (j) (by omega), List.getElem?_eq_getElem hl]⟩
          have z0 : wr.frozen? ⟨gv, j, none⟩ = false := HQ.out.1.frozenAt _
          have hs0 := HQ.out.1.stored (j) (.int .i64 y)
          have hso := hs0.1
          rw [mix_step HML.out HXN.out hjn hMj] at hso
          have HST := Lib.hid (And.intro hso (hs0.2))
          have e1 : wr.cell? ⟨bk, 2, none⟩ = _ := d1 0
          have e2 : wr.cell? ⟨g, k, none⟩ = _ := d2 0
          clear hso hs0 hgq hbw hBK hGK hMK hMj hcm d1 d2 f4 hcv
          go_wp2
          go_region
          all_goals
            go_wp2
            go_roundw
            case rel => exact ⟨j + 1, by go_num, by omega, HST.out.1, HQ.out.2.trans (grown_drew HST.out.2)⟩
            case measure => simp [intOf]; omega
        · have j1 : (n : Int) ≤ j := by omega
          have hje : j = n := by omega
          have hl2 : (M.take j ++ xs.drop j) = marksR k 0 n := by
            rw [hje, List.take_of_length_le (by rw [HML.out]; omega), List.drop_eq_nil_of_le (by rw [HXN.out]; omega), List.append_nil]; exact HM.out
          have H9 := Lib.hid hl2
          clear hl2 hje
          go_wp2
          go_roundw
          case rel =>
            have hq := HQ.out
            rw [H9.out] at hq
            have hbs := (Array.getElem?_eq_some_iff.1 H.out.2.1).1
            have hvL : ∃ xs0, L[k]? = some (.slice ov n cv, xs0) := by
              have hkL : k < L.length := by rw [HN.out]; exact hkn
              have h1 := H.out.2.2.2.1 k L[k].1 L[k].2 (by simp [hkL])
              rw [HV.out] at h1
              have h2 := congrArg Prod.fst (Option.some.inj h1)
              exact ⟨L[k].2, by rw [List.getElem?_eq_getElem hkL]; congr 1; exact Prod.ext h2.symm rfl⟩
            refine ⟨k + 1, L2.set k (.slice ov n cv, marksR k 0 n), by go_num, by omega, ?_, ?_, ?_, ?_, ?_⟩
            · exact (H.out.1.below HB1.out).put HV.out hq.2 (by rw [marksR_length]; exact hq.1) (by rw [marksR_length]; exact hx)
            · rw [hq.2.block bk (Nat.lt_of_lt_of_le hbs HB1.out.size) (fun e => own_ne HO.out H.out.2.1 (by decide) e.symm), HB1.out.block bk hbs]
              exact H.out.2.1
            · rw [List.length_set]; exact H.out.2.2.1
            · intro i v' xs' hi
              have h1 := H.out.2.2.2.1 i v' xs' hi
              rw [List.getElem?_set]
              by_cases hik : k = i
              · subst hik
                have hkl := (List.getElem?_eq_some_iff.1 h1).1
                rw [if_pos rfl, if_pos hkl, if_pos (by omega)]
                rw [HV.out, if_neg (by omega)] at h1
                have h2 := Option.some.inj h1
                injection h2 with h2 h3
                rw [← h2, ← h3, HXN.out]
              · rw [if_neg hik, h1]
                by_cases hlt : i < k
                · rw [if_pos hlt, if_pos (by omega)]
                · rw [if_neg hlt, if_neg (by omega)]
            · obtain ⟨xs0, hv0⟩ := hvL
              refine H.out.2.2.2.2.trans ((Touch.of_below HB1.out).trans (Touch.of_grown hq.2 ?_))
              exact List.mem_map.2 ⟨_, List.mem_of_getElem? hv0, rfl⟩
          case measure => simp [intOf]; omega
    · have i1 : (nL : Int) ≤ k := by omega
      go_wp2
      go_end0
      have hH := H.out
      refine ⟨rfl, ⟨L2, hH.1, hH.2.2.1, fun i v xs hi => ?_⟩, hH.2.2.2.2⟩
      have := hH.2.2.2.1 i v xs hi
      rw [if_pos (by have := HN.out; have := (List.getElem?_eq_some_iff.1 hi).1; omega)] at this
      exact this
end Go.Proofs.YtlnlbahggbbaeaaGreat.BkI
end

section
/- The book of lists, sixth part: all lists are grown. -/


namespace Go.Proofs.YtlnlbahggbbaeaaGreat.BkI
open Go.RowKit

theorem grow_step {w0 wq w1 w3 : World} {v vc v' : Value} (h : w0.grownBy wq v.ownBlock) (hc : vc.ownBlock = v.ownBlock ∨ ∀ b, vc.ownBlock = some b → w0.heap.size ≤ b) (hb : Below wq.heap.size wq w1) (hg : w1.grownBy w3 vc.ownBlock)
    (ha : v'.ownBlock = vc.ownBlock ∨ v'.ownBlock = some w1.heap.size) : w0.grownBy w3 v.ownBlock ∧ (v'.ownBlock = v.ownBlock ∨ ∀ b, v'.ownBlock = some b → w0.heap.size ≤ b) := by
  have s1 := h.size
  have s2 := hb.size
  refine ⟨⟨hg.os.trans (hb.os.trans h.os), hg.tape.trans (hb.tape.trans h.tape), hg.output.trans (hb.output.trans h.output), Nat.le_trans s1 (Nat.le_trans s2 hg.size), fun k hk hne => ?_⟩, ?_⟩
  · rw [hg.block k (by omega) ?_, hb.block k (by omega), h.block k hk hne]
    rcases hc with hc | hc
    · rw [hc]; exact hne
    · intro e
      have := hc k e.symm
      omega
  · rcases ha with ha | ha
    · rw [ha]; exact hc
    · refine .inr fun b hb' => ?_
      rw [ha] at hb'
      have := Option.some.inj hb'
      omega

/-- All lists up to one are grown. -/
structure GrowInv (B bk : Nat) (cs : Array Value) (R : Value) (L : List (Value × List El)) (w : World) (us : List Value) (vo : Value) (wr : World) : Prop where
  out : wr.ownsRow w.heap.size 40 1 vo us.length us
  kept : Kept B wr R L
  bk : wr.heap[bk]? = some (.cells cs 38 (0, 0))
  touch : Touch (L.map (·.1)) w wr
  each : ∀ (i : Nat) (u : Value), us[i]? = some u → ∃ v xs, L[i]? = some (v, xs) ∧ wr.ownsRow B 3 1 u (xs.length + 72) (flatE (marksR i 0 (xs.length + 72))) ∧ (u.ownBlock = v.ownBlock ∨ ∀ b, u.ownBlock = some b → w.heap.size ≤ b)

theorem GrowInv.step {B bk : Nat} {cs : Array Value} {R : Value} {L : List (Value × List El)} {w wr w3 w5 : World} {us : List Value} {vo vo' v u : Value} {xs : List El} {o : Obj} (h : GrowInv B bk cs R L w us vo wr) (hk0 : Kept B w R L) (hbk0 : bk < w.heap.size)
    (hv : L[us.length]? = some (v, xs)) (hg : wr.grownBy w3 v.ownBlock) (hv3 : w3.ownsRow B 3 1 v xs.length (flatE xs)) (hu : w3.ownsRow B 3 1 u (xs.length + 72) (flatE (marksR us.length 0 (xs.length + 72))))
    (hub : u.ownBlock = v.ownBlock ∨ ∀ b, u.ownBlock = some b → wr.heap.size ≤ b) (hg5 : (w3.alloc o).grownBy w5 vo.ownBlock) (ho : w5.ownsRow w.heap.size 40 1 vo' (us.length + 1) (us ++ [u])) : GrowInv B bk cs R L w (us ++ [u]) vo' w5 := by
  have hvk := h.kept.each _ _ _ hv
  have hset : L.set us.length (v, xs) = L := by
    apply List.ext_getElem?
    intro i
    rw [List.getElem?_set]
    by_cases hi : us.length = i
    · subst hi
      rw [if_pos rfl, if_pos (List.getElem?_eq_some_iff.1 hv).1, hv]
    · rw [if_neg hi]
  have k3 : Kept B w3 R L := by
    have := h.kept.put hv hg hv3 hvk.2
    rwa [hset] at this
  have hg35 : w3.grownBy w5 vo.ownBlock := (World.grownBy_alloc w3 o vo.ownBlock).trans hg5
  have o3 : w3.ownsRow w.heap.size 40 1 vo us.length us := h.out.kept hg (own_far h.out hvk.1 (by decide))
  have hbig := o3.lt
  have far21 : ∀ {B' n : Nat} {x : Value} {zs : List Value}, w3.ownsRow B' 3 1 x n zs → w5.ownsRow B' 3 1 x n zs := fun hx => hx.kept hg35 (own_far hx o3 (by decide))
  refine ⟨by rw [List.length_append]; exact ho, ⟨?_, fun i x zs hi => ⟨far21 (k3.each i x zs hi).1, (k3.each i x zs hi).2⟩, k3.apart, k3.few⟩, ?_, ?_, ?_⟩
  · refine k3.row.kept hg35 ?_
    cases hR : R.ownBlock with
    | none => exact .inl rfl
    | some r =>
      refine .inr fun e => ?_
      have h1 := (hk0.row.lt r hR).2
      have h2 := (hbig r e.symm).1
      omega
  · have hb3 : w3.heap[bk]? = some (.cells cs 38 (0, 0)) := by
      rw [hg.block bk (by have := h.touch.size; omega) (fun e => own_ne hvk.1 h.bk (by decide) e.symm)]; exact h.bk
    rw [hg35.block bk (by have := h.touch.size; have := hg.size; omega) (fun e => own_ne o3 hb3 (by decide) e.symm)]
    exact hb3
  · have h3 := h.touch.trans (Touch.of_grown hg (List.mem_map.2 ⟨_, List.mem_of_getElem? hv, rfl⟩))
    refine ⟨hg35.os.trans h3.os, hg35.tape.trans h3.tape, hg35.output.trans h3.output, Nat.le_trans h3.size hg35.size, fun k hk hn => ?_⟩
    rw [hg35.block k (by have := h3.size; omega) (fun e => by have := (hbig k e.symm).1; omega)]
    exact h3.block k hk hn
  · intro i x hi
    by_cases hlt : i < us.length
    · rw [List.getElem?_append_left hlt] at hi
      obtain ⟨v', xs', h1, h2, h3⟩ := h.each i x hi
      refine ⟨v', xs', h1, far21 (h2.kept hg ?_), h3⟩
      rcases h3 with h3 | h3
      · rw [h3]
        exact k3.apart i us.length _ _ (by omega) h1 hv
      · cases hx : x.ownBlock with
        | none => exact .inl rfl
        | some r =>
          refine .inr fun e => ?_
          have h4 := h3 r hx
          have h5 := ((hk0.each _ _ _ hv).1.lt r e.symm).2
          omega
    · rw [List.getElem?_append_right (by omega)] at hi
      have : i = us.length := by
        rcases Nat.lt_or_ge (i - us.length) 1 with h9 | h9
        · omega
        · rw [List.getElem?_eq_none (by simpa using h9)] at hi; cases hi
      subst this
      simp at hi
      subst hi
      refine ⟨v, xs, hv, far21 hu, ?_⟩
      rcases hub with hub | hub
      · exact .inl hub
      · exact .inr fun b hb => Nat.le_trans h.touch.size (hub b hb)

end Go.Proofs.YtlnlbahggbbaeaaGreat.BkI
end

section
/- The book of lists, seventh part: the walk that grows all lists. -/

namespace Go.Proofs.YtlnlbahggbbaeaaGreat.BkI
open Go.RowKit

theorem marks_news {w : World} {H g cap i k n : Nat} (h : w.ownsRow H 3 1 (.slice (some ⟨g, 0, none⟩) n cap) n (flatE (marksR i k n))) : ∀ j u, (flatE (marksR i k n))[j]? = some u → w.cell? ((⟨g, 0, none⟩ : Addr).add j) = some u :=
  h.cells rfl

set_option maxHeartbeats 8000000 in
set_option maxRecDepth 100000 in
theorem growRunes_any (B bk : Nat) (cs : Array Value) (R : Value) (L : List (Value × List El)) (w : World) (hBw : B ≤ w.heap.size) (h : Kept B w R L) (hbk : w.heap[bk]? = some (.cells cs 38 (0, 0))) (h4 : cs[2]? = some R) (hmk : ∀ i v xs, L[i]? = some (v, xs) → xs = marksR i 0 xs.length) :
    Calls Tryz.prog 49 #[.pointer (some ⟨bk, 0, none⟩)] w fun e w' => ∃ us vo, e = .returned vo ∧ us.length = L.length ∧ GrowInv B bk cs R L w us vo w' := by
  obtain ⟨i0, hi, hz0, hz1, hz2⟩ := info_parts infoE
  obtain ⟨i1, hi1, hy0, hy1, hy2⟩ := info_parts infoS
  obtain ⟨nL, hnL⟩ : ∃ n, L.length = n := ⟨_, rfl⟩
  have hR : ∃ o c, R = .slice o nL c := by
    rcases own_open h.row with ⟨rfl, h0, _⟩ | ⟨g, cap, rfl, _⟩
    · exact ⟨none, 0, by rw [← hnL, h0]⟩
    · exact ⟨_, cap, by rw [hnL]⟩
  obtain ⟨o, c, rfl⟩ := hR
  have hfew := h.few
  rw [hnL] at hfew
  have HN := Lib.hid hnL
  have HK := Lib.hid h
  have HB := Lib.hid hbk
  have H4 := Lib.hid h4
  have HM := Lib.hid hmk
  clear h hnL hbk h4 hmk
  go_enter Tryz.func49, Tryz.ntmps49
  go_wp2
  go_loopw [3, 4, 5, 6] (fun vo vi vl vj wr => ∃ (k : Nat) (us : List Value), vi = .int .i64 k ∧ k ≤ nL ∧ Hid (us.length = k ∧ GrowInv B bk cs (.slice o nL c) L w us vo wr)) (fun _ vi _ _ _ => nL - (intOf vi).toNat)
  case atStart => exact ⟨0, [], rfl, Nat.zero_le _, rfl, World.ownsRow_nil _ _ _ _, HK.out, HB.out, Touch.refl _ _, fun i u hu => by simp at hu⟩
  case round =>
    obtain ⟨k, us, rfl, hk, H⟩ := hrel
    have f4 : wr.cell? ⟨bk, 2, none⟩ = some (.slice o nL c) := by rw [cell_of_row wr bk 2 cs 38 (0, 0) H.out.2.bk]; exact H4.out
    by_cases hkn : k < nL
    · have j1 : (k : Int) < nL := by omega
      obtain ⟨g, cap, v, xs, hR, hv, hcv, hown, hx⟩ := H.out.2.kept.at (k := k) (by rw [HN.out]; exact hkn)
      injection hR with hR x2 x3
      clear x2 x3
      subst hR
      obtain ⟨n, hn⟩ : ∃ n, xs.length = n := ⟨_, rfl⟩
      have hxm := HM.out _ _ _ hv
      rw [hn] at hxm hx hown
      have hvs : ∃ o c, v = .slice o n c := by
        rcases own_open hown with ⟨rfl, h0, _⟩ | ⟨g, cap, rfl, _⟩
        · exact ⟨none, 0, by rw [h0]⟩
        · exact ⟨_, cap, rfl⟩
      obtain ⟨ov, cv, rfl⟩ := hvs
      have HXN := Lib.hid hn
      have HO := Lib.hid hown
      have HV := Lib.hid hv
      have HXM := Lib.hid hxm
      clear hown hv hn hxm
      obtain ⟨w0, hw0⟩ : ∃ w0, w0 = wr := ⟨_, rfl⟩
      subst hw0
      have hw0 : w.heap.size ≤ w0.heap.size := H.out.2.touch.size
      have hB0 : B ≤ w0.heap.size := by omega
      go_wp2
      go_loopw [5, 6] (fun vl vj wq => ∃ (j : Nat) (oc : Option Addr) (cc : Nat), vl = .slice oc (n + j) cc ∧ vj = .int .i64 j ∧ j ≤ 12 ∧ Hid (wq.ownsRow B 3 1 (.slice oc (n + j) cc) (n + j) (flatE (marksR k 0 (n + j))) ∧ wq.ownsRow B 3 1 (.slice ov n cv) n (flatE xs) ∧ w0.grownBy wq (Value.ownBlock (.slice ov n cv)) ∧ (Value.ownBlock (.slice oc (n + j) cc) = Value.ownBlock (.slice ov n cv) ∨ ∀ b, Value.ownBlock (.slice oc (n + j) cc) = some b → w0.heap.size ≤ b))) (fun _ vj _ => 12 - (intOf vj).toNat)
      case atStart => exact ⟨0, ov, cv, rfl, rfl, by omega, by have := HO.out; rw [HXM.out] at this; exact this, HO.out, ⟨rfl, rfl, rfl, Nat.le_refl _, fun _ _ _ => rfl⟩, .inl rfl⟩
      case round =>
        obtain ⟨j, oc, cc, rfl, rfl, hj, HQ⟩ := hrel
        have hq0 := HQ.out.2.2.1.size
        by_cases hjn : j < 12
        · have j2 : (j : Int) < 12 := by omega
          have C := Lib.hid (fun W => markRunes_any k (n + j) 1 (by omega) (by omega) (by omega) W)
          go_wp2_with fail
          refine (C.out _).mono ?_
          rintro e w1 ⟨⟨vm, rfl, hm⟩, hb1⟩
          rw [marksR_length] at hm
          obtain ⟨gm, cm, rfl, _, _⟩ := hm.form (by omega)
          have hown1 := own_grown HQ.out.1 hb1
          have hold1 := own_grown HQ.out.2.1 hb1
          have hnews := marks_news hm
          have hq1 := hb1.size
          go_wp2_with (at_builtin; go_must (refine wpList_append_keeps _ rfl _ _ 40 rfl B 3 i0 (.int .i64 0) 1 8 Tryz.underlying40 hi hz0 hz1 hz2 rfl (by decide) _ _ _ rfl hown1 ⟨gm, 0, none⟩ 1 cm (flatE (marksR k (n + j) 1)) rfl (by rw [flatE_len, marksR_length]) hnews (flatE_cells _) (by unfold maxLen; omega) (by omega) (by omega) ?_); intro v' w3 hown' hgrow3 hat3 hkeep3; obtain ⟨g3, c3, rfl, _, _⟩ := hown'.form (by omega))
          have hold3 := hkeep3 _ _ _ _ (by omega) hold1
          have hs3 := grow_step HQ.out.2.2.1 HQ.out.2.2.2 hb1 hgrow3 hat3
          rw [← flatE_append] at hown'
          have e9 := marksR_app k 0 (n + j) 1
          rw [Nat.zero_add] at e9
          rw [e9] at hown'
          have H3 := Lib.hid (And.intro hown' (And.intro hold3 hs3))
          clear hown' hold3 hs3 hgrow3 hat3 hkeep3 hown1 hold1 hnews hb1 hm e9
          go_roundw
          case rel => exact ⟨j + 1, _, _, rfl, by go_num, by omega, H3.out⟩
          case measure => simp [intOf]; omega
        · have j2 : (12 : Int) ≤ j := by omega
          have C := Lib.hid (fun W => markRunes_any k (n + j) 60 (by omega) (by omega) (by omega) W)
          go_wp2_with fail
          refine (C.out _).mono ?_
          rintro e w1 ⟨⟨vm, rfl, hm⟩, hb1⟩
          rw [marksR_length] at hm
          obtain ⟨gm, cm, rfl, _, _⟩ := hm.form (by omega)
          have hown1 := own_grown HQ.out.1 hb1
          have hold1 := own_grown HQ.out.2.1 hb1
          have hnews := marks_news hm
          have hq1 := hb1.size
          have hul : us.length = k := H.out.1
          have HUL := Lib.hid hul
          clear hul
          go_wp2_with (at_builtin; first
            | (refine wpList_append_keeps _ rfl _ _ 40 rfl B 3 i0 (.int .i64 0) 1 8 Tryz.underlying40 hi hz0 hz1 hz2 rfl (by decide) _ _ _ rfl hown1 ⟨gm, 0, none⟩ 60 cm (flatE (marksR k (n + j) 60)) rfl (by rw [flatE_len, marksR_length]) hnews (flatE_cells _) (by unfold maxLen; omega) (by omega) (by omega) ?_
               intro v' w3 hown' hgrow3 hat3 hkeep3
               obtain ⟨g3, c3, rfl, _, _⟩ := hown'.form (by omega)
               have hold3 := hkeep3 _ _ _ _ (by omega) hold1
               have hs3 := grow_step HQ.out.2.2.1 HQ.out.2.2.2 hb1 hgrow3 hat3
               rw [← flatE_append] at hown'
               have e9 := marksR_app k 0 (n + j) 60
               rw [Nat.zero_add] at e9
               rw [e9] at hown'
               have ho3 := H.out.2.out.kept hs3.1 (own_far H.out.2.out HO.out (by decide))
               have hw3 := hs3.1.size
               have H3 := Lib.hid (And.intro hown' (And.intro hold3 hs3))
               clear hown' hold3 hs3 hgrow3 hat3 hkeep3 hown1 hold1 hnews hb1 hm e9)
            | (refine wpList_append_own _ rfl _ _ 29 rfl w.heap.size 40 i1 (.slice none 0 0) 1 24 Tryz.underlying29 hi1 hy0 hy1 hy2 rfl (by decide) _ _ _ rfl (ho3.alloc _) ⟨w3.heap.size, 0, none⟩ 1 1 [.slice (some ⟨g3, 0, none⟩) (n + j + 60) c3] rfl rfl (cell_1 _ _ _) (by intro u hu; simp at hu; subst hu; rfl) (by have := HUL.out; unfold maxLen; omega) (by have := HUL.out; omega) (by simp; omega) ?_
               intro vo' w5 hown5 hgrow5 hnil5
               have H5 := Lib.hid (And.intro hown5 hgrow5)
               clear hown5 hgrow5 hnil5 ho3))
          go_roundw
          case rel =>
            have hj12 : j = 12 := by omega
            have hnx := HXN.out
            have hul := HUL.out
            subst hj12
            subst hnx
            subst hul
            exact ⟨us.length + 1, us ++ [_], by go_num, by omega, by simp, GrowInv.step H.out.2 HK.out (Array.getElem?_eq_some_iff.1 HB.out).1 HV.out H3.out.2.2.1 H3.out.2.1 H3.out.1 H3.out.2.2.2 H5.out.2 H5.out.1⟩
          case measure => simp [intOf]; omega
    · have j1 : (nL : Int) ≤ k := by omega
      go_wp2
      go_ret
      exact ⟨us, _, rfl, by have := H.out.1; have := HN.out; omega, H.out.2⟩
end Go.Proofs.YtlnlbahggbbaeaaGreat.BkI
end

section
/- The book of lists, eighth part: lists that are marked. -/

namespace Go.Proofs.YtlnlbahggbbaeaaGreat.BkI
open Go.RowKit

/-- A list of lists that can be read. -/
structure Views (C B : Nat) (w : World) (R : Value) (V : List (Value × List El)) : Prop where
  row : w.ownsRow C 40 1 R V.length (V.map (·.1))
  each : ∀ (i : Nat) (v : Value) (xs : List El), V[i]? = some (v, xs) → w.ownsRow B 3 1 v xs.length (flatE xs) ∧ xs.length ≤ 200000
  few : V.length ≤ 250
theorem Views.below {C B : Nat} {w w' : World} {R : Value} {V : List (Value × List El)} (h : Views C B w R V) (hb : Below w.heap.size w w') : Views C B w' R V :=
  ⟨own_grown h.row hb, fun i v xs hi => ⟨own_grown (h.each i v xs hi).1 hb, (h.each i v xs hi).2⟩, h.few⟩
theorem Views.at {C B : Nat} {w : World} {R : Value} {L : List (Value × List El)} (h : Views C B w R L) {k : Nat} (hk : k < L.length) : ∃ g cap v xs, R = .slice (some ⟨g, 0, none⟩) L.length cap ∧ g < w.heap.size ∧ L[k]? = some (v, xs) ∧ w.cell? ⟨g, k, none⟩ = some v ∧ w.ownsRow B 3 1 v xs.length (flatE xs) ∧ xs.length ≤ 200000 := by
  rcases own_open h.row with ⟨_, h0, _⟩ | ⟨g, cap, hR, _, hg, _, _, hc⟩
  · omega
  · refine ⟨g, cap, L[k].1, L[k].2, hR, hg, by simp [hk], hc k _ (by simp [hk]), ?_⟩
    exact h.each k _ _ (by simp [hk])

set_option maxHeartbeats 8000000 in
set_option maxRecDepth 100000 in
theorem markedRunes_any (C B : Nat) (R : Value) (L : List (Value × List El)) (w : World) (h : Views C B w R L) (hmk : ∀ i v xs, L[i]? = some (v, xs) → xs = marksR i 0 xs.length) :
    Calls Tryz.prog 59 #[R] w fun e w' => e = .returned (.bool true) ∧ Below w.heap.size w w' := by
  obtain ⟨nL, hnL⟩ : ∃ n, L.length = n := ⟨_, rfl⟩
  have hR : ∃ o c, R = .slice o nL c := by
    rcases own_open h.row with ⟨rfl, h0, _⟩ | ⟨g, cap, rfl, _⟩
    · exact ⟨none, 0, by rw [← hnL, h0]⟩
    · exact ⟨_, cap, by rw [hnL]⟩
  obtain ⟨o, c, rfl⟩ := hR
  have hfew := h.few
  rw [hnL] at hfew
  have HN := Lib.hid hnL
  have HK := Lib.hid h
  have HM := Lib.hid hmk
  clear h hnL hmk
  go_enter Tryz.func59, Tryz.ntmps59
  go_wp2
  go_loopw [3] (fun vi wr => ∃ (k : Nat), vi = .int .i64 k ∧ k ≤ nL ∧ Hid (Below w.heap.size w wr)) (fun vi _ => nL - (intOf vi).toNat)
  case atStart => exact ⟨0, rfl, Nat.zero_le _, Below.refl _ _⟩
  case round =>
    obtain ⟨k, rfl, hk, H⟩ := hrel
    by_cases hkn : k < nL
    · have i1 : (k : Int) < nL := by omega
      obtain ⟨g, cap, v, xs, hR, hg, hv, hcv, hown, hx⟩ := (HK.out.below H.out).at (k := k) (by rw [HN.out]; exact hkn)
      injection hR with hR x2 x3
      clear x2 x3
      subst hR
      obtain ⟨n, hn⟩ : ∃ n, xs.length = n := ⟨_, rfl⟩
      have hxm := HM.out _ _ _ hv
      rw [hn] at hxm hx hown
      have hvs : ∃ o c, v = .slice o n c := by
        rcases own_open hown with ⟨rfl, h0, _⟩ | ⟨g, cap, rfl, _⟩
        · exact ⟨none, 0, by rw [h0]⟩
        · exact ⟨_, cap, rfl⟩
      obtain ⟨ov, cv, rfl⟩ := hvs
      rw [hxm] at hown
      have hml := marksR_length k 0 n
      have hown2 : wr.ownsRow B 3 1 (.slice ov n cv) (marksR k 0 n).length (flatE (marksR k 0 n)) := by rw [hml]; exact hown
      have HO := Lib.hid hown2
      have HML := Lib.hid hml
      have HC := Lib.hid hcv
      have c1 : ∀ n', (wr.drewN n').cell? ⟨g, k, none⟩ = some (.slice ov n cv) := fun _ => hcv
      have c0 : wr.cell? ⟨g, k, none⟩ = some (.slice ov n cv) := hcv
      clear hown hown2 hv hn hxm hml hcv
      have CM := Lib.hid (fun W => markRunes_any k 0 n (by omega) (by omega) (by omega) W)
      go_wp2_with fail
      go_region_with (first
        | (go_at_call 89
           refine (CM.out _).mono ?_
           rintro e w1 ⟨⟨vm, rfl, hm⟩, hb1⟩
           have c2 : w1.cell? ⟨g, k, none⟩ = some (.slice ov n cv) := (hb1.cell (p := ⟨g, k, none⟩) hg).trans HC.out
           have HMM := Lib.hid hm
           have HBB := Lib.hid (show Below wr.heap.size wr w1 from ⟨hb1.os, hb1.tape, hb1.output, hb1.size, hb1.block⟩)
           clear hm hb1)
        | (go_at_call 13
           refine (sameRunes_any _ _ B _ (marksR k 0 n) (by have := HML.out; omega) _ (own_grown HO.out HBB.out) HMM.out).mono ?_
           rintro e w2 ⟨rfl, m2, hw2⟩
           have hbz := HBB.out
           have HBZ := Lib.hid (show Below wr.heap.size wr w2 by rw [hw2]; exact ⟨hbz.os, hbz.tape, hbz.output, hbz.size, hbz.block⟩)
           clear hw2 hbz))
      all_goals
        go_wp2
        go_roundw
        case rel => exact ⟨k + 1, by go_num, by omega, H.out.trans (HBZ.out.mono H.out.size)⟩
        case measure => simp [intOf]; omega
    · have i1 : (nL : Int) ≤ k := by omega
      go_wp2
      go_ret
      exact ⟨rfl, H.out⟩
end Go.Proofs.YtlnlbahggbbaeaaGreat.BkI
end

section
/- The book of lists, ninth part: the kinds of which it holds nothing. -/

namespace Go.Proofs.YtlnlbahggbbaeaaGreat.BkI
open Go.RowKit

set_option maxRecDepth 100000 in
theorem stillTexts_none (bk : Nat) (cs : Array Value) (w : World) (hbk : w.heap[bk]? = some (.cells cs 38 (0, 0))) (h : cs[0]? = some (.slice none 0 0)) :
    Calls Tryz.prog 28 #[.pointer (some ⟨bk, 0, none⟩)] w fun e w' => e = .returned (.bool true) ∧ w' = w := by
  have c0 : w.cell? ⟨bk, 0, none⟩ = some (.slice none 0 0) := by rw [cell_of_row w bk 0 cs 38 (0, 0) hbk]; exact h
  clear hbk h
  go_enter Tryz.func28, Tryz.ntmps28
  go_wp2
  go_loopw [3] (fun vi wr => vi = .int .i64 0 ∧ wr = w) (fun _ _ => 0)
  case atStart => exact ⟨rfl, rfl⟩
  case round =>
    obtain ⟨rfl, rfl⟩ := hrel
    go_wp2
    go_ret
    exact ⟨rfl, rfl⟩
set_option maxRecDepth 100000 in
theorem putTexts_none (bk : Nat) (cs : Array Value) (w : World) (hbk : w.heap[bk]? = some (.cells cs 38 (0, 0))) (h : cs[0]? = some (.slice none 0 0)) :
    Calls Tryz.prog 40 #[.pointer (some ⟨bk, 0, none⟩)] w fun e w' => e = .returned (.tuple #[]) ∧ w' = w := by
  have c0 : w.cell? ⟨bk, 0, none⟩ = some (.slice none 0 0) := by rw [cell_of_row w bk 0 cs 38 (0, 0) hbk]; exact h
  clear hbk h
  go_enter Tryz.func40, Tryz.ntmps40
  go_wp2
  go_loopw [2] (fun vi wr => vi = .int .i64 0 ∧ wr = w) (fun _ _ => 0)
  case atStart => exact ⟨rfl, rfl⟩
  case round =>
    obtain ⟨rfl, rfl⟩ := hrel
    go_wp2
    go_end0
    exact ⟨rfl, rfl⟩
set_option maxRecDepth 100000 in
theorem growTexts_none (bk : Nat) (cs : Array Value) (w : World) (hbk : w.heap[bk]? = some (.cells cs 38 (0, 0))) (h : cs[0]? = some (.slice none 0 0)) :
    Calls Tryz.prog 48 #[.pointer (some ⟨bk, 0, none⟩)] w fun e w' => e = .returned (.slice none 0 0) ∧ w' = w := by
  have c0 : w.cell? ⟨bk, 0, none⟩ = some (.slice none 0 0) := by rw [cell_of_row w bk 0 cs 38 (0, 0) hbk]; exact h
  clear hbk h
  go_enter Tryz.func48, Tryz.ntmps48
  go_wp2
  go_loopw [3, 4] (fun vo vi wr => vo = .slice none 0 0 ∧ vi = .int .i64 0 ∧ wr = w) (fun _ _ _ => 0)
  case atStart => exact ⟨rfl, rfl, rfl⟩
  case round =>
    obtain ⟨rfl, rfl, rfl⟩ := hrel
    go_wp2
    go_ret
    exact ⟨rfl, rfl⟩
set_option maxRecDepth 100000 in
theorem markedTexts_none (w : World) :
    Calls Tryz.prog 58 #[.slice none 0 0] w fun e w' => e = .returned (.bool true) ∧ w' = w := by
  go_enter Tryz.func58, Tryz.ntmps58
  go_wp2
  go_loopw [3] (fun vi wr => vi = .int .i64 0 ∧ wr = w) (fun _ _ => 0)
  case atStart => exact ⟨rfl, rfl⟩
  case round =>
    obtain ⟨rfl, rfl⟩ := hrel
    go_wp2
    go_ret
    exact ⟨rfl, rfl⟩

set_option maxRecDepth 100000 in
theorem stillRunes_none (bk : Nat) (cs : Array Value) (w : World) (hbk : w.heap[bk]? = some (.cells cs 38 (0, 0))) (h : cs[4]? = some (.slice none 0 0)) :
    Calls Tryz.prog 30 #[.pointer (some ⟨bk, 0, none⟩)] w fun e w' => e = .returned (.bool true) ∧ w' = w := by
  have c0 : w.cell? ⟨bk, 4, none⟩ = some (.slice none 0 0) := by rw [cell_of_row w bk 4 cs 38 (0, 0) hbk]; exact h
  clear hbk h
  go_enter Tryz.func30, Tryz.ntmps30
  go_wp2
  go_loopw [3] (fun vi wr => vi = .int .i64 0 ∧ wr = w) (fun _ _ => 0)
  case atStart => exact ⟨rfl, rfl⟩
  case round =>
    obtain ⟨rfl, rfl⟩ := hrel
    go_wp2
    go_ret
    exact ⟨rfl, rfl⟩
set_option maxRecDepth 100000 in
theorem putRunes_none (bk : Nat) (cs : Array Value) (w : World) (hbk : w.heap[bk]? = some (.cells cs 38 (0, 0))) (h : cs[4]? = some (.slice none 0 0)) :
    Calls Tryz.prog 42 #[.pointer (some ⟨bk, 0, none⟩)] w fun e w' => e = .returned (.tuple #[]) ∧ w' = w := by
  have c0 : w.cell? ⟨bk, 4, none⟩ = some (.slice none 0 0) := by rw [cell_of_row w bk 4 cs 38 (0, 0) hbk]; exact h
  clear hbk h
  go_enter Tryz.func42, Tryz.ntmps42
  go_wp2
  go_loopw [2] (fun vi wr => vi = .int .i64 0 ∧ wr = w) (fun _ _ => 0)
  case atStart => exact ⟨rfl, rfl⟩
  case round =>
    obtain ⟨rfl, rfl⟩ := hrel
    go_wp2
    go_end0
    exact ⟨rfl, rfl⟩
set_option maxRecDepth 100000 in
theorem growRunes_none (bk : Nat) (cs : Array Value) (w : World) (hbk : w.heap[bk]? = some (.cells cs 38 (0, 0))) (h : cs[4]? = some (.slice none 0 0)) :
    Calls Tryz.prog 50 #[.pointer (some ⟨bk, 0, none⟩)] w fun e w' => e = .returned (.slice none 0 0) ∧ w' = w := by
  have c0 : w.cell? ⟨bk, 4, none⟩ = some (.slice none 0 0) := by rw [cell_of_row w bk 4 cs 38 (0, 0) hbk]; exact h
  clear hbk h
  go_enter Tryz.func50, Tryz.ntmps50
  go_wp2
  go_loopw [3, 4] (fun vo vi wr => vo = .slice none 0 0 ∧ vi = .int .i64 0 ∧ wr = w) (fun _ _ _ => 0)
  case atStart => exact ⟨rfl, rfl, rfl⟩
  case round =>
    obtain ⟨rfl, rfl, rfl⟩ := hrel
    go_wp2
    go_ret
    exact ⟨rfl, rfl⟩
set_option maxRecDepth 100000 in
theorem markedRunes_none (w : World) :
    Calls Tryz.prog 60 #[.slice none 0 0] w fun e w' => e = .returned (.bool true) ∧ w' = w := by
  go_enter Tryz.func60, Tryz.ntmps60
  go_wp2
  go_loopw [3] (fun vi wr => vi = .int .i64 0 ∧ wr = w) (fun _ _ => 0)
  case atStart => exact ⟨rfl, rfl⟩
  case round =>
    obtain ⟨rfl, rfl⟩ := hrel
    go_wp2
    go_ret
    exact ⟨rfl, rfl⟩

set_option maxRecDepth 100000 in
theorem stillLabels_none (bk : Nat) (cs : Array Value) (w : World) (hbk : w.heap[bk]? = some (.cells cs 38 (0, 0))) (h : cs[6]? = some (.slice none 0 0)) :
    Calls Tryz.prog 31 #[.pointer (some ⟨bk, 0, none⟩)] w fun e w' => e = .returned (.bool true) ∧ w' = w := by
  have c0 : w.cell? ⟨bk, 6, none⟩ = some (.slice none 0 0) := by rw [cell_of_row w bk 6 cs 38 (0, 0) hbk]; exact h
  clear hbk h
  go_enter Tryz.func31, Tryz.ntmps31
  go_wp2
  go_loopw [3] (fun vi wr => vi = .int .i64 0 ∧ wr = w) (fun _ _ => 0)
  case atStart => exact ⟨rfl, rfl⟩
  case round =>
    obtain ⟨rfl, rfl⟩ := hrel
    go_wp2
    go_ret
    exact ⟨rfl, rfl⟩
set_option maxRecDepth 100000 in
theorem putLabels_none (bk : Nat) (cs : Array Value) (w : World) (hbk : w.heap[bk]? = some (.cells cs 38 (0, 0))) (h : cs[6]? = some (.slice none 0 0)) :
    Calls Tryz.prog 43 #[.pointer (some ⟨bk, 0, none⟩)] w fun e w' => e = .returned (.tuple #[]) ∧ w' = w := by
  have c0 : w.cell? ⟨bk, 6, none⟩ = some (.slice none 0 0) := by rw [cell_of_row w bk 6 cs 38 (0, 0) hbk]; exact h
  clear hbk h
  go_enter Tryz.func43, Tryz.ntmps43
  go_wp2
  go_loopw [2] (fun vi wr => vi = .int .i64 0 ∧ wr = w) (fun _ _ => 0)
  case atStart => exact ⟨rfl, rfl⟩
  case round =>
    obtain ⟨rfl, rfl⟩ := hrel
    go_wp2
    go_end0
    exact ⟨rfl, rfl⟩
set_option maxRecDepth 100000 in
theorem growLabels_none (bk : Nat) (cs : Array Value) (w : World) (hbk : w.heap[bk]? = some (.cells cs 38 (0, 0))) (h : cs[6]? = some (.slice none 0 0)) :
    Calls Tryz.prog 51 #[.pointer (some ⟨bk, 0, none⟩)] w fun e w' => e = .returned (.slice none 0 0) ∧ w' = w := by
  have c0 : w.cell? ⟨bk, 6, none⟩ = some (.slice none 0 0) := by rw [cell_of_row w bk 6 cs 38 (0, 0) hbk]; exact h
  clear hbk h
  go_enter Tryz.func51, Tryz.ntmps51
  go_wp2
  go_loopw [3, 4] (fun vo vi wr => vo = .slice none 0 0 ∧ vi = .int .i64 0 ∧ wr = w) (fun _ _ _ => 0)
  case atStart => exact ⟨rfl, rfl, rfl⟩
  case round =>
    obtain ⟨rfl, rfl, rfl⟩ := hrel
    go_wp2
    go_ret
    exact ⟨rfl, rfl⟩
set_option maxRecDepth 100000 in
theorem markedLabels_none (w : World) :
    Calls Tryz.prog 61 #[.slice none 0 0] w fun e w' => e = .returned (.bool true) ∧ w' = w := by
  go_enter Tryz.func61, Tryz.ntmps61
  go_wp2
  go_loopw [3] (fun vi wr => vi = .int .i64 0 ∧ wr = w) (fun _ _ => 0)
  case atStart => exact ⟨rfl, rfl⟩
  case round =>
    obtain ⟨rfl, rfl⟩ := hrel
    go_wp2
    go_ret
    exact ⟨rfl, rfl⟩

set_option maxRecDepth 100000 in
theorem stillPoints_none (bk : Nat) (cs : Array Value) (w : World) (hbk : w.heap[bk]? = some (.cells cs 38 (0, 0))) (h : cs[8]? = some (.slice none 0 0)) :
    Calls Tryz.prog 32 #[.pointer (some ⟨bk, 0, none⟩)] w fun e w' => e = .returned (.bool true) ∧ w' = w := by
  have c0 : w.cell? ⟨bk, 8, none⟩ = some (.slice none 0 0) := by rw [cell_of_row w bk 8 cs 38 (0, 0) hbk]; exact h
  clear hbk h
  go_enter Tryz.func32, Tryz.ntmps32
  go_wp2
  go_loopw [3] (fun vi wr => vi = .int .i64 0 ∧ wr = w) (fun _ _ => 0)
  case atStart => exact ⟨rfl, rfl⟩
  case round =>
    obtain ⟨rfl, rfl⟩ := hrel
    go_wp2
    go_ret
    exact ⟨rfl, rfl⟩
set_option maxRecDepth 100000 in
theorem putPoints_none (bk : Nat) (cs : Array Value) (w : World) (hbk : w.heap[bk]? = some (.cells cs 38 (0, 0))) (h : cs[8]? = some (.slice none 0 0)) :
    Calls Tryz.prog 44 #[.pointer (some ⟨bk, 0, none⟩)] w fun e w' => e = .returned (.tuple #[]) ∧ w' = w := by
  have c0 : w.cell? ⟨bk, 8, none⟩ = some (.slice none 0 0) := by rw [cell_of_row w bk 8 cs 38 (0, 0) hbk]; exact h
  clear hbk h
  go_enter Tryz.func44, Tryz.ntmps44
  go_wp2
  go_loopw [2] (fun vi wr => vi = .int .i64 0 ∧ wr = w) (fun _ _ => 0)
  case atStart => exact ⟨rfl, rfl⟩
  case round =>
    obtain ⟨rfl, rfl⟩ := hrel
    go_wp2
    go_end0
    exact ⟨rfl, rfl⟩
set_option maxRecDepth 100000 in
theorem growPoints_none (bk : Nat) (cs : Array Value) (w : World) (hbk : w.heap[bk]? = some (.cells cs 38 (0, 0))) (h : cs[8]? = some (.slice none 0 0)) :
    Calls Tryz.prog 52 #[.pointer (some ⟨bk, 0, none⟩)] w fun e w' => e = .returned (.slice none 0 0) ∧ w' = w := by
  have c0 : w.cell? ⟨bk, 8, none⟩ = some (.slice none 0 0) := by rw [cell_of_row w bk 8 cs 38 (0, 0) hbk]; exact h
  clear hbk h
  go_enter Tryz.func52, Tryz.ntmps52
  go_wp2
  go_loopw [3, 4] (fun vo vi wr => vo = .slice none 0 0 ∧ vi = .int .i64 0 ∧ wr = w) (fun _ _ _ => 0)
  case atStart => exact ⟨rfl, rfl, rfl⟩
  case round =>
    obtain ⟨rfl, rfl, rfl⟩ := hrel
    go_wp2
    go_ret
    exact ⟨rfl, rfl⟩
set_option maxRecDepth 100000 in
theorem markedPoints_none (w : World) :
    Calls Tryz.prog 62 #[.slice none 0 0] w fun e w' => e = .returned (.bool true) ∧ w' = w := by
  go_enter Tryz.func62, Tryz.ntmps62
  go_wp2
  go_loopw [3] (fun vi wr => vi = .int .i64 0 ∧ wr = w) (fun _ _ => 0)
  case atStart => exact ⟨rfl, rfl⟩
  case round =>
    obtain ⟨rfl, rfl⟩ := hrel
    go_wp2
    go_ret
    exact ⟨rfl, rfl⟩

set_option maxRecDepth 100000 in
theorem stillTokens_none (bk : Nat) (cs : Array Value) (w : World) (hbk : w.heap[bk]? = some (.cells cs 38 (0, 0))) (h : cs[10]? = some (.slice none 0 0)) :
    Calls Tryz.prog 33 #[.pointer (some ⟨bk, 0, none⟩)] w fun e w' => e = .returned (.bool true) ∧ w' = w := by
  have c0 : w.cell? ⟨bk, 10, none⟩ = some (.slice none 0 0) := by rw [cell_of_row w bk 10 cs 38 (0, 0) hbk]; exact h
  clear hbk h
  go_enter Tryz.func33, Tryz.ntmps33
  go_wp2
  go_loopw [3] (fun vi wr => vi = .int .i64 0 ∧ wr = w) (fun _ _ => 0)
  case atStart => exact ⟨rfl, rfl⟩
  case round =>
    obtain ⟨rfl, rfl⟩ := hrel
    go_wp2
    go_ret
    exact ⟨rfl, rfl⟩
set_option maxRecDepth 100000 in
theorem putTokens_none (bk : Nat) (cs : Array Value) (w : World) (hbk : w.heap[bk]? = some (.cells cs 38 (0, 0))) (h : cs[10]? = some (.slice none 0 0)) :
    Calls Tryz.prog 45 #[.pointer (some ⟨bk, 0, none⟩)] w fun e w' => e = .returned (.tuple #[]) ∧ w' = w := by
  have c0 : w.cell? ⟨bk, 10, none⟩ = some (.slice none 0 0) := by rw [cell_of_row w bk 10 cs 38 (0, 0) hbk]; exact h
  clear hbk h
  go_enter Tryz.func45, Tryz.ntmps45
  go_wp2
  go_loopw [2] (fun vi wr => vi = .int .i64 0 ∧ wr = w) (fun _ _ => 0)
  case atStart => exact ⟨rfl, rfl⟩
  case round =>
    obtain ⟨rfl, rfl⟩ := hrel
    go_wp2
    go_end0
    exact ⟨rfl, rfl⟩
set_option maxRecDepth 100000 in
theorem growTokens_none (bk : Nat) (cs : Array Value) (w : World) (hbk : w.heap[bk]? = some (.cells cs 38 (0, 0))) (h : cs[10]? = some (.slice none 0 0)) :
    Calls Tryz.prog 53 #[.pointer (some ⟨bk, 0, none⟩)] w fun e w' => e = .returned (.slice none 0 0) ∧ w' = w := by
  have c0 : w.cell? ⟨bk, 10, none⟩ = some (.slice none 0 0) := by rw [cell_of_row w bk 10 cs 38 (0, 0) hbk]; exact h
  clear hbk h
  go_enter Tryz.func53, Tryz.ntmps53
  go_wp2
  go_loopw [3, 4] (fun vo vi wr => vo = .slice none 0 0 ∧ vi = .int .i64 0 ∧ wr = w) (fun _ _ _ => 0)
  case atStart => exact ⟨rfl, rfl, rfl⟩
  case round =>
    obtain ⟨rfl, rfl, rfl⟩ := hrel
    go_wp2
    go_ret
    exact ⟨rfl, rfl⟩
set_option maxRecDepth 100000 in
theorem markedTokens_none (w : World) :
    Calls Tryz.prog 63 #[.slice none 0 0] w fun e w' => e = .returned (.bool true) ∧ w' = w := by
  go_enter Tryz.func63, Tryz.ntmps63
  go_wp2
  go_loopw [3] (fun vi wr => vi = .int .i64 0 ∧ wr = w) (fun _ _ => 0)
  case atStart => exact ⟨rfl, rfl⟩
  case round =>
    obtain ⟨rfl, rfl⟩ := hrel
    go_wp2
    go_ret
    exact ⟨rfl, rfl⟩

set_option maxRecDepth 100000 in
theorem stillCursors_none (bk : Nat) (cs : Array Value) (w : World) (hbk : w.heap[bk]? = some (.cells cs 38 (0, 0))) (h : cs[12]? = some (.slice none 0 0)) :
    Calls Tryz.prog 34 #[.pointer (some ⟨bk, 0, none⟩)] w fun e w' => e = .returned (.bool true) ∧ w' = w := by
  have c0 : w.cell? ⟨bk, 12, none⟩ = some (.slice none 0 0) := by rw [cell_of_row w bk 12 cs 38 (0, 0) hbk]; exact h
  clear hbk h
  go_enter Tryz.func34, Tryz.ntmps34
  go_wp2
  go_loopw [3] (fun vi wr => vi = .int .i64 0 ∧ wr = w) (fun _ _ => 0)
  case atStart => exact ⟨rfl, rfl⟩
  case round =>
    obtain ⟨rfl, rfl⟩ := hrel
    go_wp2
    go_ret
    exact ⟨rfl, rfl⟩
set_option maxRecDepth 100000 in
theorem putCursors_none (bk : Nat) (cs : Array Value) (w : World) (hbk : w.heap[bk]? = some (.cells cs 38 (0, 0))) (h : cs[12]? = some (.slice none 0 0)) :
    Calls Tryz.prog 46 #[.pointer (some ⟨bk, 0, none⟩)] w fun e w' => e = .returned (.tuple #[]) ∧ w' = w := by
  have c0 : w.cell? ⟨bk, 12, none⟩ = some (.slice none 0 0) := by rw [cell_of_row w bk 12 cs 38 (0, 0) hbk]; exact h
  clear hbk h
  go_enter Tryz.func46, Tryz.ntmps46
  go_wp2
  go_loopw [2] (fun vi wr => vi = .int .i64 0 ∧ wr = w) (fun _ _ => 0)
  case atStart => exact ⟨rfl, rfl⟩
  case round =>
    obtain ⟨rfl, rfl⟩ := hrel
    go_wp2
    go_end0
    exact ⟨rfl, rfl⟩
set_option maxRecDepth 100000 in
theorem growCursors_none (bk : Nat) (cs : Array Value) (w : World) (hbk : w.heap[bk]? = some (.cells cs 38 (0, 0))) (h : cs[12]? = some (.slice none 0 0)) :
    Calls Tryz.prog 54 #[.pointer (some ⟨bk, 0, none⟩)] w fun e w' => e = .returned (.slice none 0 0) ∧ w' = w := by
  have c0 : w.cell? ⟨bk, 12, none⟩ = some (.slice none 0 0) := by rw [cell_of_row w bk 12 cs 38 (0, 0) hbk]; exact h
  clear hbk h
  go_enter Tryz.func54, Tryz.ntmps54
  go_wp2
  go_loopw [3, 4] (fun vo vi wr => vo = .slice none 0 0 ∧ vi = .int .i64 0 ∧ wr = w) (fun _ _ _ => 0)
  case atStart => exact ⟨rfl, rfl, rfl⟩
  case round =>
    obtain ⟨rfl, rfl, rfl⟩ := hrel
    go_wp2
    go_ret
    exact ⟨rfl, rfl⟩
set_option maxRecDepth 100000 in
theorem markedCursors_none (w : World) :
    Calls Tryz.prog 64 #[.slice none 0 0] w fun e w' => e = .returned (.bool true) ∧ w' = w := by
  go_enter Tryz.func64, Tryz.ntmps64
  go_wp2
  go_loopw [3] (fun vi wr => vi = .int .i64 0 ∧ wr = w) (fun _ _ => 0)
  case atStart => exact ⟨rfl, rfl⟩
  case round =>
    obtain ⟨rfl, rfl⟩ := hrel
    go_wp2
    go_ret
    exact ⟨rfl, rfl⟩

set_option maxRecDepth 100000 in
theorem stillNotes_none (bk : Nat) (cs : Array Value) (w : World) (hbk : w.heap[bk]? = some (.cells cs 38 (0, 0))) (h : cs[14]? = some (.slice none 0 0)) :
    Calls Tryz.prog 35 #[.pointer (some ⟨bk, 0, none⟩)] w fun e w' => e = .returned (.bool true) ∧ w' = w := by
  have c0 : w.cell? ⟨bk, 14, none⟩ = some (.slice none 0 0) := by rw [cell_of_row w bk 14 cs 38 (0, 0) hbk]; exact h
  clear hbk h
  go_enter Tryz.func35, Tryz.ntmps35
  go_wp2
  go_loopw [3] (fun vi wr => vi = .int .i64 0 ∧ wr = w) (fun _ _ => 0)
  case atStart => exact ⟨rfl, rfl⟩
  case round =>
    obtain ⟨rfl, rfl⟩ := hrel
    go_wp2
    go_ret
    exact ⟨rfl, rfl⟩
set_option maxRecDepth 100000 in
theorem putNotes_none (bk : Nat) (cs : Array Value) (w : World) (hbk : w.heap[bk]? = some (.cells cs 38 (0, 0))) (h : cs[14]? = some (.slice none 0 0)) :
    Calls Tryz.prog 47 #[.pointer (some ⟨bk, 0, none⟩)] w fun e w' => e = .returned (.tuple #[]) ∧ w' = w := by
  have c0 : w.cell? ⟨bk, 14, none⟩ = some (.slice none 0 0) := by rw [cell_of_row w bk 14 cs 38 (0, 0) hbk]; exact h
  clear hbk h
  go_enter Tryz.func47, Tryz.ntmps47
  go_wp2
  go_loopw [2] (fun vi wr => vi = .int .i64 0 ∧ wr = w) (fun _ _ => 0)
  case atStart => exact ⟨rfl, rfl⟩
  case round =>
    obtain ⟨rfl, rfl⟩ := hrel
    go_wp2
    go_end0
    exact ⟨rfl, rfl⟩
set_option maxRecDepth 100000 in
theorem growNotes_none (bk : Nat) (cs : Array Value) (w : World) (hbk : w.heap[bk]? = some (.cells cs 38 (0, 0))) (h : cs[14]? = some (.slice none 0 0)) :
    Calls Tryz.prog 55 #[.pointer (some ⟨bk, 0, none⟩)] w fun e w' => e = .returned (.slice none 0 0) ∧ w' = w := by
  have c0 : w.cell? ⟨bk, 14, none⟩ = some (.slice none 0 0) := by rw [cell_of_row w bk 14 cs 38 (0, 0) hbk]; exact h
  clear hbk h
  go_enter Tryz.func55, Tryz.ntmps55
  go_wp2
  go_loopw [3, 4] (fun vo vi wr => vo = .slice none 0 0 ∧ vi = .int .i64 0 ∧ wr = w) (fun _ _ _ => 0)
  case atStart => exact ⟨rfl, rfl, rfl⟩
  case round =>
    obtain ⟨rfl, rfl, rfl⟩ := hrel
    go_wp2
    go_ret
    exact ⟨rfl, rfl⟩
set_option maxRecDepth 100000 in
theorem markedNotes_none (w : World) :
    Calls Tryz.prog 65 #[.slice none 0 0] w fun e w' => e = .returned (.bool true) ∧ w' = w := by
  go_enter Tryz.func65, Tryz.ntmps65
  go_wp2
  go_loopw [3] (fun vi wr => vi = .int .i64 0 ∧ wr = w) (fun _ _ => 0)
  case atStart => exact ⟨rfl, rfl⟩
  case round =>
    obtain ⟨rfl, rfl⟩ := hrel
    go_wp2
    go_ret
    exact ⟨rfl, rfl⟩

set_option maxRecDepth 100000 in
theorem stillRows_none (bk : Nat) (cs : Array Value) (w : World) (hbk : w.heap[bk]? = some (.cells cs 38 (0, 0))) (h : cs[16]? = some (.slice none 0 0)) :
    Calls Tryz.prog 36 #[.pointer (some ⟨bk, 0, none⟩)] w fun e w' => e = .returned (.bool true) ∧ w' = w := by
  have c0 : w.cell? ⟨bk, 16, none⟩ = some (.slice none 0 0) := by rw [cell_of_row w bk 16 cs 38 (0, 0) hbk]; exact h
  clear hbk h
  go_enter Tryz.func36, Tryz.ntmps36
  go_wp2
  go_loopw [3] (fun vi wr => vi = .int .i64 0 ∧ wr = w) (fun _ _ => 0)
  case atStart => exact ⟨rfl, rfl⟩
  case round =>
    obtain ⟨rfl, rfl⟩ := hrel
    go_wp2
    go_ret
    exact ⟨rfl, rfl⟩
set_option maxRecDepth 100000 in
theorem putRows_none (bk : Nat) (cs : Array Value) (w : World) (hbk : w.heap[bk]? = some (.cells cs 38 (0, 0))) (h : cs[16]? = some (.slice none 0 0)) :
    Calls Tryz.prog 38 #[.pointer (some ⟨bk, 0, none⟩)] w fun e w' => e = .returned (.tuple #[]) ∧ w' = w := by
  have c0 : w.cell? ⟨bk, 16, none⟩ = some (.slice none 0 0) := by rw [cell_of_row w bk 16 cs 38 (0, 0) hbk]; exact h
  clear hbk h
  go_enter Tryz.func38, Tryz.ntmps38
  go_wp2
  go_loopw [2] (fun vi wr => vi = .int .i64 0 ∧ wr = w) (fun _ _ => 0)
  case atStart => exact ⟨rfl, rfl⟩
  case round =>
    obtain ⟨rfl, rfl⟩ := hrel
    go_wp2
    go_end0
    exact ⟨rfl, rfl⟩
set_option maxRecDepth 100000 in
theorem growRows_none (bk : Nat) (cs : Array Value) (w : World) (hbk : w.heap[bk]? = some (.cells cs 38 (0, 0))) (h : cs[16]? = some (.slice none 0 0)) :
    Calls Tryz.prog 56 #[.pointer (some ⟨bk, 0, none⟩)] w fun e w' => e = .returned (.slice none 0 0) ∧ w' = w := by
  have c0 : w.cell? ⟨bk, 16, none⟩ = some (.slice none 0 0) := by rw [cell_of_row w bk 16 cs 38 (0, 0) hbk]; exact h
  clear hbk h
  go_enter Tryz.func56, Tryz.ntmps56
  go_wp2
  go_loopw [3, 4] (fun vo vi wr => vo = .slice none 0 0 ∧ vi = .int .i64 0 ∧ wr = w) (fun _ _ _ => 0)
  case atStart => exact ⟨rfl, rfl, rfl⟩
  case round =>
    obtain ⟨rfl, rfl, rfl⟩ := hrel
    go_wp2
    go_ret
    exact ⟨rfl, rfl⟩
set_option maxRecDepth 100000 in
theorem markedRows_none (w : World) :
    Calls Tryz.prog 66 #[.slice none 0 0] w fun e w' => e = .returned (.bool true) ∧ w' = w := by
  go_enter Tryz.func66, Tryz.ntmps66
  go_wp2
  go_loopw [3] (fun vi wr => vi = .int .i64 0 ∧ wr = w) (fun _ _ => 0)
  case atStart => exact ⟨rfl, rfl⟩
  case round =>
    obtain ⟨rfl, rfl⟩ := hrel
    go_wp2
    go_ret
    exact ⟨rfl, rfl⟩

set_option maxRecDepth 100000 in
theorem stillSeries_none (bk : Nat) (cs : Array Value) (w : World) (hbk : w.heap[bk]? = some (.cells cs 38 (0, 0))) (h : cs[18]? = some (.slice none 0 0)) :
    Calls Tryz.prog 37 #[.pointer (some ⟨bk, 0, none⟩)] w fun e w' => e = .returned (.bool true) ∧ w' = w := by
  have c0 : w.cell? ⟨bk, 18, none⟩ = some (.slice none 0 0) := by rw [cell_of_row w bk 18 cs 38 (0, 0) hbk]; exact h
  clear hbk h
  go_enter Tryz.func37, Tryz.ntmps37
  go_wp2
  go_loopw [3] (fun vi wr => vi = .int .i64 0 ∧ wr = w) (fun _ _ => 0)
  case atStart => exact ⟨rfl, rfl⟩
  case round =>
    obtain ⟨rfl, rfl⟩ := hrel
    go_wp2
    go_ret
    exact ⟨rfl, rfl⟩
set_option maxRecDepth 100000 in
theorem putSeries_none (bk : Nat) (cs : Array Value) (w : World) (hbk : w.heap[bk]? = some (.cells cs 38 (0, 0))) (h : cs[18]? = some (.slice none 0 0)) :
    Calls Tryz.prog 39 #[.pointer (some ⟨bk, 0, none⟩)] w fun e w' => e = .returned (.tuple #[]) ∧ w' = w := by
  have c0 : w.cell? ⟨bk, 18, none⟩ = some (.slice none 0 0) := by rw [cell_of_row w bk 18 cs 38 (0, 0) hbk]; exact h
  clear hbk h
  go_enter Tryz.func39, Tryz.ntmps39
  go_wp2
  go_loopw [2] (fun vi wr => vi = .int .i64 0 ∧ wr = w) (fun _ _ => 0)
  case atStart => exact ⟨rfl, rfl⟩
  case round =>
    obtain ⟨rfl, rfl⟩ := hrel
    go_wp2
    go_end0
    exact ⟨rfl, rfl⟩
set_option maxRecDepth 100000 in
theorem growSeries_none (bk : Nat) (cs : Array Value) (w : World) (hbk : w.heap[bk]? = some (.cells cs 38 (0, 0))) (h : cs[18]? = some (.slice none 0 0)) :
    Calls Tryz.prog 57 #[.pointer (some ⟨bk, 0, none⟩)] w fun e w' => e = .returned (.slice none 0 0) ∧ w' = w := by
  have c0 : w.cell? ⟨bk, 18, none⟩ = some (.slice none 0 0) := by rw [cell_of_row w bk 18 cs 38 (0, 0) hbk]; exact h
  clear hbk h
  go_enter Tryz.func57, Tryz.ntmps57
  go_wp2
  go_loopw [3, 4] (fun vo vi wr => vo = .slice none 0 0 ∧ vi = .int .i64 0 ∧ wr = w) (fun _ _ _ => 0)
  case atStart => exact ⟨rfl, rfl, rfl⟩
  case round =>
    obtain ⟨rfl, rfl, rfl⟩ := hrel
    go_wp2
    go_ret
    exact ⟨rfl, rfl⟩
set_option maxRecDepth 100000 in
theorem markedSeries_none (w : World) :
    Calls Tryz.prog 67 #[.slice none 0 0] w fun e w' => e = .returned (.bool true) ∧ w' = w := by
  go_enter Tryz.func67, Tryz.ntmps67
  go_wp2
  go_loopw [3] (fun vi wr => vi = .int .i64 0 ∧ wr = w) (fun _ _ => 0)
  case atStart => exact ⟨rfl, rfl⟩
  case round =>
    obtain ⟨rfl, rfl⟩ := hrel
    go_wp2
    go_ret
    exact ⟨rfl, rfl⟩
end Go.Proofs.YtlnlbahggbbaeaaGreat.BkI
end

section
/- The book of lists, tenth part: are they apart? -/

namespace Go.Proofs.YtlnlbahggbbaeaaGreat.BkI
open Go.RowKit

theorem views_of {C B : Nat} {w : World} {R : Value} {us : List Value} (hrow : w.ownsRow C 40 1 R us.length us) (hfew : us.length ≤ 250) (h : ∀ (i : Nat) (u : Value), us[i]? = some u → ∃ m, m ≤ 200000 ∧ w.ownsRow B 3 1 u m (flatE (marksR i 0 m))) :
    ∃ V, Views C B w R V ∧ ∀ (i : Nat) (v : Value) (xs : List El), V[i]? = some (v, xs) → xs = marksR i 0 xs.length := by
  have h2 : ∀ i : Nat, ∃ m : Nat, ∀ u, us[i]? = some u → m ≤ 200000 ∧ w.ownsRow B 3 1 u m (flatE (marksR i 0 m)) := by
    intro i
    cases hi : us[i]? with
    | none => exact ⟨0, fun u hu => by cases hu⟩
    | some u =>
      obtain ⟨m, hm⟩ := h i u hi
      exact ⟨m, fun u' hu => by cases hu; exact hm⟩
  obtain ⟨f, hf⟩ := Classical.skolem.1 h2
  have hmap : (us.mapIdx fun i u => (u, marksR i 0 (f i))).map (·.1) = us := by
    apply List.ext_getElem?
    intro i
    simp only [List.getElem?_map, List.getElem?_mapIdx, Option.map_map]
    cases us[i]? <;> rfl
  have hlk : ∀ (i : Nat) (v : Value) (xs : List El), (us.mapIdx fun i u => (u, marksR i 0 (f i)))[i]? = some (v, xs) → us[i]? = some v ∧ xs = marksR i 0 (f i) := by
    intro i v xs hi
    rw [List.getElem?_mapIdx] at hi
    cases hu : us[i]? with
    | none => rw [hu] at hi; cases hi
    | some u =>
      rw [hu] at hi
      have := Option.some.inj hi
      injection this with e1 e2
      exact ⟨by rw [e1], e2.symm⟩
  refine ⟨us.mapIdx fun i u => (u, marksR i 0 (f i)), ⟨by rw [hmap, List.length_mapIdx]; exact hrow, fun i v xs hi => ?_, by rw [List.length_mapIdx]; exact hfew⟩, fun i v xs hi => ?_⟩
  · obtain ⟨h3, rfl⟩ := hlk i v xs hi
    rw [marksR_length]
    exact ⟨(hf i v h3).2, (hf i v h3).1⟩
  · obtain ⟨_, rfl⟩ := hlk i v xs hi
    rw [marksR_length]
theorem Kept.views {B : Nat} {w : World} {R : Value} {L : List (Value × List El)} (h : Kept B w R L) : Views B B w R L :=
  ⟨h.row, fun i v xs hi => ⟨(h.each i v xs hi).1, Nat.le_trans (h.each i v xs hi).2 (by decide)⟩, h.few⟩
theorem Kept.touched {B bk : Nat} {w w' : World} {R : Value} {L : List (Value × List El)} {cs : Array Value} (h : Kept B w R L) (hb : w.heap[bk]? = some (.cells cs 38 (0, 0))) (ht : Touch (L.map (·.1)) w w') : w'.heap[bk]? = some (.cells cs 38 (0, 0)) := by
  rw [ht.block bk (Array.getElem?_eq_some_iff.1 hb).1 ?_]
  · exact hb
  · intro v hv
    obtain ⟨p, hp, rfl⟩ := List.mem_map.1 hv
    obtain ⟨i, hi⟩ := List.mem_iff_getElem?.1 hp
    exact own_ne (h.each i p.1 p.2 hi).1 hb (by decide)

set_option maxHeartbeats 16000000 in
set_option maxRecDepth 100000 in
theorem apart_any (B bk : Nat) (cs : Array Value) (R R' : Value) (L L' : List (Value × List El)) (hLL : L.map (·.2) = L'.map (·.2)) (w : World) (hBw : B ≤ w.heap.size) (h : Kept B w R L) (h' : Kept B w R' L') (hbk : w.heap[bk]? = some (.cells cs 38 (0, 0)))
    (h4 : cs[2]? = some R) (h5 : cs[3]? = some R') (hno : ∀ i, i < 20 → i ≠ 2 → i ≠ 3 → cs[i]? = some (.slice none 0 0)) :
    Calls Tryz.prog 18 #[.pointer (some ⟨bk, 0, none⟩)] w fun e w' => e = .returned (.bool true) ∧ ∃ V, (∀ v ∈ V, v.ownBlock = none ∨ ∃ b, v.ownBlock = some b ∧ B ≤ b) ∧ Touch V w w' := by
  have HL := Lib.hid hLL
  have HK := Lib.hid h
  have HK' := Lib.hid h'
  have HB := Lib.hid hbk
  have H4 := Lib.hid h4
  have H5 := Lib.hid h5
  have HNO := Lib.hid hno
  clear hLL h h' hbk h4 h5 hno
  go_enter Tryz.func18, Tryz.ntmps18
  go_wp2_with fail
  refine (stillTexts_none bk cs _ HB.out (HNO.out 0 (by decide) (by decide) (by decide))).mono ?_
  rintro e wz ⟨rfl, hwz⟩
  replace hwz := hwz.symm
  subst hwz
  go_wp2_with fail
  refine (stillRunes_any B bk R R' L L' HL.out _ HK.out HK'.out (by rw [cell_of_row _ bk 2 cs 38 (0, 0) HB.out]; exact H4.out) (by rw [cell_of_row _ bk 3 cs 38 (0, 0) HB.out]; exact H5.out)).mono ?_
  rintro e wA ⟨rfl, mA, hwA⟩
  have HBA := Lib.hid (show wA.heap[bk]? = some (.cells cs 38 (0, 0)) by rw [hwA]; exact HB.out)
  have HKA := Lib.hid (show Kept B wA R L by rw [hwA]; exact HK.out.drewN mA)
  have HTA := Lib.hid (show Touch (L.map (·.1)) w wA by rw [hwA]; exact ⟨rfl, rfl, rfl, Nat.le_refl _, fun _ _ _ => rfl⟩)
  clear hwA
  go_wp2_with fail
  refine (stillRunes_none bk cs _ HBA.out (HNO.out 4 (by decide) (by decide) (by decide))).mono ?_
  rintro e wz ⟨rfl, hwz⟩
  replace hwz := hwz.symm
  subst hwz
  go_wp2_with fail
  refine (stillLabels_none bk cs _ HBA.out (HNO.out 6 (by decide) (by decide) (by decide))).mono ?_
  rintro e wz ⟨rfl, hwz⟩
  replace hwz := hwz.symm
  subst hwz
  go_wp2_with fail
  refine (stillPoints_none bk cs _ HBA.out (HNO.out 8 (by decide) (by decide) (by decide))).mono ?_
  rintro e wz ⟨rfl, hwz⟩
  replace hwz := hwz.symm
  subst hwz
  go_wp2_with fail
  refine (stillTokens_none bk cs _ HBA.out (HNO.out 10 (by decide) (by decide) (by decide))).mono ?_
  rintro e wz ⟨rfl, hwz⟩
  replace hwz := hwz.symm
  subst hwz
  go_wp2_with fail
  refine (stillCursors_none bk cs _ HBA.out (HNO.out 12 (by decide) (by decide) (by decide))).mono ?_
  rintro e wz ⟨rfl, hwz⟩
  replace hwz := hwz.symm
  subst hwz
  go_wp2_with fail
  refine (stillNotes_none bk cs _ HBA.out (HNO.out 14 (by decide) (by decide) (by decide))).mono ?_
  rintro e wz ⟨rfl, hwz⟩
  replace hwz := hwz.symm
  subst hwz
  go_wp2_with fail
  refine (stillRows_none bk cs _ HBA.out (HNO.out 16 (by decide) (by decide) (by decide))).mono ?_
  rintro e wz ⟨rfl, hwz⟩
  replace hwz := hwz.symm
  subst hwz
  go_wp2_with fail
  refine (stillSeries_none bk cs _ HBA.out (HNO.out 18 (by decide) (by decide) (by decide))).mono ?_
  rintro e wz ⟨rfl, hwz⟩
  replace hwz := hwz.symm
  subst hwz
  go_wp2_with fail
  refine (putRows_none bk cs _ HBA.out (HNO.out 16 (by decide) (by decide) (by decide))).mono ?_
  rintro e wz ⟨rfl, hwz⟩
  replace hwz := hwz.symm
  subst hwz
  go_wp2_with fail
  refine (putSeries_none bk cs _ HBA.out (HNO.out 18 (by decide) (by decide) (by decide))).mono ?_
  rintro e wz ⟨rfl, hwz⟩
  replace hwz := hwz.symm
  subst hwz
  go_wp2_with fail
  refine (putTexts_none bk cs _ HBA.out (HNO.out 0 (by decide) (by decide) (by decide))).mono ?_
  rintro e wz ⟨rfl, hwz⟩
  replace hwz := hwz.symm
  subst hwz
  go_wp2_with fail
  refine (putRunes_any B bk cs R L _ HKA.out HBA.out H4.out).mono ?_
  rintro e wB ⟨rfl, ⟨L2, hK2, hl2, hm2⟩, hT2⟩
  have HBB := Lib.hid (HKA.out.touched HBA.out hT2)
  have HTB := Lib.hid (HTA.out.trans hT2)
  have HKB := Lib.hid hK2
  have HLB := Lib.hid hl2
  have HMB := Lib.hid (show ∀ (i : Nat) (v : Value) (xs : List El), L2[i]? = some (v, xs) → xs = marksR i 0 xs.length by
    intro i v xs hi
    have hil : i < L.length := by rw [← hl2]; exact (List.getElem?_eq_some_iff.1 hi).1
    have h1 := hm2 i L[i].1 L[i].2 (by simp [hil])
    rw [hi] at h1
    have h2 := congrArg Prod.snd (Option.some.inj h1)
    simp only at h2
    rw [h2, marksR_length])
  have HVB := Lib.hid (show L2.map (·.1) = L.map (·.1) by
    apply List.ext_getElem?
    intro i
    rw [List.getElem?_map, List.getElem?_map]
    by_cases hil : i < L.length
    · rw [hm2 i L[i].1 L[i].2 (by simp [hil]), List.getElem?_eq_getElem hil]; rfl
    · rw [List.getElem?_eq_none (by omega), List.getElem?_eq_none (by omega)])
  clear hT2 hK2 hl2 hm2
  go_wp2_with fail
  refine (putRunes_none bk cs _ HBB.out (HNO.out 4 (by decide) (by decide) (by decide))).mono ?_
  rintro e wz ⟨rfl, hwz⟩
  replace hwz := hwz.symm
  subst hwz
  go_wp2_with fail
  refine (putLabels_none bk cs _ HBB.out (HNO.out 6 (by decide) (by decide) (by decide))).mono ?_
  rintro e wz ⟨rfl, hwz⟩
  replace hwz := hwz.symm
  subst hwz
  go_wp2_with fail
  refine (putPoints_none bk cs _ HBB.out (HNO.out 8 (by decide) (by decide) (by decide))).mono ?_
  rintro e wz ⟨rfl, hwz⟩
  replace hwz := hwz.symm
  subst hwz
  go_wp2_with fail
  refine (putTokens_none bk cs _ HBB.out (HNO.out 10 (by decide) (by decide) (by decide))).mono ?_
  rintro e wz ⟨rfl, hwz⟩
  replace hwz := hwz.symm
  subst hwz
  go_wp2_with fail
  refine (putCursors_none bk cs _ HBB.out (HNO.out 12 (by decide) (by decide) (by decide))).mono ?_
  rintro e wz ⟨rfl, hwz⟩
  replace hwz := hwz.symm
  subst hwz
  go_wp2_with fail
  refine (putNotes_none bk cs _ HBB.out (HNO.out 14 (by decide) (by decide) (by decide))).mono ?_
  rintro e wz ⟨rfl, hwz⟩
  replace hwz := hwz.symm
  subst hwz
  go_wp2_with fail
  refine (growTexts_none bk cs _ HBB.out (HNO.out 0 (by decide) (by decide) (by decide))).mono ?_
  rintro e wz ⟨rfl, hwz⟩
  replace hwz := hwz.symm
  subst hwz
  go_wp2_with fail
  refine (growRunes_any B bk cs R L2 _ (Nat.le_trans hBw HTB.out.size) HKB.out HBB.out H4.out HMB.out).mono ?_
  rintro e wC ⟨us, vo, rfl, hul, hG⟩
  have HBC := Lib.hid hG.bk
  have HTC := Lib.hid (HTB.out.trans (show Touch (L.map (·.1)) wB wC by rw [← HVB.out]; exact hG.touch))
  have HKC := Lib.hid hG.kept
  obtain ⟨V, hV, hVm⟩ := views_of (B := B) hG.out (by rw [hul]; exact hG.kept.few) (fun i u hu => by
    obtain ⟨v, xs, h1, h2, _⟩ := hG.each i u hu
    exact ⟨_, by have := (hG.kept.each i v xs h1).2; omega, h2⟩)
  have HV := Lib.hid hV
  have HVM := Lib.hid hVm
  clear hG hul hV hVm
  go_wp2_with fail
  refine (growRunes_none bk cs _ HBC.out (HNO.out 4 (by decide) (by decide) (by decide))).mono ?_
  rintro e wz ⟨rfl, hwz⟩
  replace hwz := hwz.symm
  subst hwz
  go_wp2_with fail
  refine (growLabels_none bk cs _ HBC.out (HNO.out 6 (by decide) (by decide) (by decide))).mono ?_
  rintro e wz ⟨rfl, hwz⟩
  replace hwz := hwz.symm
  subst hwz
  go_wp2_with fail
  refine (growPoints_none bk cs _ HBC.out (HNO.out 8 (by decide) (by decide) (by decide))).mono ?_
  rintro e wz ⟨rfl, hwz⟩
  replace hwz := hwz.symm
  subst hwz
  go_wp2_with fail
  refine (growTokens_none bk cs _ HBC.out (HNO.out 10 (by decide) (by decide) (by decide))).mono ?_
  rintro e wz ⟨rfl, hwz⟩
  replace hwz := hwz.symm
  subst hwz
  go_wp2_with fail
  refine (growCursors_none bk cs _ HBC.out (HNO.out 12 (by decide) (by decide) (by decide))).mono ?_
  rintro e wz ⟨rfl, hwz⟩
  replace hwz := hwz.symm
  subst hwz
  go_wp2_with fail
  refine (growNotes_none bk cs _ HBC.out (HNO.out 14 (by decide) (by decide) (by decide))).mono ?_
  rintro e wz ⟨rfl, hwz⟩
  replace hwz := hwz.symm
  subst hwz
  go_wp2_with fail
  refine (growRows_none bk cs _ HBC.out (HNO.out 16 (by decide) (by decide) (by decide))).mono ?_
  rintro e wz ⟨rfl, hwz⟩
  replace hwz := hwz.symm
  subst hwz
  go_wp2_with fail
  refine (growSeries_none bk cs _ HBC.out (HNO.out 18 (by decide) (by decide) (by decide))).mono ?_
  rintro e wz ⟨rfl, hwz⟩
  replace hwz := hwz.symm
  subst hwz
  have q0 : wC.cell? ⟨bk, 0, none⟩ = some (.slice none 0 0) := by rw [cell_of_row _ bk 0 cs 38 (0, 0) HBC.out]; exact HNO.out 0 (by decide) (by decide) (by decide)
  have q4 : wC.cell? ⟨bk, 2, none⟩ = some R := by rw [cell_of_row _ bk 2 cs 38 (0, 0) HBC.out]; exact H4.out
  go_wp2_with fail
  refine (markedTexts_none _).mono ?_
  rintro e wz ⟨rfl, hwz⟩
  replace hwz := hwz.symm
  subst hwz
  go_wp2_with fail
  refine (markedTexts_none _).mono ?_
  rintro e wz ⟨rfl, hwz⟩
  replace hwz := hwz.symm
  subst hwz
  go_wp2_with fail
  refine (markedRunes_any _ B vo V _ HV.out HVM.out).mono ?_
  rintro e wD ⟨rfl, hbD⟩
  have q4 : wD.cell? ⟨bk, 2, none⟩ = some R := by rw [hbD.cell (p := ⟨bk, 2, none⟩) (Array.getElem?_eq_some_iff.1 HBC.out).1]; exact q4
  have HBD := Lib.hid (show wD.heap[bk]? = some (.cells cs 38 (0, 0)) by rw [hbD.block bk (Array.getElem?_eq_some_iff.1 HBC.out).1]; exact HBC.out)
  have HKD := Lib.hid (HKC.out.below hbD)
  have HTD := Lib.hid (HTC.out.trans (Touch.of_below hbD))
  clear hbD
  go_wp2_with fail
  refine (markedRunes_any B B R L2 _ HKD.out.views HMB.out).mono ?_
  rintro e wE ⟨rfl, hbE⟩
  have HBE := Lib.hid (show wE.heap[bk]? = some (.cells cs 38 (0, 0)) by rw [hbE.block bk (Array.getElem?_eq_some_iff.1 HBD.out).1]; exact HBD.out)
  have HTE := Lib.hid (HTD.out.trans (Touch.of_below hbE))
  clear q4 q0
  have q4 : wE.cell? ⟨bk, 4, none⟩ = some (.slice none 0 0) := by rw [cell_of_row _ bk 4 cs 38 (0, 0) HBE.out]; exact HNO.out 4 (by decide) (by decide) (by decide)
  have q6 : wE.cell? ⟨bk, 6, none⟩ = some (.slice none 0 0) := by rw [cell_of_row _ bk 6 cs 38 (0, 0) HBE.out]; exact HNO.out 6 (by decide) (by decide) (by decide)
  have q8 : wE.cell? ⟨bk, 8, none⟩ = some (.slice none 0 0) := by rw [cell_of_row _ bk 8 cs 38 (0, 0) HBE.out]; exact HNO.out 8 (by decide) (by decide) (by decide)
  have q10 : wE.cell? ⟨bk, 10, none⟩ = some (.slice none 0 0) := by rw [cell_of_row _ bk 10 cs 38 (0, 0) HBE.out]; exact HNO.out 10 (by decide) (by decide) (by decide)
  have q12 : wE.cell? ⟨bk, 12, none⟩ = some (.slice none 0 0) := by rw [cell_of_row _ bk 12 cs 38 (0, 0) HBE.out]; exact HNO.out 12 (by decide) (by decide) (by decide)
  have q14 : wE.cell? ⟨bk, 14, none⟩ = some (.slice none 0 0) := by rw [cell_of_row _ bk 14 cs 38 (0, 0) HBE.out]; exact HNO.out 14 (by decide) (by decide) (by decide)
  have q16 : wE.cell? ⟨bk, 16, none⟩ = some (.slice none 0 0) := by rw [cell_of_row _ bk 16 cs 38 (0, 0) HBE.out]; exact HNO.out 16 (by decide) (by decide) (by decide)
  have q18 : wE.cell? ⟨bk, 18, none⟩ = some (.slice none 0 0) := by rw [cell_of_row _ bk 18 cs 38 (0, 0) HBE.out]; exact HNO.out 18 (by decide) (by decide) (by decide)
  go_wp2_with fail
  refine (markedRunes_none _).mono ?_
  rintro e wz ⟨rfl, hwz⟩
  replace hwz := hwz.symm
  subst hwz
  go_wp2_with fail
  refine (markedRunes_none _).mono ?_
  rintro e wz ⟨rfl, hwz⟩
  replace hwz := hwz.symm
  subst hwz
  go_wp2_with fail
  refine (markedLabels_none _).mono ?_
  rintro e wz ⟨rfl, hwz⟩
  replace hwz := hwz.symm
  subst hwz
  go_wp2_with fail
  refine (markedLabels_none _).mono ?_
  rintro e wz ⟨rfl, hwz⟩
  replace hwz := hwz.symm
  subst hwz
  go_wp2_with fail
  refine (markedPoints_none _).mono ?_
  rintro e wz ⟨rfl, hwz⟩
  replace hwz := hwz.symm
  subst hwz
  go_wp2_with fail
  refine (markedPoints_none _).mono ?_
  rintro e wz ⟨rfl, hwz⟩
  replace hwz := hwz.symm
  subst hwz
  go_wp2_with fail
  refine (markedTokens_none _).mono ?_
  rintro e wz ⟨rfl, hwz⟩
  replace hwz := hwz.symm
  subst hwz
  go_wp2_with fail
  refine (markedTokens_none _).mono ?_
  rintro e wz ⟨rfl, hwz⟩
  replace hwz := hwz.symm
  subst hwz
  go_wp2_with fail
  refine (markedCursors_none _).mono ?_
  rintro e wz ⟨rfl, hwz⟩
  replace hwz := hwz.symm
  subst hwz
  go_wp2_with fail
  refine (markedCursors_none _).mono ?_
  rintro e wz ⟨rfl, hwz⟩
  replace hwz := hwz.symm
  subst hwz
  go_wp2_with fail
  refine (markedNotes_none _).mono ?_
  rintro e wz ⟨rfl, hwz⟩
  replace hwz := hwz.symm
  subst hwz
  go_wp2_with fail
  refine (markedNotes_none _).mono ?_
  rintro e wz ⟨rfl, hwz⟩
  replace hwz := hwz.symm
  subst hwz
  go_wp2_with fail
  refine (markedRows_none _).mono ?_
  rintro e wz ⟨rfl, hwz⟩
  replace hwz := hwz.symm
  subst hwz
  go_wp2_with fail
  refine (markedRows_none _).mono ?_
  rintro e wz ⟨rfl, hwz⟩
  replace hwz := hwz.symm
  subst hwz
  go_wp2_with fail
  refine (markedSeries_none _).mono ?_
  rintro e wz ⟨rfl, hwz⟩
  replace hwz := hwz.symm
  subst hwz
  go_wp2_with fail
  refine (markedSeries_none _).mono ?_
  rintro e wz ⟨rfl, hwz⟩
  replace hwz := hwz.symm
  subst hwz
  go_wp2
  go_ret
  refine ⟨rfl, L.map (·.1), ?_, HTE.out⟩
  intro v hv
  obtain ⟨p, hp, rfl⟩ := List.mem_map.1 hv
  obtain ⟨i, hi⟩ := List.mem_iff_getElem?.1 hp
  have h1 := (HK.out.each i p.1 p.2 hi).1
  cases hx : p.1.ownBlock with
  | none => exact .inl rfl
  | some b => exact .inr ⟨b, rfl, (h1.lt b hx).1⟩
end Go.Proofs.YtlnlbahggbbaeaaGreat.BkI
end

section
/- The book of lists, eleventh part: one more list is kept. -/



namespace Go.Proofs.YtlnlbahggbbaeaaGreat.BkI
open Go.RowKit

theorem own_setCell {w : World} {B e sz n : Nat} {v : Value} {xs : List Value} {bk j : Nat} {u : Value} (h : w.ownsRow B e sz v n xs) (hne : v.ownBlock ≠ some bk) : (w.setCell ⟨bk, j, none⟩ u).ownsRow B e sz v n xs :=
  h.kept (row := some bk) ⟨rfl, rfl, rfl, by simp, fun k _ hk => heap_setCell_other w ⟨bk, j, none⟩ k u (fun e => hk (by simp [e]))⟩ (.inr hne)
theorem spelt_form {B : Nat} {xs : List El} {v : Value} {w : World} (h : w.ownsRow B 3 1 v xs.length (flatE xs)) : ∃ o c, v = .slice o xs.length c := by
  rcases own_open h with ⟨rfl, h0, _⟩ | ⟨g, cap, rfl, _⟩
  · exact ⟨none, 0, by rw [h0]⟩
  · exact ⟨_, cap, rfl⟩

set_option maxHeartbeats 8000000 in
set_option maxRecDepth 100000 in
theorem bookRunes_any (B bk : Nat) (cs : Array Value) (R R' : Value) (L L' : List (Value × List El)) (v : Value) (xs : List El) (w : World) (hB : B ≤ w.heap.size) (h : Kept B w R L) (h' : Kept B w R' L') (hbk : w.heap[bk]? = some (.cells cs 38 (0, 0)))
    (h4 : cs[2]? = some R) (h5 : cs[3]? = some R') (hv : w.ownsRow B 3 1 v xs.length (flatE xs)) (hx : xs.length ≤ 100000) (hfew : L.length < 250) (hLL : L'.length = L.length) (hne : R'.ownBlock = none ∨ R'.ownBlock ≠ R.ownBlock) :
    Calls Tryz.prog 10 #[.pointer (some ⟨bk, 0, none⟩), v] w fun e w' => e = .returned (.tuple #[]) ∧ ∃ (o1 o2 : Obj) (w3 w1 w5 : World) (g1 c1 g2 c2 : Nat) (u : Value) (_s1 : (w.alloc o1).grownBy w3 R.ownBlock) (_s2 : Below w3.heap.size (w3.setCell ⟨bk, 2, none⟩ (.slice (some ⟨g1, 0, none⟩) (L.length + 1) c1)) w1) (_s3 : (w1.alloc o2).grownBy w5 R'.ownBlock),
      w3.ownsRow B 40 1 (.slice (some ⟨g1, 0, none⟩) (L.length + 1) c1) (L.length + 1) (L.map (·.1) ++ [v]) ∧ (R.ownBlock = some g1 ∨ g1 = (w.alloc o1).heap.size) ∧
      w1.ownsRow w3.heap.size 3 1 u xs.length (flatE xs) ∧
      w5.ownsRow B 40 1 (.slice (some ⟨g2, 0, none⟩) (L.length + 1) c2) (L.length + 1) (L'.map (·.1) ++ [u]) ∧ (R'.ownBlock = some g2 ∨ g2 = (w1.alloc o2).heap.size) ∧
      ∃ m, w' = (w5.setCell ⟨bk, 3, none⟩ (.slice (some ⟨g2, 0, none⟩) (L.length + 1) c2)).drewN m := by
  obtain ⟨i1, hi1, hy0, hy1, hy2⟩ := info_parts infoS
  obtain ⟨nL, hnL⟩ : ∃ n, L.length = n := ⟨_, rfl⟩
  have hR : ∃ o c, R = .slice o nL c := by
    rcases own_open h.row with ⟨rfl, h0, _⟩ | ⟨g, cap, rfl, _⟩
    · exact ⟨none, 0, by rw [← hnL, h0]⟩
    · exact ⟨_, cap, by rw [hnL]⟩
  have hR' : ∃ o c, R' = .slice o nL c := by
    rcases own_open h'.row with ⟨rfl, h0, _⟩ | ⟨g, cap, rfl, _⟩
    · exact ⟨none, 0, by rw [← hnL, ← hLL, h0]⟩
    · exact ⟨_, cap, by rw [hLL, hnL]⟩
  have hvv : ∃ o c, v = .slice o xs.length c := by
    rcases own_open hv with ⟨rfl, h0, _⟩ | ⟨g, cap, rfl, _⟩
    · exact ⟨none, 0, by rw [h0]⟩
    · exact ⟨_, cap, rfl⟩
  obtain ⟨ov, cv, rfl⟩ := hvv
  obtain ⟨o, c, rfl⟩ := hR
  obtain ⟨o', c', rfl⟩ := hR'
  have hrow := h.row
  have hrow' := h'.row
  rw [hLL] at hrow'
  rw [hnL] at hfew hrow hrow' ⊢
  obtain ⟨vs, hvs⟩ : ∃ vs, vs = L.map (·.1) := ⟨_, rfl⟩
  obtain ⟨us, hus⟩ : ∃ us, us = L'.map (·.1) := ⟨_, rfl⟩
  rw [← hvs] at hrow ⊢
  rw [← hus] at hrow' ⊢
  have HB := Lib.hid hbk
  have H4 := Lib.hid h4
  have H5 := Lib.hid h5
  have HV := Lib.hid hv
  have HR := Lib.hid hrow
  have HR' := Lib.hid hrow'
  have f4 : w.cell? ⟨bk, 2, none⟩ = some (.slice o nL c) := by rw [cell_of_row w bk 2 cs 38 (0, 0) hbk]; exact h4
  have hone : ∀ (a : Option Addr) (n c : Nat), (Value.slice a n c).oneCell' = true := fun _ _ _ => rfl
  have HNE := Lib.hid hne
  clear h h' hbk h4 h5 hv hnL hLL hvs hus hone hne
  go_enter Tryz.func10, Tryz.ntmps10
  go_wp2_with (at_builtin
               go_must (refine wpList_append_lies _ rfl _ _ 29 rfl B 40 i1 (.slice none 0 0) 1 24 Tryz.underlying29 hi1 hy0 hy1 hy2 rfl (by decide) _ _ _ rfl (hrow.alloc _) ⟨w.heap.size, 0, none⟩ 1 1 [.slice ov xs.length cv] rfl rfl (cell_1 _ _ _) (by intro u hu; simp at hu; subst hu; rfl) (by decide) (by unfold maxLen; omega) (by omega) (by simp; omega) _ rfl ?_)
               intro g1 c1 w3 hown3 hgrow3 hat3 hlt3
               have hb3 : w3.heap[bk]? = some (.cells cs 38 (0, 0)) := by
                 rw [hgrow3.block bk (by have := (Array.getElem?_eq_some_iff.1 HB.out).1; simp; omega) (fun e => own_ne HR.out HB.out (by decide) e.symm), Below.heap_alloc _ _ _ (Array.getElem?_eq_some_iff.1 HB.out).1]; exact HB.out
               have q4 : w3.cell? ⟨bk, 2, none⟩ = some (.slice o nL c) := by rw [cell_of_row w3 bk 2 cs 38 (0, 0) hb3]; exact H4.out
               have z4 : w3.frozen? ⟨bk, 2, none⟩ = false := frozen_of_row w3 bk 2 cs 38 hb3)
  obtain ⟨W4, hW4⟩ : ∃ W4, W4 = w3.setCell ⟨bk, 2, none⟩ (.slice (some ⟨g1, 0, none⟩) (nL + 1) c1) := ⟨_, rfl⟩
  rw [← hW4]
  have hr3 : w3.ownsRow B 40 1 (.slice o' nL c') nL us := ((HR'.out).alloc _).kept hgrow3 HNE.out
  have hv3 : w3.ownsRow B 3 1 (.slice ov xs.length cv) xs.length (flatE xs) := ((HV.out).alloc _).kept hgrow3 (own_far HV.out HR.out (by decide))
  have hr4 : W4.ownsRow B 40 1 (.slice o' nL c') nL us := by rw [hW4]; exact own_setCell hr3 (own_ne hr3 hb3 (by decide))
  have hv4 : W4.ownsRow B 3 1 (.slice ov xs.length cv) xs.length (flatE xs) := by rw [hW4]; exact own_setCell hv3 (own_ne hv3 hb3 (by decide))
  have hb4 : W4.heap[bk]? = some (.cells (cs.setIfInBounds 2 (.slice (some ⟨g1, 0, none⟩) (nL + 1) c1)) 38 (0, 0)) := by rw [hW4]; exact heap_setCell_same w3 bk 2 cs 38 _ hb3
  have q5 : ∀ n, (W4.drewN n).cell? ⟨bk, 3, none⟩ = some (.slice o' nL c') := fun _ => by
    show W4.cell? _ = _
    rw [cell_of_row W4 bk 3 _ 38 (0, 0) hb4, Array.getElem?_setIfInBounds_ne (by decide)]; exact H5.out
  have q50 : W4.cell? ⟨bk, 3, none⟩ = some (.slice o' nL c') := q5 0
  have hbk4 : bk < W4.heap.size := (Array.getElem?_eq_some_iff.1 hb4).1
  have hsz4 : W4.heap.size = w3.heap.size := by rw [hW4]; simp
  have hsz3 : w.heap.size ≤ w3.heap.size := by have := hgrow3.size; simp at this; omega
  have HB4 := Lib.hid hb4
  have HRR := Lib.hid hr4
  have HVV := Lib.hid hv4
  have HW4 := Lib.hid hW4
  have HG3 := Lib.hid (And.intro hown3 (And.intro hgrow3 hat3))
  clear hW4 hr3 hv3 hr4 hv4 hb3 q4 z4 f4 hown3 hgrow3 hat3 hrow hrow' hb4
  have HC := Lib.hid (show Calls Tryz.prog 24 #[.slice ov xs.length cv] W4.drew fun e w1 => ∃ ou cu, e = .returned (.slice ou xs.length cu) ∧ w1.ownsRow W4.heap.size 3 1 (.slice ou xs.length cu) xs.length (flatE xs) ∧ Below W4.heap.size W4 w1 ∧ W4.heap.size ≤ w1.heap.size ∧ bk < w1.heap.size ∧
      w1.heap[bk]? = some (.cells (cs.setIfInBounds 2 (.slice (some ⟨g1, 0, none⟩) (nL + 1) c1)) 38 (0, 0)) ∧ w1.ownsRow B 40 1 (.slice o' nL c') nL us ∧ w1.cell? ⟨bk, 3, none⟩ = some (.slice o' nL c') from by
    refine (copyRunes_any _ B xs (by omega) W4.drew (show W4.ownsRow _ _ _ _ _ _ from HVV.out)).mono ?_
    rintro e w1 ⟨⟨u, rfl, hu⟩, hb1⟩
    obtain ⟨ou, cu, rfl⟩ := spelt_form hu
    have hbz : Below W4.heap.size W4 w1 := ⟨hb1.os, hb1.tape, hb1.output, hb1.size, hb1.block⟩
    have hsz1 := hbz.size
    have hB1 : w1.heap[bk]? = some (.cells (cs.setIfInBounds 2 (.slice (some ⟨g1, 0, none⟩) (nL + 1) c1)) 38 (0, 0)) := (hbz.block bk hbk4).trans HB4.out
    exact ⟨ou, cu, rfl, hu, hbz, hsz1, by omega, hB1, own_grown HRR.out hbz, by rw [cell_of_row w1 bk 3 _ 38 (0, 0) hB1, Array.getElem?_setIfInBounds_ne (by decide)]; exact H5.out⟩)
  go_region_law (first
    | (refine step_append_lies _ rfl _ _ 29 rfl B 40 i1 (.slice none 0 0) 1 24 Tryz.underlying29 hi1 hy0 hy1 hy2 rfl (by decide) _ _ _ rfl (HR1.out.alloc _) ⟨w1.heap.size, 0, none⟩ 1 1 [.slice ou xs.length cu] rfl rfl (cell_1 _ _ _) (by intro u hu; simp at hu; subst hu; rfl) (by decide) (by unfold maxLen; omega) (by omega) (by simp; omega) _ rfl ?_
       intro g2 c2 w5 hown5 hgrow5 hat5 hlt5
       have hb5 : w5.heap[bk]? = some (.cells (cs.setIfInBounds 2 (.slice (some ⟨g1, 0, none⟩) (nL + 1) c1)) 38 (0, 0)) := by
         rw [hgrow5.block bk (by simp; omega) (fun e => own_ne HR1.out HB1.out (by decide) e.symm), Below.heap_alloc _ _ _ hbk1]; exact HB1.out
       have q52 : w5.cell? ⟨bk, 3, none⟩ = some (.slice o' nL c') := by rw [cell_of_row w5 bk 3 _ 38 (0, 0) hb5, Array.getElem?_setIfInBounds_ne (by decide)]; exact H5.out
       have z5 : w5.frozen? ⟨bk, 3, none⟩ = false := frozen_of_row w5 bk 3 _ 38 hb5
       have HG5 := Lib.hid (And.intro hown5 (And.intro hgrow5 hat5))
       clear hown5 hgrow5 hat5 hb5)
    | (go_simp
       refine (HC.out).mono ?_
       rintro e w1 ⟨ou, cu, rfl, hu, hbz, hsz1, hbk1, hB1, hR1, q51⟩
       have HB1 := Lib.hid hB1
       have HR1 := Lib.hid hR1
       have HU := Lib.hid (And.intro hu hbz)
       clear hu hbz hB1 hR1))
  all_goals
    go_wp2
    go_end0
    have hu := HU.out.1
    have hbz := HU.out.2
    rw [hsz4] at hu hbz
    rw [HW4.out] at hbz
    exact ⟨rfl, _, _, w3, w1, w5, g1, c1, g2, c2, _, HG3.out.2.1, hbz, HG5.out.2.1, HG3.out.1, HG3.out.2.2, hu, HG5.out.1, HG5.out.2.2, 0, rfl⟩
end Go.Proofs.YtlnlbahggbbaeaaGreat.BkI
end

section
/- The book of lists, twelfth part: the book, before one more list is kept and behind it. -/

namespace Go.Proofs.YtlnlbahggbbaeaaGreat.BkI
open Go.RowKit

/-- The book holds lists of runes, and their copies, and no others. -/
structure Booked (B bk : Nat) (w : World) (L L' : List (Value × List El)) : Prop where
  ex : ∃ (cs : Array Value) (R R' : Value), w.heap[bk]? = some (.cells cs 38 (0, 0)) ∧ cs.size = 20 ∧ cs[2]? = some R ∧ cs[3]? = some R' ∧ (∀ i, i < 20 → i ≠ 2 → i ≠ 3 → cs[i]? = some (.slice none 0 0)) ∧ Kept B w R L ∧ Kept B w R' L' ∧ (R'.ownBlock = none ∨ R'.ownBlock ≠ R.ownBlock)
  same : L.map (·.2) = L'.map (·.2)

theorem own_mono {w : World} {base base' e sz n : Nat} {v : Value} {xs : List Value} (h : w.ownsRow base e sz v n xs) (hb : base' ≤ base) : w.ownsRow base' e sz v n xs :=
  ⟨h.1, h.2.imp id fun ⟨g, cap, cur, h1, h2, h3⟩ => ⟨g, cap, cur, h1, Nat.le_trans hb h2, h3⟩⟩

theorem kept_snoc {B : Nat} {w : World} {R : Value} {L : List (Value × List El)} {v : Value} {xs : List El} (hrow : w.ownsRow B 40 1 R (L.length + 1) (L.map (·.1) ++ [v]))
    (heach : ∀ (i : Nat) (y : Value) (ys : List El), L[i]? = some (y, ys) → w.ownsRow B 3 1 y ys.length (flatE ys) ∧ ys.length ≤ 100000) (hv : w.ownsRow B 3 1 v xs.length (flatE xs)) (hx : xs.length ≤ 100000)
    (hap : ∀ (i j : Nat) (p q : Value × List El), i ≠ j → L[i]? = some p → L[j]? = some q → p.1.ownBlock = none ∨ p.1.ownBlock ≠ q.1.ownBlock) (hnew : ∀ (i : Nat) (p : Value × List El), L[i]? = some p → (p.1.ownBlock = none ∨ p.1.ownBlock ≠ v.ownBlock) ∧ (v.ownBlock = none ∨ v.ownBlock ≠ p.1.ownBlock))
    (hfew : L.length < 250) : Kept B w R (L ++ [(v, xs)]) := by
  have hlk : ∀ (i : Nat) (p : Value × List El), (L ++ [(v, xs)])[i]? = some p → (i < L.length ∧ L[i]? = some p) ∨ (i = L.length ∧ p = (v, xs)) := by
    intro i p hi
    by_cases h : i < L.length
    · rw [List.getElem?_append_left h] at hi
      exact .inl ⟨h, hi⟩
    · rw [List.getElem?_append_right (by omega)] at hi
      right
      rcases Nat.lt_or_ge (i - L.length) 1 with h9 | h9
      · have e : i - L.length = 0 := by omega
        rw [e] at hi
        simp at hi
        exact ⟨by omega, hi.symm⟩
      · rw [List.getElem?_eq_none (by simpa using h9)] at hi; cases hi
  refine ⟨by rw [List.length_append, List.map_append]; exact hrow, ?_, ?_, by rw [List.length_append]; simp; omega⟩
  · intro i y ys hi
    rcases hlk i _ hi with ⟨_, h⟩ | ⟨_, h⟩
    · exact heach i y ys h
    · cases h; exact ⟨hv, hx⟩
  · intro i j p q hij hp hq
    rcases hlk i p hp with ⟨_, h⟩ | ⟨hi, rfl⟩ <;> rcases hlk j q hq with ⟨_, h'⟩ | ⟨hj, rfl⟩
    · exact hap i j p q hij h h'
    · exact (hnew i p h).1
    · exact (hnew j q h').2
    · omega

theorem keep_any (B bk : Nat) (L L' : List (Value × List El)) (v : Value) (xs : List El) (w : World) (hB : B ≤ w.heap.size) (hBk : B ≤ bk) (h : Booked B bk w L L') (hv : w.ownsRow B 3 1 v xs.length (flatE xs)) (hx : xs.length ≤ 100000) (hfew : L.length < 250)
    (hnew : ∀ (i : Nat) (p : Value × List El), L[i]? = some p → (p.1.ownBlock = none ∨ p.1.ownBlock ≠ v.ownBlock) ∧ (v.ownBlock = none ∨ v.ownBlock ≠ p.1.ownBlock)) :
    Calls Tryz.prog 10 #[.pointer (some ⟨bk, 0, none⟩), v] w fun e w' => e = .returned (.tuple #[]) ∧ (∃ u, Booked B bk w' (L ++ [(v, xs)]) (L' ++ [(u, xs)])) ∧ Below B w w' ∧ ∀ (n : Nat) (y : Value) (ys : List Value), w.ownsRow B 3 1 y n ys → w'.ownsRow B 3 1 y n ys := by
  obtain ⟨⟨cs, R, R', hbk, hcs, h4, h5, hno, hK, hK', hne⟩, hsame⟩ := h
  have hLL : L'.length = L.length := by have := congrArg List.length hsame; simpa using this.symm
  refine (bookRunes_any B bk cs R R' L L' v xs w hB hK hK' hbk h4 h5 hv hx hfew hLL hne).mono ?_
  rintro e w' ⟨rfl, o1, o2, w3, w1, w5, g1, c1, g2, c2, u, s1, s2, s3, r1, a1, hu, r2, a2, m, rfl⟩
  have hbs := (Array.getElem?_eq_some_iff.1 hbk).1
  have hb3 : w3.heap[bk]? = some (.cells cs 38 (0, 0)) := by
    rw [s1.block bk (by simp; omega) (fun e => own_ne hK.row hbk (by decide) e.symm), Below.heap_alloc _ _ _ hbs]; exact hbk
  have z3 := s1.size
  have z1 := s2.size
  have z5 := s3.size
  simp at z3 z1 z5
  have hb4 := heap_setCell_same w3 bk 2 cs 38 (.slice (some ⟨g1, 0, none⟩) (L.length + 1) c1) hb3
  have hb1 := (s2.block bk (by omega)).trans hb4
  have hR3 : w3.ownsRow B 40 1 R' L'.length (L'.map (·.1)) := (hK'.row.alloc o1).kept s1 hne
  have hR1 : w1.ownsRow B 40 1 R' L'.length (L'.map (·.1)) := own_grown (own_setCell hR3 (own_ne hR3 hb3 (by decide))) (by simpa using s2)
  have hb5 : w5.heap[bk]? = some (.cells (cs.setIfInBounds 2 (.slice (some ⟨g1, 0, none⟩) (L.length + 1) c1)) 38 (0, 0)) := by
    rw [s3.block bk (by simp; omega) (fun e => own_ne hR1 hb1 (by decide) e.symm), Below.heap_alloc _ _ _ (by omega)]; exact hb1
  have hb6 := heap_setCell_same w5 bk 3 _ 38 (.slice (some ⟨g2, 0, none⟩) (L.length + 1) c2) hb5
  have far1 : ∀ {n : Nat} {y : Value} {ys : List Value}, w1.ownsRow B 3 1 y n ys → (w5.setCell ⟨bk, 3, none⟩ (.slice (some ⟨g2, 0, none⟩) (L.length + 1) c2)).ownsRow B 3 1 y n ys := fun hy => by
    have h5' := (hy.alloc o2).kept s3 (own_far hy hR1 (by decide))
    exact own_setCell h5' (own_ne h5' hb5 (by decide))
  have far : ∀ {n : Nat} {y : Value} {ys : List Value}, w.ownsRow B 3 1 y n ys → (w5.setCell ⟨bk, 3, none⟩ (.slice (some ⟨g2, 0, none⟩) (L.length + 1) c2)).ownsRow B 3 1 y n ys := fun hy => by
    have h3' := (hy.alloc o1).kept s1 (own_far hy hK.row (by decide))
    exact far1 (own_grown (own_setCell h3' (own_ne h3' hb3 (by decide))) (by simpa using s2))
  have hlt1 : g1 < w3.heap.size := (r1.lt g1 rfl).2
  have hB1 : B ≤ g1 := (r1.lt g1 rfl).1
  have hB2 : B ≤ g2 := (r2.lt g2 rfl).1
  have hg1R' : R'.ownBlock ≠ some g1 := by
    intro e
    rcases a1 with a1 | a1
    · rcases hne with hne | hne
      · rw [hne] at e; cases e
      · exact hne (e.trans a1.symm)
    · have := (hK'.row.lt g1 e).2
      simp at a1
      omega
  have r1' : (w5.setCell ⟨bk, 3, none⟩ (.slice (some ⟨g2, 0, none⟩) (L.length + 1) c2)).ownsRow B 40 1 (.slice (some ⟨g1, 0, none⟩) (L.length + 1) c1) (L.length + 1) (L.map (·.1) ++ [v]) := by
    have q1 := own_grown (own_setCell (bk := bk) (j := 2) (u := .slice (some ⟨g1, 0, none⟩) (L.length + 1) c1) r1 (own_ne r1 hb3 (by decide))) (by simpa using s2)
    have q5 := (q1.alloc o2).kept s3 (.inr (fun e => hg1R' e.symm))
    exact own_setCell q5 (own_ne q5 hb5 (by decide))
  have r2' : (w5.setCell ⟨bk, 3, none⟩ (.slice (some ⟨g2, 0, none⟩) (L.length + 1) c2)).ownsRow B 40 1 (.slice (some ⟨g2, 0, none⟩) (L.length + 1) c2) (L'.length + 1) (L'.map (·.1) ++ [u]) := by
    rw [hLL]; exact own_setCell r2 (own_ne r2 hb5 (by decide))
  have hu' : w1.ownsRow B 3 1 u xs.length (flatE xs) := own_mono hu (by omega)
  refine ⟨rfl, ⟨u, ⟨(cs.setIfInBounds 2 (.slice (some ⟨g1, 0, none⟩) (L.length + 1) c1)).setIfInBounds 3 (.slice (some ⟨g2, 0, none⟩) (L.length + 1) c2), .slice (some ⟨g1, 0, none⟩) (L.length + 1) c1, .slice (some ⟨g2, 0, none⟩) (L.length + 1) c2, hb6, ?_, ?_, ?_, ?_, ?_, ?_, ?_⟩, by simp [hsame]⟩, ?_, fun n y ys hy => far hy⟩
  · simp [hcs]
  · exact Array.getElem?_setIfInBounds_ne (by decide) |>.trans (by simp [hcs])
  · simp [hcs]
  · intro i hi h4' h5'
    rw [Array.getElem?_setIfInBounds_ne (by omega), Array.getElem?_setIfInBounds_ne (by omega)]
    exact hno i hi h4' h5'
  · exact kept_snoc r1' (fun i y ys hi => ⟨far (hK.each i y ys hi).1, (hK.each i y ys hi).2⟩) (far hv) hx hK.apart hnew hfew
  · refine kept_snoc r2' (fun i y ys hi => ⟨far (hK'.each i y ys hi).1, (hK'.each i y ys hi).2⟩) (far1 hu') hx hK'.apart (fun i p hi => ?_) (by omega)
    have hp := hK'.each i p.1 p.2 hi
    constructor
    · cases hx : p.1.ownBlock with
      | none => exact .inl rfl
      | some b =>
        refine .inr fun e => ?_
        have b1 := (hp.1.lt b hx).2
        have b2 := (hu.lt b e.symm).1
        omega
    · cases hx : u.ownBlock with
      | none => exact .inl rfl
      | some b =>
        refine .inr fun e => ?_
        have b1 := (hp.1.lt b e.symm).2
        have b2 := (hu.lt b hx).1
        omega
  · refine .inr fun e => ?_
    have e' : g2 = g1 := Option.some.inj e
    rcases a2 with a2 | a2
    · exact hg1R' (by rw [a2, e'])
    · simp at a2; omega
  · refine ⟨s3.os.trans (s2.os.trans s1.os), s3.tape.trans (s2.tape.trans s1.tape), s3.output.trans (s2.output.trans s1.output), by show w.heap.size ≤ (w5.setCell _ _).heap.size; simp; omega, fun k hk => ?_⟩
    show (w5.setCell _ _).heap[k]? = _
    rw [heap_setCell_other _ _ _ _ (by show k ≠ bk; omega), s3.block k (by simp; omega) (fun e => by have := (hR1.lt k e.symm).1; omega), Below.heap_alloc _ _ _ (by omega), s2.block k (by omega), heap_setCell_other _ _ _ _ (by show k ≠ bk; omega), s1.block k (by simp; omega) (fun e => by have := (hK.row.lt k e.symm).1; omega), Below.heap_alloc _ _ _ (by omega)]
end Go.Proofs.YtlnlbahggbbaeaaGreat.BkI
end
