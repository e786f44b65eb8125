/- A list put behind another one whose type has a name of its own. -/
import Derived.Test.YtldlfmeppcdbbaaGk
import Derived.Laws.AppendOwnNone
namespace Go.Proofs.Ytldlfmeppcdbbaa.Vec
open Go.RowKit

theorem append_two {P : Program} {w : World} (t t2 ty e : TypeId) (args : Array Value) (ht : P.underlying t = some (.slice e)) (ht2 : P.underlying t2 = some (.slice e)) :
    (Builtin.append_ #[t, t2] ty args).run P w = (Builtin.append_ #[t, t] ty args).run P w := by
  have hu : ∀ W, (underlying t).run P W = .ok (.slice e) W := fun W => by simp [underlying, ht]
  have hu2 : ∀ W, (underlying t2).run P W = .ok (.slice e) W := fun W => by simp [underlying, ht2]
  unfold Builtin.append_
  rcases h0 : args[0]? with _ | v
  · rfl
  rcases h1 : args[1]? with _ | x
  · rfl
  simp only [List.getElem?_toArray, List.getElem?_cons_zero, List.getElem?_cons_succ]
  simp only [Sem.run_bind, hu, Result.andThen_ok]
  cases v <;> first | rfl | simp only [Sem.run_bind, hu, hu2, Result.andThen_ok]
theorem wpList_append_own2 {P : Program} (w : World) {ops : Array Oper} {rest : List Oper} {o : Oper} {a : Act} {Q : Exit → Act → World → Prop} (hgd : o.guard = none) (s x : Operand) (t t2 : TypeId)
    (ho : o.op = .call { callee := .builtin .append, args := #[s, x], argTypes := #[t, t2] })
    (base : Nat) (e : TypeId) (i : TypeInfo) (z : Value) (size bytes : Nat) (ht : P.underlying t = some (.slice e)) (ht2 : P.underlying t2 = some (.slice e)) (hi : P.info? e = some i) (hz : i.zero = some z)
    (hsize : i.size = size) (hby : i.bytes = bytes) (hzs : z.cells.size = size) (hsz : 0 < size)
    (v : Value) (n : Nat) (xs : List Value) (hs : a.eval s = v) (hown : w.ownsRow base e size v n xs)
    (ad : Addr) (m c : Nat) (news : List Value) (hx : a.eval x = .slice (some ad) m c) (hl : news.length = m * size) (hnews : ∀ j u, news[j]? = some u → w.cell? (ad.add j) = some u) (h1 : ∀ u ∈ news, u.oneCell' = true)
    (h63 : n + m ≤ maxLen) (hbytes : (n + m) * bytes ≤ 140737488355328) (hbase : base ≤ w.heap.size)
    (h : ∀ v' w', w'.ownsRow base e size v' (n + m) (xs ++ news) → w.grownBy w' v.ownBlock → (v' = .slice none 0 0 ↔ v = .slice none 0 0 ∧ m = 0) → wpList P ops Q rest (a.put o.dst v') w') : wpList P ops Q (o :: rest) a w := by
  refine wpList_plain hgd fun K hK => ?_
  obtain ⟨v', w', hr, h2, h3, h4⟩ := run_append_own (P := P) w base t o.type e i z size bytes ht hi hz hsize hby hzs hsz v n xs hown ad m c news hl hnews h1 h63 hbytes hbase
  rw [← append_two t t2 o.type e _ ht ht2] at hr
  unfold Oper.wp execOp
  simp only [ho, resolve, invoke, builtin, Sem.run_bind, Sem.run_pure, Result.andThen_ok, List.map_toArray, List.map_cons, List.map_nil, hs, hx, hr]
  exact hK _ _ (h v' w' h2 h3 h4)
theorem wpList_append_own_none2 {P : Program} {w : World} {ops : Array Oper} {rest : List Oper} {o : Oper} {a : Act} {Q : Exit → Act → World → Prop} (hgd : o.guard = none) (s x : Operand) (t t2 : TypeId)
    (ho : o.op = .call { callee := .builtin .append, args := #[s, x], argTypes := #[t, t2] })
    (base : Nat) (e : TypeId) (i : TypeInfo) (size : Nat) (ht : P.underlying t = some (.slice e)) (ht2 : P.underlying t2 = some (.slice e)) (hi : P.info? e = some i)
    (v : Value) (n : Nat) (xs : List Value) (hs : a.eval s = v) (hown : w.ownsRow base e size v n xs) (hx : a.eval x = .slice none 0 0)
    (h : wpList P ops Q rest (a.put o.dst v) w) : wpList P ops Q (o :: rest) a w := by
  refine wpList_plain hgd fun K hK => ?_
  have hrun := run_append_owned_none (P := P) (w := w) base t o.type e i size ht hi v n xs hown
  rw [← append_two t t2 o.type e _ ht ht2] at hrun
  unfold Oper.wp
  simp [execOp, ho, resolve, invoke, builtin, hs, hx, hrun, Result.andThen]
  exact hK _ _ h
/-- append(l, m...), both of the call's own; m's type another one. -/
theorem wpList_append_G2 {α : Type} {E : Elem α} {P : Program} (w : World) {ops : Array Oper} {rest : List Oper} {o : Oper} {a : Act} {Q : Exit → Act → World → Prop} (hgd : o.guard = none) (s x : Operand) (t t2 : TypeId)
    (ho : o.op = .call { callee := .builtin .append, args := #[s, x], argTypes := #[t, t2] })
    (base : Nat) (e : TypeId) (i : TypeInfo) (z : Value) (size bytes : Nat) (ht : P.underlying t = some (.slice e)) (ht2 : P.underlying t2 = some (.slice e)) (hi : P.info? e = some i) (hz : i.zero = some z)
    (hsize : i.size = size) (hby : i.bytes = bytes) (hzs : z.cells.size = size) (hsz : 0 < size) {BE : Nat} (F : Firm E size e BE) (hBE : BE ≤ base)
    (v : Value) (us : List (List Value)) (xs : List α) (hs : a.eval s = v) (hown : OwnG E size e w base v us xs)
    (v2 : Value) (base2 : Nat) (us2 : List (List Value)) (ys : List α) (hx : a.eval x = v2) (h2 : OwnG E size e w base2 v2 us2 ys)
    (h63 : xs.length + ys.length ≤ maxLen) (hbytes : (xs.length + ys.length) * bytes ≤ 140737488355328) (hbase : base ≤ w.heap.size)
    (h : ∀ v' w', OwnG E size e w' base v' (us ++ us2) (xs ++ ys) → w.grownBy w' v.ownBlock → wpList P ops Q rest (a.put o.dst v') w') : wpList P ops Q (o :: rest) a w := by
  have hl := hown.len
  have hl2 := h2.len
  have h9 := h2.own
  rcases h9.2 with ⟨rfl, h0⟩ | ⟨g, cap, cur, rfl, _, _, _, _, _, _⟩
  · obtain rfl : us2 = [] := List.eq_nil_of_length_eq_zero h0
    obtain rfl : ys = [] := List.eq_nil_of_length_eq_zero (by rw [← hl2]; rfl)
    refine wpList_append_own_none2 hgd s x t t2 ho base e i size ht ht2 hi v us.length us.flatten hs hown.own hx (h v w ?_ (grown_refl _ _))
    rw [List.append_nil, List.append_nil]; exact hown
  · refine wpList_append_own2 w hgd s x t t2 ho base e i z size bytes ht ht2 hi hz hsize hby hzs hsz v us.length us.flatten hs hown.own ⟨g, 0, none⟩ us2.length cap us2.flatten hx (flat_lenG (h2.wide F)) (h2.at_all (Below.refl _ _)) (fun u hu => by obtain ⟨q, hq, hu⟩ := List.mem_flatten.1 hu; exact h2.cellsE F q hq u hu) (by omega) (by rw [hl, hl2]; exact hbytes) hbase (fun v' w' h3 h4 _ => h v' w' ?_ h4)
    exact hown.app F hBE hl2 h2.one h3 h4
end Go.Proofs.Ytldlfmeppcdbbaa.Vec
