/- Vectors: the document's own key. -/
import Derived.Test.YtbdnonphkobkoaaGreatZd
import Derived.Test.YtbdnonphkobkoaaGreatGg
import Derived.Laws.AppendOwnNone
namespace Go.Proofs.YtbdnonphkobkoaaGreat.Vec
open Go.RowKit Go.Lib

/-- An append onto a row of the call's own; what is appended may be nil. -/
theorem wpList_append_src {P : Program} {w : World} {ops : Array Oper} {rest : List Oper} {o : Oper} {a : Act} {Q : Exit → Act → World → Prop} (hgd : o.guard = none) (s x : Operand) (t : TypeId)
    (ho : o.op = .call { callee := .builtin .append, args := #[s, x], argTypes := #[t, t] })
    (base : Nat) (e : TypeId) (i : TypeInfo) (z : Value) (size bytes : Nat) (ht : P.underlying t = some (.slice e)) (hi : P.info? e = some i) (hz : i.zero = some z)
    (hsize : i.size = size) (hby : i.bytes = bytes) (hzs : z.cells.size = size) (hsz : 0 < size)
    (v : Value) (n : Nat) (xs : List Value) (hs : a.eval s = v) (hown : w.ownsRow base e size v n xs)
    (A : Option Addr) (m c : Nat) (news : List Value) (hx : a.eval x = .slice A m c) (hl : news.length = m * size)
    (hsrc : (A = none ∧ m = 0 ∧ c = 0) ∨ ∃ ad, A = some ad ∧ ∀ j u, news[j]? = some u → w.cell? (ad.add j) = some u) (h1 : ∀ u ∈ news, u.oneCell' = true)
    (h63 : n + m ≤ maxLen) (hbytes : (n + m) * bytes ≤ 140737488355328) (hbase : base ≤ w.heap.size)
    (h : ∀ v' w', w'.ownsRow base e size v' (n + m) (xs ++ news) → w.grownBy w' v.ownBlock → wpList P ops Q rest (a.put o.dst v') w') : wpList P ops Q (o :: rest) a w := by
  rcases hsrc with ⟨rfl, rfl, rfl⟩ | ⟨ad, rfl, hnews⟩
  · have hn : news = [] := List.eq_nil_of_length_eq_zero (by omega)
    subst hn
    exact wpList_append_own_none hgd s x t ho base e i size ht hi v n xs hs hown hx (h v w (by simpa using hown) (World.grownBy.refl w _))
  · exact wpList_append_own w hgd s x t ho base e i z size bytes ht hi hz hsize hby hzs hsz v n xs hs hown ad m c news hx hl hnews h1 h63 hbytes hbase fun v' w' h2 h3 _ => h v' w' h2 h3
theorem texts_src {w : World} {on : Option Addr} {nn cn : Nat} {ns : List ByteArray} (hn : ns.length = nn) (hc : on = none → cn = 0) (h : Txt.SeesT w on ns) :
    (on = none ∧ nn = 0 ∧ cn = 0) ∨ ∃ ad, on = some ad ∧ ∀ j u, (ns.map Value.string)[j]? = some u → w.cell? (ad.add j) = some u := by
  rcases h with rfl | ⟨b, off, rfl, _, hcell⟩
  · cases on with
    | none => exact .inl ⟨rfl, by rw [← hn]; rfl, hc rfl⟩
    | some ad => exact .inr ⟨ad, rfl, fun j u hu => by simp at hu⟩
  · exact .inr ⟨_, rfl, Txt.sees_src hcell⟩
theorem texts_own {w : World} {B : Nat} {v : Value} {n : Nat} {ns : List ByteArray} (hn : ns.length = n) (h : w.ownsRow B 9 1 v n (ns.map .string)) : ∃ o c, v = .slice o n c ∧ Txt.SeesT w o ns := by
  rcases h.2 with ⟨rfl, h0⟩ | ⟨g, cap, cur, rfl, hg, hh, hn2, hcap, hsz, htake⟩
  · have h0' : ns = [] := List.eq_nil_of_length_eq_zero (by rw [hn, h0])
    subst h0'
    exact ⟨none, 0, by rw [h0], .inl rfl⟩
  · refine ⟨_, cap, rfl, .inr ⟨g, 0, rfl, (Array.getElem?_eq_some_iff.1 hh).1, fun j x hx => ?_⟩⟩
    have hy : (ns.map Value.string)[j]? = some (.string x) := by rw [List.getElem?_map, hx]; rfl
    have := h.cells (g := g) rfl j _ hy
    rw [← this]; simp [Addr.add]; split <;> simp_all
theorem out_cons (a : ByteArray) (ns : List ByteArray) (l : Labs) : l.filter (outB (a :: ns)) = (l.filter (outB ns)).filter (outB [a]) := by
  rw [List.filter_filter]
  congr 1
  funext x
  unfold outB
  rw [Bool.eq_iff_iff]
  simp only [Bool.and_eq_true, Bool.not_eq_true', ← Bool.not_eq_true, containsS_iff, List.mem_cons, List.not_mem_nil, or_false]
  exact ⟨fun h => ⟨fun e => h (.inl e), fun e => h (.inr e)⟩, fun h e => e.elim h.1 h.2⟩

set_option maxHeartbeats 4000000 in
set_option maxRecDepth 100000 in
theorem rkey_any (mode : Int) (on o : Option Addr) (nn cn n c : Nat) (ns : List ByteArray) (l : Labs) (w : World) (hnn : ns.length = nn) (hn : l.length = n) (hmn : nn ≤ 100000) (hm : n ≤ 100000) (hc : on = none → cn = 0) (hS : Go.Proofs.YtbdnonphkobkoaaGreat.SeesO w o l) (hN : SeesN w on ns) :
    Calls Tryz.prog 23 #[.int .i64 mode, .slice on nn cn, .slice o n c] w (KeyIs w (keyR mode ns l)) := by
  obtain ⟨i0, hi, hz0, hz1, hz2⟩ := info_parts Txt.infoT
  have HT := Lib.hid (Txt.SeesT.of hN)
  have HS := Lib.hid hS
  have HN := Lib.hid hn
  have HNN := Lib.hid hnn
  have HPk := Lib.hid (fun (W : World) (hb : Below w.heap.size w W) (os : Option Addr) (cs ms : Nat) (zs : List ByteArray) (inn : Bool) (hz : zs.length = ms) (hms : ms ≤ 1000000) (hZ : Txt.SeesT W os zs) => (show Calls Tryz.prog 54 #[.slice o n c, .slice os ms cs, .bool inn] W fun e w' => (∃ v, e = .returned v ∧ w'.ownsRow w.heap.size 62 2 v (l.filter (pickP zs inn)).length (flatL (l.filter (pickP zs inn)))) ∧ Below w.heap.size w w' from by
    subst hz hn
    refine (rpick_any o os c cs l zs inn W (by omega) hms (hS.below hb) hZ).mono ?_
    rintro e w' ⟨⟨v, rfl, ho⟩, hb2⟩
    exact ⟨⟨v, rfl, own_low ho hb.size⟩, hb.trans (hb2.mono hb.size)⟩))
  clear hS hN
  by_cases h1 : mode = 1
  · subst h1
    have e1 : keyR 1 ns l = l.filter (pickP ns true) := by unfold keyR; rw [if_pos rfl, pick_in]
    have H := Lib.hid (HPk.out w (Below.refl _ _) on cn nn ns true hnn (by omega) HT.out)
    rw [← e1] at H
    clear e1 HPk
    go_enter Tryz.func23, Tryz.ntmps23
    go_wp2_with fail
    refine H.out.mono ?_
    rintro e w1 ⟨⟨v, rfl, ho⟩, hb⟩
    have HO := Lib.hid ho
    clear ho
    go_wp2
    go_ret
    exact ⟨⟨_, rfl, HO.out⟩, hb⟩
  by_cases h2 : mode = 2
  · subst h2
    have e1 : keyR 2 ns l = l.filter (pickP (metricT :: ns) false) := by unfold keyR; rw [if_neg (by decide), if_pos rfl, pick_out]; exact (out_cons metricT ns l).symm
    have H := Lib.hid (fun W hb os cs hZ => HPk.out W hb os cs (1 + nn) (metricT :: ns) false (by rw [List.length_cons, hnn, Nat.add_comm]) (by omega) hZ)
    rw [← e1] at H
    have hown0 := World.ownsRow_lit (base := w.heap.size) (e := 9) (size := 1) w #[.string metricT] 1 (Nat.le_refl _) (by unfold maxLen; omega) rfl
    have hbA : Below w.heap.size w (w.alloc (.cells #[.string metricT] 9)) := (Below.refl _ _).alloc (Nat.le_refl _) _
    have hsrc := texts_src hnn hc (HT.out.below hbA)
    clear e1 HPk
    go_enter Tryz.func23, Tryz.ntmps23
    go_wp2_with (at_builtin; refine wpList_append_src rfl _ _ 23 rfl w.heap.size 9 i0 (.string ⟨#[]⟩) 1 16 Tryz.underlying23 hi hz0 hz1 hz2 rfl (by decide) (.slice (some ⟨w.heap.size, 0, none⟩) 1 1) 1 [.string metricT] rfl hown0 on nn cn (ns.map .string) rfl (by rw [List.length_map, hnn, Nat.mul_one]) hsrc (Txt.one_int ns) (by unfold maxLen; omega) (by omega) (by simp) ?_; intro v1 w1 hown1 hg1)
    have hbB : Below w.heap.size w w1 := Below.grown hbA hg1 hbA.size (fun j hj => by have := Option.some.inj hj; simp at this; omega)
    obtain ⟨os, cs, rfl, hZ⟩ := texts_own (n := 1 + nn) (ns := metricT :: ns) (by rw [List.length_cons, hnn, Nat.add_comm]) hown1
    have H2 := Lib.hid (H.out w1 hbB os cs hZ)
    clear hown1 hg1 hZ hown0 hsrc H
    go_wp2_with fail
    refine H2.out.mono ?_
    rintro e w2 ⟨⟨v, rfl, ho⟩, hb⟩
    have HO := Lib.hid ho
    clear ho
    go_wp2
    go_ret
    exact ⟨⟨_, rfl, HO.out⟩, hb⟩
  have e1 : keyR mode ns l = l.filter (pickP [metricT] false) := by unfold keyR; rw [if_neg h1, if_neg h2, pick_out]
  have hbA : Below w.heap.size w (w.alloc (.cells #[.string metricT] 9)) := (Below.refl _ _).alloc (Nat.le_refl _) _
  have H := Lib.hid (HPk.out _ hbA (some ⟨w.heap.size, 0, none⟩) 1 1 [metricT] false rfl (by decide) (Txt.SeesT.of (metric_list w)))
  rw [← e1] at H
  clear e1 HPk
  go_enter Tryz.func23, Tryz.ntmps23
  go_wp2_with fail
  refine H.out.mono ?_
  rintro e w2 ⟨⟨v, rfl, ho⟩, hb⟩
  have HO := Lib.hid ho
  clear ho
  go_wp2
  go_ret
  exact ⟨⟨_, rfl, HO.out⟩, hb⟩
end Go.Proofs.YtbdnonphkobkoaaGreat.Vec
