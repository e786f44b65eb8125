/- Patterns: parts in memory; how often an atom may stand. -/
import Derived.Test.YtfpdhmecomgbdaaPb
import Derived.Test.YtfpdhmecomgbdaaBa0
import Derived.Laws.OwnMore
namespace Go.Proofs.Ytfpdhmecomgbdaa
open Go.RowKit

/-- A slice that reads as these values, of one cell each. -/
def SeesV (w : World) (P : Nat → Prop) (o : Option Addr) (vs : List Value) : Prop := vs = [] ∨ ∃ b off, o = some ⟨b, off, none⟩ ∧ P b ∧ b < w.heap.size ∧ ∀ (j : Nat) v, vs[j]? = some v → w.cell? ⟨b, off + j, none⟩ = some v
/-- A slice that reads as these items. -/
def SeesI (w : World) (P : Nat → Prop) (o : Option Addr) (xs : List (Int × Int)) : Prop := xs = [] ∨ ∃ b off, o = some ⟨b, off, none⟩ ∧ P b ∧ b < w.heap.size ∧ ∀ (j : Nat) x, xs[j]? = some x → w.cell? ⟨b, off + j * 2, none⟩ = some (.int .i32 x.1) ∧ w.cell? ⟨b, off + j * 2 + 1, none⟩ = some (.int .i32 x.2)
/-- A value that is a part, in blocks of which P holds. -/
inductive Tree (w : World) (P : Nat → Prop) : Value → Pt → Prop
  | only (r : Int) : Tree w P (.iface 80 (.int .i32 r)) (.only r)
  | dot : Tree w P (.iface 87 (.agg #[])) .dot
  | cls (neg : Bool) (o : Option Addr) (n cap : Nat) (xs : List (Int × Int)) (hn : xs.length = n) (hm : n ≤ 2000000) (h : SeesI w P o xs) : Tree w P (.iface 84 (.agg #[.bool neg, .slice o n cap])) (.cls neg xs)
  | times (v : Value) (x : Pt) (a b : Bool) (h : Tree w P v x) : Tree w P (.iface 69 (.agg #[v, .bool a, .bool b])) (.times x a b)
  | choice (o : Option Addr) (n cap : Nat) (vs : List Value) (l : List Pt) (hn : vs.length = n) (hl : l.length = n) (hm : n ≤ 2000000) (h : SeesV w P o vs) (ht : ∀ (j : Nat) v x, vs[j]? = some v → l[j]? = some x → Tree w P v x) : Tree w P (.iface 62 (.slice o n cap)) (.choice l)
  | chain (o : Option Addr) (n cap : Nat) (vs : List Value) (l : List Pt) (hn : vs.length = n) (hl : l.length = n) (hm : n ≤ 2000000) (h : SeesV w P o vs) (ht : ∀ (j : Nat) v x, vs[j]? = some v → l[j]? = some x → Tree w P v x) : Tree w P (.iface 65 (.slice o n cap)) (.chain l)

theorem lt_keep {w w' : World} {b : Nat} (hl : b < w.heap.size) (h : w'.heap[b]? = w.heap[b]?) : b < w'.heap.size := (Array.getElem?_eq_some_iff.1 (h.trans (Array.getElem?_eq_getElem hl))).1
theorem SeesV.keep {w w' : World} {P Q : Nat → Prop} {o : Option Addr} {vs : List Value} (h : SeesV w P o vs) (hk : ∀ b, P b → b < w.heap.size → w'.heap[b]? = w.heap[b]? ∧ Q b) : SeesV w' Q o vs :=
  h.imp id fun ⟨b, off, e, hp, hl, hs⟩ => ⟨b, off, e, (hk b hp hl).2, lt_keep hl (hk b hp hl).1, fun j v hv => (World.cell?_of_block (a := ⟨b, off + j, none⟩) (hk b hp hl).1).trans (hs j v hv)⟩
theorem SeesI.keep {w w' : World} {P Q : Nat → Prop} {o : Option Addr} {xs : List (Int × Int)} (h : SeesI w P o xs) (hk : ∀ b, P b → b < w.heap.size → w'.heap[b]? = w.heap[b]? ∧ Q b) : SeesI w' Q o xs :=
  h.imp id fun ⟨b, off, e, hp, hl, hs⟩ => ⟨b, off, e, (hk b hp hl).2, lt_keep hl (hk b hp hl).1, fun j x hx => ⟨(World.cell?_of_block (a := ⟨b, off + j * 2, none⟩) (hk b hp hl).1).trans (hs j x hx).1, (World.cell?_of_block (a := ⟨b, off + j * 2 + 1, none⟩) (hk b hp hl).1).trans (hs j x hx).2⟩⟩
theorem Tree.keep {w w' : World} {P Q : Nat → Prop} {v : Value} {x : Pt} (h : Tree w P v x) (hk : ∀ b, P b → b < w.heap.size → w'.heap[b]? = w.heap[b]? ∧ Q b) : Tree w' Q v x := by
  induction h with
  | only r => exact .only r
  | dot => exact .dot
  | cls neg o n cap xs hn hm h => exact .cls neg o n cap xs hn hm (h.keep hk)
  | times v x a b _ ih => exact .times v x a b ih
  | choice o n cap vs l hn hl hm h _ ih => exact .choice o n cap vs l hn hl hm (h.keep hk) ih
  | chain o n cap vs l hn hl hm h _ ih => exact .chain o n cap vs l hn hl hm (h.keep hk) ih
/-- What is owned from B on is kept where only block bd, below B, is written. -/
theorem Tree.grown {w w' : World} {P : Nat → Prop} {v : Value} {x : Pt} {bd : Nat} (h : Tree w P v x) (hg : w.grownBy w' (some bd)) (hP : ∀ b, P b → b ≠ bd) : Tree w' P v x :=
  h.keep fun b hp hl => ⟨hg.block b hl (by simpa using hP b hp), hp⟩

theorem Tree.iface {w : World} {P : Nat → Prop} {v : Value} {x : Pt} (h : Tree w P v x) : ∃ t u, v = .iface t u := by
  cases h <;> exact ⟨_, _, rfl⟩

set_option maxHeartbeats 2000000 in
set_option maxRecDepth 100000 in
theorem times_any (bd : Nat) (l : List Sg) (v : Value) (x : Pt) (P : Nat → Prop) (w : World) (h : Rd w bd l) (ht : Tree w P v x) (hP : ∀ b, P b → b ≠ bd) :
    Calls Try.prog 36 #[.pointer (some ⟨bd, 0, none⟩), v] w fun e w' => (∃ u, e = .returned u ∧ Tree w' P u (timesF x l)) ∧ Rd w' bd (timesR l) ∧ w.grownBy w' (some bd) := by
  obtain ⟨t, u, rfl⟩ := ht.iface
  have HR := Lib.hid h
  have HT := Lib.hid ht
  have HP := Lib.hid hP
  clear h ht hP
  cases h1 : atB l 42 with
  | true =>
    have HF := Lib.hid (show timesF x l = .times x true true ∧ timesR l = l.tail by unfold timesF timesR; rw [h1]; exact ⟨rfl, rfl⟩)
    have H1 := Lib.hid h1
    clear h1
    go_enter Try.func36, Try.ntmps36
    go_wp2_with fail
    refine (take_yes bd l 42 w HR.out H1.out).mono ?_
    rintro e w1 ⟨rfl, hr, hg⟩
    have HR1 := Lib.hid hr
    have HG1 := Lib.hid hg
    clear hr hg
    go_wp2
    go_ret
    rw [HF.out.1, HF.out.2]
    exact ⟨⟨_, rfl, .times _ x true true (HT.out.grown HG1.out HP.out)⟩, HR1.out, HG1.out⟩
  | false =>
    cases h2 : atB l 43 with
    | true =>
      have HF := Lib.hid (show timesF x l = .times x false true ∧ timesR l = l.tail by unfold timesF timesR; rw [h1, h2]; exact ⟨rfl, rfl⟩)
      have H1 := Lib.hid h1
      have H2 := Lib.hid h2
      clear h1 h2
      go_enter Try.func36, Try.ntmps36
      go_wp2_with fail
      refine (take_no bd l 42 w HR.out H1.out).mono ?_
      rintro e w1 ⟨rfl, rfl⟩
      go_wp2_with fail
      refine (take_yes bd l 43 w HR.out H2.out).mono ?_
      rintro e w1 ⟨rfl, hr, hg⟩
      have HR1 := Lib.hid hr
      have HG1 := Lib.hid hg
      clear hr hg
      go_wp2
      go_ret
      rw [HF.out.1, HF.out.2]
      exact ⟨⟨_, rfl, .times _ x false true (HT.out.grown HG1.out HP.out)⟩, HR1.out, HG1.out⟩
    | false =>
      cases h3 : atB l 63 with
      | true =>
        have HF := Lib.hid (show timesF x l = .times x true false ∧ timesR l = l.tail by unfold timesF timesR; rw [h1, h2, h3]; exact ⟨rfl, rfl⟩)
        have H1 := Lib.hid h1
        have H2 := Lib.hid h2
        have H3 := Lib.hid h3
        clear h1 h2 h3
        go_enter Try.func36, Try.ntmps36
        go_wp2_with fail
        refine (take_no bd l 42 w HR.out H1.out).mono ?_
        rintro e w1 ⟨rfl, rfl⟩
        go_wp2_with fail
        refine (take_no bd l 43 w HR.out H2.out).mono ?_
        rintro e w1 ⟨rfl, rfl⟩
        go_wp2_with fail
        refine (take_yes bd l 63 w HR.out H3.out).mono ?_
        rintro e w1 ⟨rfl, hr, hg⟩
        have HR1 := Lib.hid hr
        have HG1 := Lib.hid hg
        clear hr hg
        go_wp2
        go_ret
        rw [HF.out.1, HF.out.2]
        exact ⟨⟨_, rfl, .times _ x true false (HT.out.grown HG1.out HP.out)⟩, HR1.out, HG1.out⟩
      | false =>
        have HF := Lib.hid (show timesF x l = x ∧ timesR l = l by unfold timesF timesR; rw [h1, h2, h3]; exact ⟨rfl, rfl⟩)
        have H1 := Lib.hid h1
        have H2 := Lib.hid h2
        have H3 := Lib.hid h3
        clear h1 h2 h3
        go_enter Try.func36, Try.ntmps36
        go_wp2_with fail
        refine (take_no bd l 42 w HR.out H1.out).mono ?_
        rintro e w1 ⟨rfl, rfl⟩
        go_wp2_with fail
        refine (take_no bd l 43 w HR.out H2.out).mono ?_
        rintro e w1 ⟨rfl, rfl⟩
        go_wp2_with fail
        refine (take_no bd l 63 w HR.out H3.out).mono ?_
        rintro e w1 ⟨rfl, rfl⟩
        go_wp2
        go_ret
        rw [HF.out.1, HF.out.2]
        exact ⟨⟨_, rfl, HT.out⟩, HR.out, grown_refl _ _⟩
end Go.Proofs.Ytfpdhmecomgbdaa
