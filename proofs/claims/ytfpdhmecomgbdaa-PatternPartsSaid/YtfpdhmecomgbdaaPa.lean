/- Patterns: the signs that are not read yet. -/
import Derived.Test.YtfpdhmecomgbdaaW0
import Derived.Test.YtfpdhmecomgbdaaQa
import Derived.Laws.StructEq
import Derived.Deep.RegionWith
import Derived.Deep.RegionHeld3
import Derived.Deep.QuietTactic
import Derived.BigQuiet
import Derived.Deep.DeepMust
import Derived.OneCell
namespace Go.Proofs.Ytfpdhmecomgbdaa
open Go.RowKit

/-- Cells that read as these signs. -/
structure SigAt (w : World) (b off : Nat) (l : List Sg) : Prop where
  low : b < w.heap.size
  at0 : ∀ (j : Nat) (x : Sg), l[j]? = some x → w.cell? ⟨b, off + j * 2, none⟩ = some (.int .i32 x.1)
  at1 : ∀ (j : Nat) (x : Sg), l[j]? = some x → w.cell? ⟨b, off + j * 2 + 1, none⟩ = some (.bool x.2)
theorem SigAt.kept {w w' : World} {b off : Nat} {l : List Sg} {bd : Nat} (h : SigAt w b off l) (hg : w.grownBy w' (some bd)) (hb : b ≠ bd) : SigAt w' b off l :=
  ⟨Nat.lt_of_lt_of_le h.low hg.size, fun j x hx => (World.cell?_of_block (a := ⟨b, off + j * 2, none⟩) (hg.block b h.low (by simpa using hb))).trans (h.at0 j x hx), fun j x hx => (World.cell?_of_block (a := ⟨b, off + j * 2 + 1, none⟩) (hg.block b h.low (by simpa using hb))).trans (h.at1 j x hx)⟩
theorem SigAt.tail {w : World} {b off : Nat} {s : Sg} {l : List Sg} (h : SigAt w b off (s :: l)) : SigAt w b (off + 2) l :=
  ⟨h.low, fun j x hx => by have := h.at0 (j + 1) x (by simpa using hx); rwa [show off + (j + 1) * 2 = off + 2 + j * 2 by omega] at this, fun j x hx => by have := h.at1 (j + 1) x (by simpa using hx); rwa [show off + (j + 1) * 2 + 1 = off + 2 + j * 2 + 1 by omega] at this⟩
/-- A rune that a text can have. -/
def okR (r : Int) : Prop := (0 ≤ r ∧ r < 55296) ∨ (57343 < r ∧ r ≤ 1114111)
/-- A slice that reads as these signs, beside block bd. -/
def SigS (w : World) (bd : Nat) (v : Value) (l : List Sg) : Prop := ∃ o cap, v = .slice o l.length cap ∧ l.length ≤ cap ∧ (l.length ≤ 1000000 ∧ ∀ s ∈ l, okR s.1) ∧ (l = [] ∨ ∃ b off, o = some ⟨b, off, none⟩ ∧ b < bd ∧ SigAt w b off l)
theorem SigS.kept {w w' : World} {bd : Nat} {v : Value} {l : List Sg} (h : SigS w bd v l) (hg : w.grownBy w' (some bd)) : SigS w' bd v l := by
  obtain ⟨o, cap, h1, h2, h3, h4⟩ := h
  exact ⟨o, cap, h1, h2, h3, h4.imp id fun ⟨b, off, e, hb, hs⟩ => ⟨b, off, e, hb, hs.kept hg (by omega)⟩⟩
/-- The reader: what it has left. -/
def Rd (w : World) (bd : Nat) (l : List Sg) : Prop := ∃ v, w.heap[bd]? = some (.cells #[v] 59 (0, 0)) ∧ SigS w bd v l
theorem Rd.lt {w : World} {bd : Nat} {l : List Sg} (h : Rd w bd l) : bd < w.heap.size := by
  obtain ⟨v, h, _⟩ := h; exact (Array.getElem?_eq_some_iff.1 h).1
theorem grown_of_below {w w' : World} (h : Below w.heap.size w w') (r : Option Nat) : w.grownBy w' r := ⟨h.os, h.tape, h.output, h.size, fun k hk _ => h.block k hk⟩
theorem grown_trans {a b c : World} {r : Option Nat} (h : a.grownBy b r) (k : b.grownBy c r) : a.grownBy c r :=
  ⟨k.os.trans h.os, k.tape.trans h.tape, k.output.trans h.output, Nat.le_trans h.size k.size, fun i hi hr => (k.block i (Nat.lt_of_lt_of_le hi h.size) hr).trans (h.block i hi hr)⟩
theorem Rd.ok {w : World} {bd : Nat} {l : List Sg} (h : Rd w bd l) : ∀ s ∈ l, okR s.1 := by
  obtain ⟨v, _, o, cap, _, _, hm, _⟩ := h; exact hm.2
theorem Rd.below {w w' : World} {bd : Nat} {l : List Sg} (h : Rd w bd l) (hb : Below w.heap.size w w') : Rd w' bd l := by
  have hl := h.lt
  obtain ⟨v, h1, h2⟩ := h
  exact ⟨v, (hb.block bd hl).trans h1, h2.kept (grown_of_below hb _)⟩

theorem SigAt.keep {w w' : World} {b off : Nat} {l : List Sg} (h : SigAt w b off l) (hb : w'.heap[b]? = w.heap[b]?) : SigAt w' b off l :=
  ⟨(Array.getElem?_eq_some_iff.1 (hb.trans (Array.getElem?_eq_getElem h.low))).1, fun j x hx => (World.cell?_of_block (a := ⟨b, off + j * 2, none⟩) hb).trans (h.at0 j x hx), fun j x hx => (World.cell?_of_block (a := ⟨b, off + j * 2 + 1, none⟩) hb).trans (h.at1 j x hx)⟩
/-- What is done above the reader's block does not change it. -/
theorem Rd.keep {w w' : World} {bd : Nat} {l : List Sg} (h : Rd w bd l) (hb : ∀ k, k ≤ bd → w'.heap[k]? = w.heap[k]?) : Rd w' bd l := by
  obtain ⟨v, h1, o, cap, e, hc, hm, h2⟩ := h
  exact ⟨v, (hb bd (Nat.le_refl _)).trans h1, o, cap, e, hc, hm, h2.imp id fun ⟨b, off, e, hl, hs⟩ => ⟨b, off, e, hl, hs.keep (hb b (Nat.le_of_lt hl))⟩⟩
theorem grown_refl (w : World) (r : Option Nat) : w.grownBy w r := ⟨rfl, rfl, rfl, Nat.le_refl _, fun _ _ _ => rfl⟩
theorem grown_set (w : World) (bd i : Nat) (u : Value) : w.grownBy (w.setCell ⟨bd, i, none⟩ u) (some bd) :=
  ⟨rfl, rfl, rfl, by simp [World.setCell], fun k _ hk => heap_setCell_other w ⟨bd, i, none⟩ k u (fun e => hk (by simp [e]))⟩
theorem grown_setNew {a b : World} {r : Option Nat} (h : a.grownBy b r) {k : Nat} (hk : a.heap.size ≤ k) (i : Nat) (u : Value) : a.grownBy (b.setCell ⟨k, i, none⟩ u) r :=
  ⟨h.os, h.tape, h.output, by simpa [World.setCell] using h.size, fun j hj hr => (heap_setCell_other b ⟨k, i, none⟩ j u (fun e => by have e2 : j = k := e; omega)).trans (h.block j hj hr)⟩
theorem Rd.setNew {w : World} {bd : Nat} {l : List Sg} (h : Rd w bd l) {k : Nat} (hk : bd < k) (i : Nat) (u : Value) : Rd (w.setCell ⟨k, i, none⟩ u) bd l :=
  h.keep fun j hj => heap_setCell_other w ⟨k, i, none⟩ j u (fun e => by have e2 : j = k := e; omega)
theorem grown_alloc {a b : World} {r : Option Nat} (h : a.grownBy b r) (o : Obj) : a.grownBy (b.alloc o) r := grown_trans h (World.grownBy_alloc _ _ _)
theorem Rd.alloc {w : World} {bd : Nat} {l : List Sg} (h : Rd w bd l) (o : Obj) : Rd (w.alloc o) bd l := h.below ((Below.refl _ _).alloc (Nat.le_refl _) _)
theorem Rd.set {w : World} {bd n cap b off : Nat} {v : Value} {l : List Sg} (h1 : w.heap[bd]? = some (.cells #[v] 59 (0, 0))) (hb : b < bd) (hs : SigAt w b off l) (hn : l.length = n) (hc : n ≤ cap) (hm : n ≤ 1000000 ∧ ∀ s ∈ l, okR s.1) :
    Rd (w.setCell ⟨bd, 0, none⟩ (.slice (some ⟨b, off, none⟩) n cap)) bd l := by
  subst hn
  exact ⟨_, one_setCell h1, _, cap, rfl, hc, hm, .inr ⟨b, off, rfl, hb, hs.kept (grown_set w bd 0 _) (by omega)⟩⟩

theorem Rd.set0 {w : World} {bd n cap : Nat} {o : Option Addr} {v : Value} (h1 : w.heap[bd]? = some (.cells #[v] 59 (0, 0))) (hn : n = 0) : Rd (w.setCell ⟨bd, 0, none⟩ (.slice o n cap)) bd [] := by
  subst hn
  exact ⟨_, one_setCell h1, _, cap, rfl, Nat.zero_le _, ⟨Nat.zero_le _, fun s hs => by simp at hs⟩, .inl rfl⟩

set_option maxHeartbeats 1000000 in
set_option maxRecDepth 100000 in
theorem at_any (bd : Nat) (l : List Sg) (r : Int) (w : World) (h : Rd w bd l) :
    Calls Try.prog 34 #[.pointer (some ⟨bd, 0, none⟩), .int .i32 r] w fun e w' => e = .returned (.bool (atB l r)) ∧ w = w' := by
  obtain ⟨v, h1, o, cap, rfl, hc, ⟨hm, _⟩, h2⟩ := h
  have hcell : w.cell? ⟨bd, 0, none⟩ = some (.slice o l.length cap) := by simp [World.cell?, h1]
  cases l with
  | nil =>
    have HC := Lib.hid hcell
    clear h1 h2 hc hm hcell
    have hcell : w.cell? ⟨bd, 0, none⟩ = some (.slice o 0 cap) := HC.out
    go_enter Try.func34, Try.ntmps34
    go_wp2
    go_ret
    exact ⟨rfl, rfl⟩
  | cons s t =>
    rcases h2 with h2 | ⟨b, off, rfl, hb, hs⟩
    · cases h2
    have c0 := hs.at0 0 s rfl
    have c1 := hs.at1 0 s rfl
    simp only [Nat.zero_mul, Nat.add_zero] at c0 c1
    obtain ⟨n, hn⟩ : ∃ n, (s :: t).length = n := ⟨_, rfl⟩
    rw [hn] at hcell hm
    have h0 : 0 < n := by rw [← hn]; simp
    have i0 : (0 : Int) < n := by omega
    clear hn hs h1 hc hb
    go_enter Try.func34, Try.ntmps34
    go_wp2
    all_goals
      go_ret
      exact ⟨ret_bool (by simp [atB, *]), rfl⟩
theorem at_is (bd : Nat) (l : List Sg) (r : Int) (b : Bool) (hb : atB l r = b) (w : World) (h : Rd w bd l) :
    Calls Try.prog 34 #[.pointer (some ⟨bd, 0, none⟩), .int .i32 r] w fun e w' => e = .returned (.bool b) ∧ w = w' := by
  rw [← hb]; exact at_any bd l r w h

set_option maxHeartbeats 1000000 in
set_option maxRecDepth 100000 in
theorem next_any (bd : Nat) (s : Sg) (t : List Sg) (w : World) (h : Rd w bd (s :: t)) :
    Calls Try.prog 37 #[.pointer (some ⟨bd, 0, none⟩)] w fun e w' => e = .returned (.agg #[.int .i32 s.1, .bool s.2]) ∧ Rd w' bd t ∧ w.grownBy w' (some bd) := by
  have hlt := h.lt
  obtain ⟨v, h1, o, cap, rfl, hc, ⟨hm, hok⟩, h2⟩ := h
  have HOK := Lib.hid (fun x (hx : x ∈ t) => hok x (List.mem_cons_of_mem _ hx))
  clear hok
  have hcell : w.cell? ⟨bd, 0, none⟩ = some (.slice o (s :: t).length cap) := by simp [World.cell?, h1]
  have hfr : w.frozen? ⟨bd, 0, none⟩ = false := by simp [World.frozen?, h1]
  rcases h2 with h2 | ⟨b, off, rfl, hb, hs⟩
  · cases h2
  have hbl := hs.low
  have c0 := hs.at0 0 s rfl
  have c1 := hs.at1 0 s rfl
  simp only [Nat.zero_mul, Nat.add_zero] at c0 c1
  obtain ⟨n, hn⟩ : ∃ n, (s :: t).length = n := ⟨_, rfl⟩
  rw [hn] at hcell hm hc
  have h0 : 0 < n := by rw [← hn]; simp
  have i0 : (0 : Int) < n := by omega
  have i1 : (1 : Int) ≤ n := by omega
  have HN := Lib.hid hn
  have HS := Lib.hid hs.tail
  have H1 := Lib.hid h1
  clear hn hs h1
  have HR := Lib.hid (fun (a c : Nat) (ha : a = off + 2) (h2 : t.length = n - 1) (h3 : n - 1 ≤ c) => (Rd.set H1.out hb (by rw [ha]; exact HS.out) h2 h3 ⟨by omega, HOK.out⟩ : Rd (w.setCell ⟨bd, 0, none⟩ (.slice (some ⟨b, a, none⟩) (n - 1) c)) bd t))
  go_enter Try.func37, Try.ntmps37
  go_wp2
  · have ht : t = [] := by
      have := HN.out; simp at this
      cases t with
      | nil => rfl
      | cons x y => simp at this; omega
    subst ht
    refine bodyPost_ret (v := .agg #[.int .i32 s.1, .bool s.2]) (by simp [results, Try.results37, go_sem]) rfl ⟨rfl, ?_, grown_alloc (grown_alloc (grown_set _ _ _ _) _) _⟩
    exact ((Rd.set0 H1.out (by omega)).alloc _).alloc _
  · refine bodyPost_ret (v := .agg #[.int .i32 s.1, .bool s.2]) (by simp [results, Try.results37, go_sem]) rfl ⟨rfl, ?_, grown_alloc (grown_alloc (grown_set _ _ _ _) _) _⟩
    exact ((HR.out _ _ rfl (by have := HN.out; simp at this; omega) (by omega)).alloc _).alloc _

set_option maxHeartbeats 1000000 in
set_option maxRecDepth 100000 in
theorem take_yes (bd : Nat) (l : List Sg) (r : Int) (w : World) (h : Rd w bd l) (hb : atB l r = true) :
    Calls Try.prog 31 #[.pointer (some ⟨bd, 0, none⟩), .int .i32 r] w fun e w' => e = .returned (.bool true) ∧ Rd w' bd l.tail ∧ w.grownBy w' (some bd) := by
  have HA := Lib.hid (at_is bd l r true hb w h)
  cases l with
  | nil => simp [atB] at hb
  | cons s t =>
    have HN := Lib.hid (next_any bd s t w h)
    clear h hb
    go_enter Try.func31, Try.ntmps31
    go_wp2_with fail
    refine HA.out.mono ?_
    rintro e w' ⟨rfl, rfl⟩
    go_wp2_with fail
    refine HN.out.mono ?_
    rintro e w' ⟨rfl, hr, hg⟩
    have HR := Lib.hid hr
    have HG := Lib.hid hg
    clear hr hg
    go_wp2
    go_ret
    exact ⟨rfl, HR.out, HG.out⟩
set_option maxHeartbeats 1000000 in
set_option maxRecDepth 100000 in
theorem take_no (bd : Nat) (l : List Sg) (r : Int) (w : World) (h : Rd w bd l) (hb : atB l r = false) :
    Calls Try.prog 31 #[.pointer (some ⟨bd, 0, none⟩), .int .i32 r] w fun e w' => e = .returned (.bool false) ∧ w = w' := by
  have HA := Lib.hid (at_is bd l r false hb w h)
  clear h hb
  go_enter Try.func31, Try.ntmps31
  go_wp2_with fail
  refine HA.out.mono ?_
  rintro e w' ⟨rfl, rfl⟩
  go_wp2
  go_ret
  exact ⟨rfl, rfl⟩
/-- Both ways in one. -/
theorem take_any (bd : Nat) (l : List Sg) (r : Int) (w : World) (h : Rd w bd l) :
    Calls Try.prog 31 #[.pointer (some ⟨bd, 0, none⟩), .int .i32 r] w fun e w' => e = .returned (.bool (atB l r)) ∧ Rd w' bd (takeB l r) ∧ w.grownBy w' (some bd) := by
  cases hb : atB l r with
  | true => exact (take_yes bd l r w h hb).mono fun e w' q => ⟨q.1, by unfold takeB; rw [hb]; exact q.2.1, q.2.2⟩
  | false => exact (take_no bd l r w h hb).mono fun e w' q => ⟨q.1, by obtain ⟨_, rfl⟩ := q; unfold takeB; rw [hb]; exact ⟨h, grown_refl _ _⟩⟩
end Go.Proofs.Ytfpdhmecomgbdaa
