import Derived.Lib.MapLaws
import Derived.Test.YtmidpekkomhogaaMg01
import Derived.Laws.StructEq
import Derived.Deep.RegionWith
import Derived.Deep.RegionHeld3
import Derived.Deep.QuietTactic
import Derived.BigQuiet
import Derived.Deep.DeepMust
import Derived.OneCell
import Derived.Maps.AppendAt
import Derived.Laws.OwnMore
import Derived.Deep.LoopGhost
section
/- Patterns, plain: what a text of signs is read as. No program in it. -/

namespace Go.Proofs.Ytmidpekkomhogaa.Pat

/-- A part of a pattern. -/
inductive Pt where
  | choice (l : List Pt)
  | chain (l : List Pt)
  | times (x : Pt) (a b : Bool)
  | only (r : Int)
  | cls (neg : Bool) (items : List (Int × Int))
  | dot

/-- A rune, and whether it has no backslash ahead. -/
abbrev Sg := Int × Bool

def atB (l : List Sg) (r : Int) : Bool := match l with
  | [] => false
  | s :: _ => s.1 == r && s.2
def takeB (l : List Sg) (r : Int) : List Sg := if atB l r then l.tail else l
def itemF (l : List Sg) : (Int × Int) × List Sg := match l with
  | [] => ((0, 0), [])
  | s :: t => if atB t 45 && (decide (2 ≤ t.length) && !atB t.tail 93) then ((s.1, (t.tail.headD (0, false)).1), t.tail.tail) else ((s.1, s.1), t)
def itemsGo : Nat → List Sg → List (Int × Int) → Option (List (Int × Int) × List Sg)
  | 0, _, _ => none
  | n + 1, l, acc => if l.isEmpty || atB l 93 then some (acc, l) else if (itemF l).1.2 < (itemF l).1.1 then none else itemsGo n (itemF l).2 (acc ++ [(itemF l).1])
def itemsP (l : List Sg) (acc : List (Int × Int)) : Option (List (Int × Int) × List Sg) := itemsGo (l.length + 1) l acc
def classP (l : List Sg) : Option (Pt × List Sg) := match itemsP (takeB l 94) [] with
  | none => none
  | some (items, m) => if atB m 93 && decide (0 < items.length) then some (.cls (atB l 94) items, m.tail) else none
def timesF (x : Pt) (l : List Sg) : Pt := if atB l 42 then .times x true true else if atB l 43 then .times x false true else if atB l 63 then .times x true false else x
def timesR (l : List Sg) : List Sg := if atB l 42 || (atB l 43 || atB l 63) then l.tail else l
def markB (r : Int) : Bool := r == 42 || (r == 43 || (r == 63 || (r == 124 || (r == 40 || (r == 41 || (r == 91 || r == 93))))))
def stopB (l : List Sg) : Bool := l.isEmpty || (atB l 124 || atB l 41)

/-! ### how many atoms there are -/
mutual
def Pt.size : Pt → Nat
  | .choice l => sizes l
  | .chain l => sizes l
  | .times x _ _ => x.size
  | .only _ => 1
  | .cls _ _ => 1
  | .dot => 1
def sizes : List Pt → Nat
  | [] => 0
  | x :: xs => x.size + sizes xs
end
def litP (l : List Sg) : Option (Pt × List Sg) := match l with
  | [] => none
  | s :: t => if s.2 && markB s.1 then none else some (.only s.1, t)
theorem litP_lt {l : List Sg} {x : Pt} {m : List Sg} (h : litP l = some (x, m)) : m.length < l.length ∧ x.size = 1 := by
  unfold litP at h
  split at h
  · cases h
  · split at h
    · cases h
    · injection h with h; injection h with h1 h; subst h; subst h1
      exact ⟨by simp, rfl⟩

mutual
def choiceGo : Nat → List Sg → List Pt → Option (List Pt × List Sg)
  | 0, _, _ => none
  | n + 1, l, acc => match chainGo n l [] with
    | none => none
    | some (c, m) => if atB m 124 then choiceGo n m.tail (acc ++ [.chain c]) else some (acc ++ [.chain c], m)
def chainGo : Nat → List Sg → List Pt → Option (List Pt × List Sg)
  | 0, _, _ => none
  | n + 1, l, acc => if stopB l then some (acc, l) else match atomGo n l with
    | none => none
    | some (x, m) => chainGo n (timesR m) (acc ++ [timesF x m])
def atomGo : Nat → List Sg → Option (Pt × List Sg)
  | 0, _ => none
  | n + 1, l => if atB l 40 then (match choiceGo n l.tail [] with
      | none => none
      | some (c, m) => if atB m 41 then some (.choice c, m.tail) else none)
    else if atB l 91 then classP l.tail
    else if atB l 46 then some (.dot, l.tail)
    else litP l
end

def choiceP (l : List Sg) (acc : List Pt) : Option (List Pt × List Sg) := choiceGo (3 * l.length + 3) l acc
def chainP (l : List Sg) (acc : List Pt) : Option (List Pt × List Sg) := chainGo (3 * l.length + 2) l acc
def atomP (l : List Sg) : Option (Pt × List Sg) := atomGo (3 * l.length + 1) l

/-- A text's signs; none: a backslash at its end. -/
def signsGo : Bool → List Int → List Sg
  | _, [] => []
  | b, r :: rs => if r == 92 && !b then signsGo true rs else (r, !b) :: signsGo false rs
def endsGo : Bool → List Int → Bool
  | b, [] => b
  | b, r :: rs => if r == 92 && !b then endsGo true rs else endsGo false rs
/-- What a pattern is read as. -/
def readP (rs : List Int) : Option Pt := if endsGo false rs then none else match choiceP (signsGo false rs) [] with
  | none => none
  | some (c, m) => if m.isEmpty then some (.choice c) else none

/-! ### how much is left -/
theorem tail_lt {l : List Sg} {r : Int} (h : atB l r = true) : l.tail.length + 1 = l.length := by
  cases l with
  | nil => simp [atB] at h
  | cons s t => simp
theorem itemF_lt (l : List Sg) (h : l ≠ []) : (itemF l).2.length < l.length := by
  cases l with
  | nil => exact absurd rfl h
  | cons s t =>
    unfold itemF
    dsimp only
    split
    · simp; omega
    · simp
theorem itemsGo_le : ∀ (n : Nat) (l : List Sg) (acc : List (Int × Int)) (xs : List (Int × Int)) (m : List Sg), itemsGo n l acc = some (xs, m) → m.length ≤ l.length
  | 0, _, _, _, _, h => by simp [itemsGo] at h
  | n + 1, l, acc, xs, m, h => by
    rw [itemsGo] at h
    split at h
    · injection h with h; injection h with _ h; subst h; exact Nat.le_refl _
    · split at h
      · cases h
      · rename_i h1 _
        have hne : l ≠ [] := by rintro rfl; simp at h1
        have := itemsGo_le n _ _ _ _ h
        have := itemF_lt l hne
        omega
theorem itemsGo_fuel : ∀ (n k : Nat) (l : List Sg) (acc : List (Int × Int)), l.length < n → l.length < k → itemsGo n l acc = itemsGo k l acc
  | 0, _, _, _, h, _ => by omega
  | _ + 1, 0, _, _, _, h => by omega
  | n + 1, k + 1, l, acc, hn, hk => by
    rw [itemsGo, itemsGo]
    split
    · rfl
    · split
      · rfl
      · rename_i h1 _
        have hne : l ≠ [] := by rintro rfl; simp at h1
        have := itemF_lt l hne
        exact itemsGo_fuel n k _ _ (by omega) (by omega)
theorem itemsP_eq (l : List Sg) (acc : List (Int × Int)) : itemsP l acc = if l.isEmpty || atB l 93 then some (acc, l) else if (itemF l).1.2 < (itemF l).1.1 then none else itemsP (itemF l).2 (acc ++ [(itemF l).1]) := by
  unfold itemsP
  rw [itemsGo]
  split
  · rfl
  · split
    · rfl
    · rename_i h1 _
      have hne : l ≠ [] := by rintro rfl; simp at h1
      have := itemF_lt l hne
      exact itemsGo_fuel _ _ _ _ (by omega) (by omega)
theorem takeB_le (l : List Sg) (r : Int) : (takeB l r).length ≤ l.length := by
  unfold takeB; split <;> simp
theorem classP_lt {l : List Sg} {x : Pt} {m : List Sg} (h : classP l = some (x, m)) : m.length < l.length := by
  unfold classP at h
  split at h
  · cases h
  · rename_i items k hk
    split at h
    · rename_i hc
      injection h with h; injection h with _ h; subst h
      have h1 := itemsGo_le _ _ _ _ _ hk
      have h2 := takeB_le l 94
      have h3 := tail_lt (l := k) (r := 93) (by simp at hc; exact hc.1)
      omega
    · cases h
theorem timesR_le (l : List Sg) : (timesR l).length ≤ l.length := by
  unfold timesR; split <;> simp

theorem go_le : ∀ (n : Nat),
    (∀ (l : List Sg) (acc c : List Pt) (m : List Sg), choiceGo n l acc = some (c, m) → m.length ≤ l.length) ∧
    (∀ (l : List Sg) (acc c : List Pt) (m : List Sg), chainGo n l acc = some (c, m) → m.length ≤ l.length) ∧
    (∀ (l : List Sg) (x : Pt) (m : List Sg), atomGo n l = some (x, m) → m.length < l.length)
  | 0 => ⟨fun _ _ _ _ h => by simp [choiceGo] at h, fun _ _ _ _ h => by simp [chainGo] at h, fun _ _ _ h => by simp [atomGo] at h⟩
  | n + 1 => by
    obtain ⟨i1, i2, i3⟩ := go_le n
    refine ⟨?_, ?_, ?_⟩
    · intro l acc c m h
      rw [choiceGo] at h
      split at h
      · cases h
      · rename_i d k hk
        have := i2 _ _ _ _ hk
        split at h
        · rename_i hb
          have := i1 _ _ _ _ h
          have := tail_lt hb
          omega
        · injection h with h; injection h with _ h; subst h; exact this
    · intro l acc c m h
      rw [chainGo] at h
      split at h
      · injection h with h; injection h with _ h; subst h; exact Nat.le_refl _
      · split at h
        · cases h
        · rename_i x k hk
          have := i3 _ _ _ hk
          have := i2 _ _ _ _ h
          have := timesR_le k
          omega
    · intro l x m h
      rw [atomGo] at h
      split at h
      · rename_i hb
        have hl := tail_lt hb
        split at h
        · cases h
        · rename_i d k hk
          have := i1 _ _ _ _ hk
          split at h
          · rename_i hc
            injection h with h; injection h with _ h; subst h
            have := tail_lt hc
            omega
          · cases h
      · split at h
        · rename_i hb
          have hl := tail_lt hb
          have := classP_lt h
          omega
        · split at h
          · rename_i hb
            have hl := tail_lt hb
            injection h with h; injection h with _ h; subst h
            omega
          · exact (litP_lt h).1
theorem chainP_le {l : List Sg} {acc c : List Pt} {m : List Sg} (h : chainP l acc = some (c, m)) : m.length ≤ l.length := (go_le _).2.1 _ _ _ _ h
theorem atomP_lt {l : List Sg} {x : Pt} {m : List Sg} (h : atomP l = some (x, m)) : m.length < l.length := (go_le _).2.2 _ _ _ h

theorem go_fuel : ∀ (n : Nat),
    (∀ (k : Nat) (l : List Sg) (acc : List Pt), 3 * l.length + 3 ≤ n → 3 * l.length + 3 ≤ k → choiceGo n l acc = choiceGo k l acc) ∧
    (∀ (k : Nat) (l : List Sg) (acc : List Pt), 3 * l.length + 2 ≤ n → 3 * l.length + 2 ≤ k → chainGo n l acc = chainGo k l acc) ∧
    (∀ (k : Nat) (l : List Sg), 3 * l.length + 1 ≤ n → 3 * l.length + 1 ≤ k → atomGo n l = atomGo k l)
  | 0 => ⟨fun _ _ _ h _ => by omega, fun _ _ _ h _ => by omega, fun _ _ h _ => by omega⟩
  | n + 1 => by
    obtain ⟨i1, i2, i3⟩ := go_fuel n
    refine ⟨?_, ?_, ?_⟩
    · intro k l acc hn hk
      cases k with
      | zero => omega
      | succ k =>
        rw [choiceGo, choiceGo, i2 k l [] (by omega) (by omega)]
        split
        · rfl
        · rename_i d m hm
          have hl := (go_le _).2.1 _ _ _ _ hm
          split
          · rename_i hb
            have := tail_lt hb
            exact i1 _ _ _ (by omega) (by omega)
          · rfl
    · intro k l acc hn hk
      cases k with
      | zero => omega
      | succ k =>
        rw [chainGo, chainGo]
        split
        · rfl
        · rw [i3 k l (by omega) (by omega)]
          split
          · rfl
          · rename_i d m hm
            have hl := (go_le _).2.2 _ _ _ hm
            have := timesR_le m
            exact i2 _ _ _ (by omega) (by omega)
    · intro k l hn hk
      cases k with
      | zero => omega
      | succ k =>
        rw [atomGo, atomGo]
        split
        · rename_i hb
          have := tail_lt hb
          rw [i1 k l.tail [] (by omega) (by omega)]
        · rfl
theorem choiceP_eq (l : List Sg) (acc : List Pt) : choiceP l acc = match chainP l [] with
    | none => none
    | some (c, m) => if atB m 124 then choiceP m.tail (acc ++ [.chain c]) else some (acc ++ [.chain c], m) := by
  unfold choiceP chainP
  rw [choiceGo]
  split
  · rfl
  · rename_i d m hm
    have hl := (go_le _).2.1 _ _ _ _ hm
    split
    · rename_i hb
      have := tail_lt hb
      exact (go_fuel _).1 _ _ _ (by omega) (by omega)
    · rfl
theorem chainP_eq (l : List Sg) (acc : List Pt) : chainP l acc = if stopB l then some (acc, l) else match atomP l with
    | none => none
    | some (x, m) => chainP (timesR m) (acc ++ [timesF x m]) := by
  unfold chainP atomP
  rw [chainGo]
  split
  · rfl
  · split
    · rfl
    · rename_i d m hm
      have hl := (go_le _).2.2 _ _ _ hm
      have := timesR_le m
      exact (go_fuel _).2.1 _ _ _ (by omega) (by omega)
theorem atomP_eq (l : List Sg) : atomP l = if atB l 40 then (match choiceP l.tail [] with
      | none => none
      | some (c, m) => if atB m 41 then some (.choice c, m.tail) else none)
    else if atB l 91 then classP l.tail
    else if atB l 46 then some (.dot, l.tail)
    else litP l := by
  unfold atomP choiceP
  rw [atomGo]
  split
  · rename_i hb
    have := tail_lt hb
    rw [(go_fuel _).1 (3 * l.tail.length + 3) l.tail [] (by omega) (by omega)]
  · rfl

theorem sizes_append : ∀ (xs ys : List Pt), sizes (xs ++ ys) = sizes xs + sizes ys
  | [], ys => by simp [sizes]
  | x :: xs, ys => by simp [sizes, sizes_append xs ys]; omega
theorem timesF_size (x : Pt) (l : List Sg) : (timesF x l).size = x.size := by
  unfold timesF; split
  · rfl
  · split
    · rfl
    · split <;> rfl
theorem classP_size {l : List Sg} {x : Pt} {m : List Sg} (h : classP l = some (x, m)) : x.size = 1 := by
  unfold classP at h
  split at h
  · cases h
  · split at h
    · injection h with h; injection h with h _; subst h; rfl
    · cases h
theorem go_size : ∀ (n : Nat),
    (∀ (l : List Sg) (acc c : List Pt) (m : List Sg), choiceGo n l acc = some (c, m) → sizes c + m.length ≤ sizes acc + l.length) ∧
    (∀ (l : List Sg) (acc c : List Pt) (m : List Sg), chainGo n l acc = some (c, m) → sizes c + m.length ≤ sizes acc + l.length) ∧
    (∀ (l : List Sg) (x : Pt) (m : List Sg), atomGo n l = some (x, m) → x.size + m.length ≤ l.length)
  | 0 => ⟨fun _ _ _ _ h => by simp [choiceGo] at h, fun _ _ _ _ h => by simp [chainGo] at h, fun _ _ _ h => by simp [atomGo] at h⟩
  | n + 1 => by
    obtain ⟨i1, i2, i3⟩ := go_size n
    refine ⟨?_, ?_, ?_⟩
    · intro l acc c m h
      rw [choiceGo] at h
      split at h
      · cases h
      · rename_i d k hk
        have h1 := i2 _ _ _ _ hk
        simp [sizes] at h1
        have hs : sizes (acc ++ [Pt.chain d]) = sizes acc + sizes d := by rw [sizes_append]; simp [sizes, Pt.size]
        split at h
        · rename_i hb
          have h2 := i1 _ _ _ _ h
          have := tail_lt hb
          omega
        · injection h with h; injection h with h1 h; subst h; subst h1; omega
    · intro l acc c m h
      rw [chainGo] at h
      split at h
      · injection h with h; injection h with h1 h; subst h; subst h1; exact Nat.le_refl _
      · split at h
        · cases h
        · rename_i x k hk
          have h1 := i3 _ _ _ hk
          have h2 := i2 _ _ _ _ h
          have := timesR_le k
          have hs : sizes (acc ++ [timesF x k]) = sizes acc + x.size := by rw [sizes_append]; simp [sizes, timesF_size]
          omega
    · intro l x m h
      rw [atomGo] at h
      split at h
      · rename_i hb
        have hl := tail_lt hb
        split at h
        · cases h
        · rename_i d k hk
          have h1 := i1 _ _ _ _ hk
          simp [sizes] at h1
          split at h
          · rename_i hc
            injection h with h; injection h with h2 h; subst h; subst h2
            have := tail_lt hc
            simp [Pt.size]
            omega
          · cases h
      · split at h
        · rename_i hb
          have hl := tail_lt hb
          have := classP_lt h
          have := classP_size h
          omega
        · split at h
          · rename_i hb
            have hl := tail_lt hb
            injection h with h; injection h with h1 h; subst h; subst h1
            simp [Pt.size]
            omega
          · have := litP_lt h
            omega
theorem signsGo_len : ∀ (b : Bool) (rs : List Int), (signsGo b rs).length ≤ rs.length
  | _, [] => by simp [signsGo]
  | b, r :: rs => by
    rw [signsGo]
    split
    · have := signsGo_len true rs; simp; omega
    · have := signsGo_len false rs; simp; omega
theorem readP_size {rs : List Int} {x : Pt} (h : readP rs = some x) : x.size ≤ rs.length := by
  unfold readP at h
  split at h
  · cases h
  · split at h
    · cases h
    · rename_i c m hm
      split at h
      · injection h with h; subst h
        have := (go_size _).1 _ _ _ _ hm
        have h2 := signsGo_len false rs
        simp [sizes] at this
        simp [Pt.size]
        omega
      · cases h
end Go.Proofs.Ytmidpekkomhogaa.Pat
end

section
/- Patterns: the signs that are not read yet. -/

namespace Go.Proofs.Ytmidpekkomhogaa.Pat
open Go.RowKit

/-- Cells that read as these signs. -/
structure SigAt (w : World) (b off : Nat) (l : List Sg) : Prop where
  low : b < w.heap.size
  at0 : ∀ (j : Nat) (x : Sg), l[j]? = some x → w.cell? ⟨b, off + j * 2, none⟩ = some (.int .i32 x.1)
  at1 : ∀ (j : Nat) (x : Sg), l[j]? = some x → w.cell? ⟨b, off + j * 2 + 1, none⟩ = some (.bool x.2)
theorem SigAt.kept {w w' : World} {b off : Nat} {l : List Sg} {bd : Nat} (h : SigAt w b off l) (hg : w.grownBy w' (some bd)) (hb : b ≠ bd) : SigAt w' b off l :=
  ⟨Nat.lt_of_lt_of_le h.low hg.size, fun j x hx => (World.cell?_of_block (a := ⟨b, off + j * 2, none⟩) (hg.block b h.low (by simpa using hb))).trans (h.at0 j x hx), fun j x hx => (World.cell?_of_block (a := ⟨b, off + j * 2 + 1, none⟩) (hg.block b h.low (by simpa using hb))).trans (h.at1 j x hx)⟩
theorem SigAt.tail {w : World} {b off : Nat} {s : Sg} {l : List Sg} (h : SigAt w b off (s :: l)) : SigAt w b (off + 2) l :=
  ⟨h.low, fun j x hx => by have := h.at0 (j + 1) x (by simpa using hx); rwa [show off + (j + 1) * 2 = off + 2 + j * 2 by omega] at this, fun j x hx => by have := h.at1 (j + 1) x (by simpa using hx); rwa [show off + (j + 1) * 2 + 1 = off + 2 + j * 2 + 1 by omega] at this⟩
/-- A rune that a text can have. -/
def okR (r : Int) : Prop := (0 ≤ r ∧ r < 55296) ∨ (57343 < r ∧ r ≤ 1114111)
/-- A slice that reads as these signs, beside block bd. -/
def SigS (w : World) (bd : Nat) (v : Value) (l : List Sg) : Prop := ∃ o cap, v = .slice o l.length cap ∧ l.length ≤ cap ∧ (l.length ≤ 1000000 ∧ ∀ s ∈ l, okR s.1) ∧ (l = [] ∨ ∃ b off, o = some ⟨b, off, none⟩ ∧ b < bd ∧ SigAt w b off l)
theorem SigS.kept {w w' : World} {bd : Nat} {v : Value} {l : List Sg} (h : SigS w bd v l) (hg : w.grownBy w' (some bd)) : SigS w' bd v l := by
  obtain ⟨o, cap, h1, h2, h3, h4⟩ := h
  exact ⟨o, cap, h1, h2, h3, h4.imp id fun ⟨b, off, e, hb, hs⟩ => ⟨b, off, e, hb, hs.kept hg (by omega)⟩⟩
/-- The reader: what it has left. -/
def Rd (w : World) (bd : Nat) (l : List Sg) : Prop := ∃ v, w.heap[bd]? = some (.cells #[v] 125 (0, 0)) ∧ SigS w bd v l
theorem Rd.lt {w : World} {bd : Nat} {l : List Sg} (h : Rd w bd l) : bd < w.heap.size := by
  obtain ⟨v, h, _⟩ := h; exact (Array.getElem?_eq_some_iff.1 h).1
theorem grown_of_below {w w' : World} (h : Below w.heap.size w w') (r : Option Nat) : w.grownBy w' r := ⟨h.os, h.tape, h.output, h.size, fun k hk _ => h.block k hk⟩
theorem grown_trans {a b c : World} {r : Option Nat} (h : a.grownBy b r) (k : b.grownBy c r) : a.grownBy c r :=
  ⟨k.os.trans h.os, k.tape.trans h.tape, k.output.trans h.output, Nat.le_trans h.size k.size, fun i hi hr => (k.block i (Nat.lt_of_lt_of_le hi h.size) hr).trans (h.block i hi hr)⟩
theorem Rd.ok {w : World} {bd : Nat} {l : List Sg} (h : Rd w bd l) : ∀ s ∈ l, okR s.1 := by
  obtain ⟨v, _, o, cap, _, _, hm, _⟩ := h; exact hm.2
theorem Rd.below {w w' : World} {bd : Nat} {l : List Sg} (h : Rd w bd l) (hb : Below w.heap.size w w') : Rd w' bd l := by
  have hl := h.lt
  obtain ⟨v, h1, h2⟩ := h
  exact ⟨v, (hb.block bd hl).trans h1, h2.kept (grown_of_below hb _)⟩

theorem SigAt.keep {w w' : World} {b off : Nat} {l : List Sg} (h : SigAt w b off l) (hb : w'.heap[b]? = w.heap[b]?) : SigAt w' b off l :=
  ⟨(Array.getElem?_eq_some_iff.1 (hb.trans (Array.getElem?_eq_getElem h.low))).1, fun j x hx => (World.cell?_of_block (a := ⟨b, off + j * 2, none⟩) hb).trans (h.at0 j x hx), fun j x hx => (World.cell?_of_block (a := ⟨b, off + j * 2 + 1, none⟩) hb).trans (h.at1 j x hx)⟩
/-- What is done above the reader's block does not change it. -/
theorem Rd.keep {w w' : World} {bd : Nat} {l : List Sg} (h : Rd w bd l) (hb : ∀ k, k ≤ bd → w'.heap[k]? = w.heap[k]?) : Rd w' bd l := by
  obtain ⟨v, h1, o, cap, e, hc, hm, h2⟩ := h
  exact ⟨v, (hb bd (Nat.le_refl _)).trans h1, o, cap, e, hc, hm, h2.imp id fun ⟨b, off, e, hl, hs⟩ => ⟨b, off, e, hl, hs.keep (hb b (Nat.le_of_lt hl))⟩⟩
theorem grown_refl (w : World) (r : Option Nat) : w.grownBy w r := ⟨rfl, rfl, rfl, Nat.le_refl _, fun _ _ _ => rfl⟩
theorem grown_set (w : World) (bd i : Nat) (u : Value) : w.grownBy (w.setCell ⟨bd, i, none⟩ u) (some bd) :=
  ⟨rfl, rfl, rfl, by simp [World.setCell], fun k _ hk => heap_setCell_other w ⟨bd, i, none⟩ k u (fun e => hk (by simp [e]))⟩
theorem grown_setNew {a b : World} {r : Option Nat} (h : a.grownBy b r) {k : Nat} (hk : a.heap.size ≤ k) (i : Nat) (u : Value) : a.grownBy (b.setCell ⟨k, i, none⟩ u) r :=
  ⟨h.os, h.tape, h.output, by simpa [World.setCell] using h.size, fun j hj hr => (heap_setCell_other b ⟨k, i, none⟩ j u (fun e => by have e2 : j = k := e; omega)).trans (h.block j hj hr)⟩
theorem Rd.setNew {w : World} {bd : Nat} {l : List Sg} (h : Rd w bd l) {k : Nat} (hk : bd < k) (i : Nat) (u : Value) : Rd (w.setCell ⟨k, i, none⟩ u) bd l :=
  h.keep fun j hj => heap_setCell_other w ⟨k, i, none⟩ j u (fun e => by have e2 : j = k := e; omega)
theorem grown_alloc {a b : World} {r : Option Nat} (h : a.grownBy b r) (o : Obj) : a.grownBy (b.alloc o) r := grown_trans h (World.grownBy_alloc _ _ _)
theorem Rd.alloc {w : World} {bd : Nat} {l : List Sg} (h : Rd w bd l) (o : Obj) : Rd (w.alloc o) bd l := h.below ((Below.refl _ _).alloc (Nat.le_refl _) _)
theorem Rd.set {w : World} {bd n cap b off : Nat} {v : Value} {l : List Sg} (h1 : w.heap[bd]? = some (.cells #[v] 125 (0, 0))) (hb : b < bd) (hs : SigAt w b off l) (hn : l.length = n) (hc : n ≤ cap) (hm : n ≤ 1000000 ∧ ∀ s ∈ l, okR s.1) :
    Rd (w.setCell ⟨bd, 0, none⟩ (.slice (some ⟨b, off, none⟩) n cap)) bd l := by
  subst hn
  exact ⟨_, one_setCell h1, _, cap, rfl, hc, hm, .inr ⟨b, off, rfl, hb, hs.kept (grown_set w bd 0 _) (by omega)⟩⟩

theorem Rd.set0 {w : World} {bd n cap : Nat} {o : Option Addr} {v : Value} (h1 : w.heap[bd]? = some (.cells #[v] 125 (0, 0))) (hn : n = 0) : Rd (w.setCell ⟨bd, 0, none⟩ (.slice o n cap)) bd [] := by
  subst hn
  exact ⟨_, one_setCell h1, _, cap, rfl, Nat.zero_le _, ⟨Nat.zero_le _, fun s hs => by simp at hs⟩, .inl rfl⟩

set_option maxHeartbeats 1000000 in
set_option maxRecDepth 100000 in
theorem at_any (bd : Nat) (l : List Sg) (r : Int) (w : World) (h : Rd w bd l) :
    Calls Try.prog 80 #[.pointer (some ⟨bd, 0, none⟩), .int .i32 r] w fun e w' => e = .returned (.bool (atB l r)) ∧ w = w' := by
  obtain ⟨v, h1, o, cap, rfl, hc, ⟨hm, _⟩, h2⟩ := h
  have hcell : w.cell? ⟨bd, 0, none⟩ = some (.slice o l.length cap) := by simp [World.cell?, h1]
  cases l with
  | nil =>
    have HC := Lib.hid hcell
    clear h1 h2 hc hm hcell
    have hcell : w.cell? ⟨bd, 0, none⟩ = some (.slice o 0 cap) := HC.out
    go_enter Try.func80, Try.ntmps80
    go_wp2
    go_ret
    exact ⟨rfl, rfl⟩
  | cons s t =>
    rcases h2 with h2 | ⟨b, off, rfl, hb, hs⟩
    · cases h2
    have c0 := hs.at0 0 s rfl
    have c1 := hs.at1 0 s rfl
    simp only [Nat.zero_mul, Nat.add_zero] at c0 c1
    obtain ⟨n, hn⟩ : ∃ n, (s :: t).length = n := ⟨_, rfl⟩
    rw [hn] at hcell hm
    have h0 : 0 < n := by rw [← hn]; simp
    have i0 : (0 : Int) < n := by omega
    clear hn hs h1 hc hb
    go_enter Try.func80, Try.ntmps80
    go_wp2
    all_goals
      go_ret
      exact ⟨ret_bool (by simp [atB, *]), rfl⟩
theorem at_is (bd : Nat) (l : List Sg) (r : Int) (b : Bool) (hb : atB l r = b) (w : World) (h : Rd w bd l) :
    Calls Try.prog 80 #[.pointer (some ⟨bd, 0, none⟩), .int .i32 r] w fun e w' => e = .returned (.bool b) ∧ w = w' := by
  rw [← hb]; exact at_any bd l r w h

set_option maxHeartbeats 1000000 in
set_option maxRecDepth 100000 in
theorem next_any (bd : Nat) (s : Sg) (t : List Sg) (w : World) (h : Rd w bd (s :: t)) :
    Calls Try.prog 83 #[.pointer (some ⟨bd, 0, none⟩)] w fun e w' => e = .returned (.agg #[.int .i32 s.1, .bool s.2]) ∧ Rd w' bd t ∧ w.grownBy w' (some bd) := by
  have hlt := h.lt
  obtain ⟨v, h1, o, cap, rfl, hc, ⟨hm, hok⟩, h2⟩ := h
  have HOK := Lib.hid (fun x (hx : x ∈ t) => hok x (List.mem_cons_of_mem _ hx))
  clear hok
  have hcell : w.cell? ⟨bd, 0, none⟩ = some (.slice o (s :: t).length cap) := by simp [World.cell?, h1]
  have hfr : w.frozen? ⟨bd, 0, none⟩ = false := by simp [World.frozen?, h1]
  rcases h2 with h2 | ⟨b, off, rfl, hb, hs⟩
  · cases h2
  have hbl := hs.low
  have c0 := hs.at0 0 s rfl
  have c1 := hs.at1 0 s rfl
  simp only [Nat.zero_mul, Nat.add_zero] at c0 c1
  obtain ⟨n, hn⟩ : ∃ n, (s :: t).length = n := ⟨_, rfl⟩
  rw [hn] at hcell hm hc
  have h0 : 0 < n := by rw [← hn]; simp
  have i0 : (0 : Int) < n := by omega
  have i1 : (1 : Int) ≤ n := by omega
  have HN := Lib.hid hn
  have HS := Lib.hid hs.tail
  have H1 := Lib.hid h1
  clear hn hs h1
  have HR := Lib.hid (fun (a c : Nat) (ha : a = off + 2) (h2 : t.length = n - 1) (h3 : n - 1 ≤ c) => (Rd.set H1.out hb (by rw [ha]; exact HS.out) h2 h3 ⟨by omega, HOK.out⟩ : Rd (w.setCell ⟨bd, 0, none⟩ (.slice (some ⟨b, a, none⟩) (n - 1) c)) bd t))
  go_enter Try.func83, Try.ntmps83
  go_wp2
  · have ht : t = [] := by
      have := HN.out; simp at this
      cases t with
      | nil => rfl
      | cons x y => simp at this; omega
    subst ht
    refine bodyPost_ret (v := .agg #[.int .i32 s.1, .bool s.2]) (by simp [results, Try.results83, go_sem]) rfl ⟨rfl, ?_, grown_alloc (grown_alloc (grown_set _ _ _ _) _) _⟩
    exact ((Rd.set0 H1.out (by omega)).alloc _).alloc _
  · refine bodyPost_ret (v := .agg #[.int .i32 s.1, .bool s.2]) (by simp [results, Try.results83, go_sem]) rfl ⟨rfl, ?_, grown_alloc (grown_alloc (grown_set _ _ _ _) _) _⟩
    exact ((HR.out _ _ rfl (by have := HN.out; simp at this; omega) (by omega)).alloc _).alloc _

set_option maxHeartbeats 1000000 in
set_option maxRecDepth 100000 in
theorem take_yes (bd : Nat) (l : List Sg) (r : Int) (w : World) (h : Rd w bd l) (hb : atB l r = true) :
    Calls Try.prog 76 #[.pointer (some ⟨bd, 0, none⟩), .int .i32 r] w fun e w' => e = .returned (.bool true) ∧ Rd w' bd l.tail ∧ w.grownBy w' (some bd) := by
  have HA := Lib.hid (at_is bd l r true hb w h)
  cases l with
  | nil => simp [atB] at hb
  | cons s t =>
    have HN := Lib.hid (next_any bd s t w h)
    clear h hb
    go_enter Try.func76, Try.ntmps76
    go_wp2_with fail
    refine HA.out.mono ?_
    rintro e w' ⟨rfl, rfl⟩
    go_wp2_with fail
    refine HN.out.mono ?_
    rintro e w' ⟨rfl, hr, hg⟩
    have HR := Lib.hid hr
    have HG := Lib.hid hg
    clear hr hg
    go_wp2
    go_ret
    exact ⟨rfl, HR.out, HG.out⟩
set_option maxHeartbeats 1000000 in
set_option maxRecDepth 100000 in
theorem take_no (bd : Nat) (l : List Sg) (r : Int) (w : World) (h : Rd w bd l) (hb : atB l r = false) :
    Calls Try.prog 76 #[.pointer (some ⟨bd, 0, none⟩), .int .i32 r] w fun e w' => e = .returned (.bool false) ∧ w = w' := by
  have HA := Lib.hid (at_is bd l r false hb w h)
  clear h hb
  go_enter Try.func76, Try.ntmps76
  go_wp2_with fail
  refine HA.out.mono ?_
  rintro e w' ⟨rfl, rfl⟩
  go_wp2
  go_ret
  exact ⟨rfl, rfl⟩
/-- Both ways in one. -/
theorem take_any (bd : Nat) (l : List Sg) (r : Int) (w : World) (h : Rd w bd l) :
    Calls Try.prog 76 #[.pointer (some ⟨bd, 0, none⟩), .int .i32 r] w fun e w' => e = .returned (.bool (atB l r)) ∧ Rd w' bd (takeB l r) ∧ w.grownBy w' (some bd) := by
  cases hb : atB l r with
  | true => exact (take_yes bd l r w h hb).mono fun e w' q => ⟨q.1, by unfold takeB; rw [hb]; exact q.2.1, q.2.2⟩
  | false => exact (take_no bd l r w h hb).mono fun e w' q => ⟨q.1, by obtain ⟨_, rfl⟩ := q; unfold takeB; rw [hb]; exact ⟨h, grown_refl _ _⟩⟩
end Go.Proofs.Ytmidpekkomhogaa.Pat
end

section
/- Patterns: an item of a class; how often an atom may stand. -/

namespace Go.Proofs.Ytmidpekkomhogaa.Pat
open Go.RowKit

theorem Rd.kept {w w' : World} {bd : Nat} {l : List Sg} (h : Rd w bd l) (hb : Below w.heap.size w w') : Rd w' bd l := h.below hb
theorem Rd.cell {w : World} {bd : Nat} {l : List Sg} (h : Rd w bd l) : ∃ o cap, w.cell? ⟨bd, 0, none⟩ = some (.slice o l.length cap) ∧ l.length ≤ 1000000 ∧ w.frozen? ⟨bd, 0, none⟩ = false ∧ (l = [] ∨ ∃ b off, o = some ⟨b, off, none⟩ ∧ SigAt w b off l) := by
  obtain ⟨v, h1, o, cap, rfl, hc, hm, h2⟩ := h
  exact ⟨o, cap, by simp [World.cell?, h1], hm.1, by simp [World.frozen?, h1], h2.imp id fun ⟨b, off, e, _, hs⟩ => ⟨b, off, e, hs⟩⟩

theorem field74 (a b : Value) (W : World) : (Instr.field 141 (.agg #[a, b]) 0).run Try.prog W = .ok a W := by kernel_rfl
/-- A box of two cells that the call has made. -/
def Box (w : World) (k : Nat) (a b : Value) (t : TypeId) : Prop := w.heap[k]? = some (.cells #[a, b] t (0, 0))
theorem Box.reads {w : World} {k : Nat} {a b : Value} {t : TypeId} (h : Box w k a b t) : w.cell? ⟨k, 0, none⟩ = some a ∧ w.cell? ⟨k, 1, none⟩ = some b ∧ w.frozen? ⟨k, 0, none⟩ = false ∧ w.frozen? ⟨k, 1, none⟩ = false := by
  unfold Box at h
  refine ⟨?_, ?_, ?_, ?_⟩ <;> simp [World.cell?, World.frozen?, h]
theorem next_cont (bd k : Nat) (a b : Value) (ty : TypeId) (s : Sg) (t : List Sg) (w0 w : World) (h : Rd w bd (s :: t)) (hg : w0.grownBy w (some bd)) (hk : bd < k) (hb : Box w k a b ty) :
    Calls Try.prog 83 #[.pointer (some ⟨bd, 0, none⟩)] w fun e w' => e = .returned (.agg #[.int .i32 s.1, .bool s.2]) ∧ Hid (Rd w' bd t ∧ w0.grownBy w' (some bd) ∧ Box w' k a b ty) :=
  (next_any bd s t w h).mono fun _ _ q => ⟨q.1, q.2.1, grown_trans hg q.2.2, (q.2.2.block k (Array.getElem?_eq_some_iff.1 hb).1 (by simp; omega)).trans hb⟩

set_option maxHeartbeats 2000000 in
set_option maxRecDepth 100000 in
theorem item_any (bd : Nat) (s : Sg) (t : List Sg) (w : World) (h : Rd w bd (s :: t)) :
    Calls Try.prog 87 #[.pointer (some ⟨bd, 0, none⟩)] w fun e w' => e = .returned (.agg #[.int .i32 (itemF (s :: t)).1.1, .int .i32 (itemF (s :: t)).1.2]) ∧ Rd w' bd (itemF (s :: t)).2 ∧ w.grownBy w' (some bd) := by
  have hlt := h.lt
  have hbox : Box (w.alloc (.cells #[.int .i32 0, .int .i32 0] 159)) w.heap.size (.int .i32 0) (.int .i32 0) 159 := Array.getElem?_push_size
  have HNE := Lib.hid (next_cont bd w.heap.size _ _ _ s t w _ (h.alloc (.cells #[.int .i32 0, .int .i32 0] 159)) (grown_alloc (grown_refl _ _) _) hlt hbox)
  clear h hbox
  cases hat : atB t 45 with
  | false =>
    have HAT := Lib.hid hat
    have HI := Lib.hid (show itemF (s :: t) = ((s.1, s.1), t) by unfold itemF; dsimp only; rw [hat]; rfl)
    clear hat
    have hf := field74
    go_enter Try.func87, Try.ntmps87
    go_wp2_with fail
    refine HNE.out.mono ?_
    rintro e w1 ⟨rfl, H1⟩
    obtain ⟨r0, r1, f0, f1⟩ := H1.out.2.2.reads
    go_wp2_with fail
    refine (at_is bd t 45 false HAT.out _ H1.out.1).mono ?_
    rintro e w2 ⟨rfl, rfl⟩
    go_wp2
    rw [HI.out]
    refine bodyPost_ret (v := .agg #[.int .i32 s.1, .int .i32 s.1]) (by simp [results, Try.results87, go_sem, r0, r1]) rfl ⟨rfl, (H1.out.1.setNew hlt _ _).setNew hlt _ _, grown_setNew (grown_setNew H1.out.2.1 (Nat.le_refl _) _ _) (Nat.le_refl _) _ _⟩
  | true =>
    cases t with
    | nil => simp [atB] at hat
    | cons s1 t1 =>
      have HAT := Lib.hid hat
      clear hat
      cases t1 with
      | nil =>
        have HI := Lib.hid (show itemF [s, s1] = ((s.1, s.1), [s1]) by simp [itemF])
        have hf := field74
        go_enter Try.func87, Try.ntmps87
        go_wp2_with fail
        refine HNE.out.mono ?_
        rintro e w1 ⟨rfl, H1⟩
        obtain ⟨r0, r1, f0, f1⟩ := H1.out.2.2.reads
        obtain ⟨o, cap, hcell, _, _, _⟩ := H1.out.1.cell
        replace hcell : w1.cell? ⟨bd, 0, none⟩ = some (.slice o 1 cap) := hcell
        go_wp2_with fail
        refine (at_is bd [s1] 45 true HAT.out _ H1.out.1).mono ?_
        rintro e w2 ⟨rfl, rfl⟩
        go_wp2
        rw [HI.out]
        refine bodyPost_ret (v := .agg #[.int .i32 s.1, .int .i32 s.1]) (by simp [results, Try.results87, go_sem, r0, r1]) rfl ⟨rfl, (H1.out.1.setNew hlt _ _).setNew hlt _ _, grown_setNew (grown_setNew H1.out.2.1 (Nat.le_refl _) _ _) (Nat.le_refl _) _ _⟩
      | cons s2 t2 =>
        obtain ⟨x, hx⟩ : ∃ x, atB (s2 :: t2) 93 = x := ⟨_, rfl⟩
        have hx2 := hx
        simp only [atB] at hx2
        have HI := Lib.hid (show itemF (s :: s1 :: s2 :: t2) = if x then ((s.1, s.1), s1 :: s2 :: t2) else ((s.1, s2.1), t2) by
          have := HAT.out
          simp only [itemF, this]
          simp [hx]
          cases x <;> simp)
        have hf := field74
        obtain ⟨n, hn⟩ : ∃ n, (s1 :: s2 :: t2).length = n := ⟨_, rfl⟩
        have h2n : 2 ≤ n := by rw [← hn]; simp
        have i2 : (2 : Int) ≤ n := by omega
        have i1 : (1 : Int) < n := by omega
        have HN := Lib.hid hn
        clear hn hx
        cases x with
        | true =>
          have HX : s2.1 = 93 ∧ s2.2 = true := by simpa using hx2
          obtain ⟨x1, x2⟩ := HX
          have X1 := Lib.hid x1
          have X2 := Lib.hid x2
          clear hx2 x1 x2
          go_enter Try.func87, Try.ntmps87
          go_wp2_with fail
          refine HNE.out.mono ?_
          rintro e w1 ⟨rfl, H1⟩
          obtain ⟨r0, r1, f0, f1⟩ := H1.out.2.2.reads
          obtain ⟨o, cap, hcell, hm, _, h2⟩ := H1.out.1.cell
          rcases h2 with h2 | ⟨b, off, rfl, hs⟩
          · cases h2
          have c0 := hs.at0 1 s2 rfl
          have c1 := hs.at1 1 s2 rfl
          simp only [Nat.one_mul] at c0 c1
          rw [X1.out] at c0
          rw [X2.out] at c1
          rw [HN.out] at hcell hm
          clear hs
          go_wp2_with fail
          refine (at_is bd _ 45 true HAT.out _ H1.out.1).mono ?_
          rintro e w2 ⟨rfl, rfl⟩
          go_wp2
          rw [HI.out]
          refine bodyPost_ret (v := .agg #[.int .i32 s.1, .int .i32 s.1]) (by simp [results, Try.results87, go_sem, r0, r1]) rfl ⟨rfl, (H1.out.1.setNew hlt _ _).setNew hlt _ _, grown_setNew (grown_setNew H1.out.2.1 (Nat.le_refl _) _ _) (Nat.le_refl _) _ _⟩
        | false =>
          have HX := Lib.hid hx2
          clear hx2
          go_enter Try.func87, Try.ntmps87
          go_wp2_with fail
          refine HNE.out.mono ?_
          rintro e w1 ⟨rfl, H1⟩
          obtain ⟨o, cap, hcell, hm, _, h2⟩ := H1.out.1.cell
          rcases h2 with h2 | ⟨b, off, rfl, hs⟩
          · cases h2
          have c0 := hs.at0 1 s2 rfl
          have c1 := hs.at1 1 s2 rfl
          simp only [Nat.one_mul] at c0 c1
          rw [HN.out] at hcell hm
          clear hs
          obtain ⟨y1, hy1⟩ : ∃ y, s2.1 = y := ⟨_, rfl⟩
          obtain ⟨y2, hy2⟩ : ∃ y, s2.2 = y := ⟨_, rfl⟩
          have HXY := Lib.hid (show (y1 == 93 && y2) = false by rw [← hy1, ← hy2]; exact HX.out)
          rw [hy1] at c0
          rw [hy2] at c1
          have HY1 := Lib.hid hy1
          clear hy1 hy2 HX
          rcases (show (y1 == 93) = false ∨ (y1 = 93 ∧ y2 = false) by
            have := HXY.out
            cases h : (y1 == 93) with
            | false => exact .inl rfl
            | true => rw [h] at this; exact .inr ⟨by simpa using h, by simpa using this⟩) with hy | ⟨rfl, rfl⟩
          all_goals
            go_wp2_with fail
            refine (at_is bd _ 45 true HAT.out _ H1.out.1).mono ?_
            rintro e w2 ⟨rfl, rfl⟩
            go_wp2_with fail
            refine (next_cont bd w.heap.size _ _ _ s1 (s2 :: t2) w w1 H1.out.1 H1.out.2.1 hlt H1.out.2.2).mono ?_
            clear c0 c1 hcell
            rintro e w2 ⟨rfl, H2⟩
            go_wp2_with fail
            refine (next_cont bd w.heap.size _ _ _ s2 t2 w w2 H2.out.1 H2.out.2.1 hlt H2.out.2.2).mono ?_
            rintro e w3 ⟨rfl, H3⟩
            obtain ⟨r0, r1, f0, f1⟩ := H3.out.2.2.reads
            go_wp2
            rw [HI.out]
            refine bodyPost_ret (v := .agg #[.int .i32 s.1, .int .i32 s2.1]) (by simp [results, Try.results87, go_sem, r0, r1]) rfl ⟨rfl, (H3.out.1.setNew hlt _ _).setNew hlt _ _, grown_setNew (grown_setNew H3.out.2.1 (Nat.le_refl _) _ _) (Nat.le_refl _) _ _⟩
end Go.Proofs.Ytmidpekkomhogaa.Pat
end

section
/- The book of lists, first part: an append keeps every earlier view of the same row; the marks of a list. -/

namespace Go.Proofs.Ytmidpekkomhogaa
open Go.RowKit

section
variable {P : Program} (w : World)
/-- Behind an append onto an owned row each shorter view of a row of that kind is what it was. -/
theorem run_append_keeps (base : Nat) (t ty e : TypeId) (i : TypeInfo) (z : Value) (size bytes : Nat) (ht : P.underlying t = some (.slice e)) (hi : P.info? e = some i) (hz : i.zero = some z)
    (hsize : i.size = size) (hby : i.bytes = bytes) (hzs : z.cells.size = size) (hsz : 0 < size)
    (v : Value) (n : Nat) (xs : List Value) (hown : w.ownsRow base e size v n xs)
    (a : Addr) (m c : Nat) (news : List Value) (hl : news.length = m * size) (hnews : ∀ j u, news[j]? = some u → w.cell? (a.add j) = some u) (h1 : ∀ u ∈ news, u.oneCell' = true)
    (h63 : n + m ≤ maxLen) (hbytes : (n + m) * bytes ≤ 140737488355328) (hbase : base ≤ w.heap.size) :
    ∃ v' w', (Builtin.append_ #[t, t] ty #[v, .slice (some a) m c]).run P w = .ok v' w' ∧ w'.ownsRow base e size v' (n + m) (xs ++ news) ∧ w.grownBy w' v.ownBlock ∧
      (v'.ownBlock = v.ownBlock ∨ v'.ownBlock = some w.heap.size) ∧ ∀ b0 v0 n0 xs0, n0 ≤ n → w.ownsRow b0 e size v0 n0 xs0 → w'.ownsRow b0 e size v0 n0 xs0 := by
  obtain ⟨v', w', hr, h2, h3, _, h5⟩ := run_append_own_at (P := P) w base t ty e i z size bytes ht hi hz hsize hby hzs hsz v n xs hown a m c news hl hnews h1 h63 hbytes hbase
  refine ⟨v', w', hr, h2, h3, h5, ?_⟩
  intro b0 v0 n0 xs0 hn0 h0
  by_cases hb : v0.ownBlock = none ∨ v0.ownBlock ≠ v.ownBlock
  · exact h0.kept h3 hb
  have hb1 : v0.ownBlock ≠ none := fun h => hb (.inl h)
  have hb2 : v0.ownBlock = v.ownBlock := Classical.byContradiction fun h => hb (.inr h)
  subst hsize
  subst hby
  have hown2 := hown
  rcases hown2.2 with ⟨rfl, _⟩ | ⟨g, cap, cur, rfl, hbg, hg, hnc, hcm, hcs, htake⟩
  · exact absurd hb2 (by simpa [Value.ownBlock] using hb1)
  rcases h0.2 with ⟨rfl, _⟩ | ⟨g0, cap0, cur0, rfl, hbg0, hg0, hnc0, hcm0, hcs0, htake0⟩
  · exact absurd rfl hb1
  have hgg : g0 = g := by simpa [Value.ownBlock] using hb2
  subst hgg
  rw [hg] at hg0
  injection hg0 with hg0
  injection hg0 with hg0 _ _
  subst hg0
  have hbig : n0 * i.size ≤ n * i.size := Nat.mul_le_mul_right _ hn0
  by_cases hroom : n + m ≤ cap
  · have hfit : n * i.size + news.length ≤ cur.size := by rw [hl, hcs, ← Nat.add_mul]; exact Nat.mul_le_mul_right _ hroom
    have hr2 := run_append_room (P := P) w t ty e i ht hi g0 n cap cur hg a m c news hl hnews h1 hroom hfit
    rw [hr] at hr2
    injection hr2 with _ hw
    subst hw
    refine ⟨h0.1, .inr ⟨g0, cap0, _, rfl, hbg0, setRow_heap w g0 cur _ e _ hg, hnc0, hcm0, ?_, ?_⟩⟩
    · simp only [List.size_toArray, List.length_append, List.length_take, List.length_drop, Array.length_toList]
      omega
    · show ((cur.toList.take (n * i.size) ++ news ++ cur.toList.drop (n * i.size + news.length))).take (n0 * i.size) = xs0
      have hlt : (cur.toList.take (n * i.size)).length = n * i.size := by rw [List.length_take, Array.length_toList]; omega
      rw [List.append_assoc, List.take_append_of_le_length (by omega), List.take_take, Nat.min_eq_left hbig]
      exact htake0
  · have hsmall : n + m ≤ 9223372036854775807 := by simp only [maxLen] at h63; omega
    have holds : ∀ j u, xs[j]? = some u → w.cell? ((⟨g0, 0, none⟩ : Addr).add j) = some u := hown.cells (g := g0) rfl
    have hr2 := run_append_grow (P := P) w t ty e i z ht hi hz ⟨g0, 0, none⟩ n cap xs hown.1 holds a m c news hl hnews (by omega) (by omega) (growslice_fits (by omega) hbytes)
    rw [hr] at hr2
    injection hr2 with _ hw
    subst hw
    refine ⟨h0.1, .inr ⟨g0, cap0, cur, rfl, hbg0, ?_, hnc0, hcm0, hcs0, htake0⟩⟩
    rw [heap_alloc_old w.drew _ (Array.getElem?_eq_some_iff.1 hg).1]
    exact hg

theorem wp_append_keeps {o : Oper} {a : Act} {K : Act → World → Prop} {Q : Exit → Act → World → Prop} (s x : Operand) (t : TypeId)
    (ho : o.op = .call { callee := .builtin .append, args := #[s, x], argTypes := #[t, t] })
    (base : Nat) (e : TypeId) (i : TypeInfo) (z : Value) (size bytes : Nat) (ht : P.underlying t = some (.slice e)) (hi : P.info? e = some i) (hz : i.zero = some z)
    (hsize : i.size = size) (hby : i.bytes = bytes) (hzs : z.cells.size = size) (hsz : 0 < size)
    (v : Value) (n : Nat) (xs : List Value) (hs : a.eval s = v) (hown : w.ownsRow base e size v n xs)
    (ad : Addr) (m c : Nat) (news : List Value) (hx : a.eval x = .slice (some ad) m c) (hl : news.length = m * size) (hnews : ∀ j u, news[j]? = some u → w.cell? (ad.add j) = some u) (h1 : ∀ u ∈ news, u.oneCell' = true)
    (h63 : n + m ≤ maxLen) (hbytes : (n + m) * bytes ≤ 140737488355328) (hbase : base ≤ w.heap.size)
    (h : ∀ v' w', w'.ownsRow base e size v' (n + m) (xs ++ news) → w.grownBy w' v.ownBlock → (v'.ownBlock = v.ownBlock ∨ v'.ownBlock = some w.heap.size) → (∀ b0 v0 n0 xs0, n0 ≤ n → w.ownsRow b0 e size v0 n0 xs0 → w'.ownsRow b0 e size v0 n0 xs0) → K (a.put o.dst v') w') : o.wp P a w K Q := by
  obtain ⟨v', w', hr, h2, h3, h4, h5⟩ := run_append_keeps (P := P) w base t o.type e i z size bytes ht hi hz hsize hby hzs hsz v n xs hown ad m c news hl hnews h1 h63 hbytes hbase
  unfold Oper.wp execOp
  simp only [ho, resolve, invoke, builtin, Sem.run_bind, Sem.run_pure, Result.andThen_ok, List.map_toArray, List.map_cons, List.map_nil, hs, hx, hr]
  exact h v' w' h2 h3 h4 h5

theorem wpList_append_keeps {ops : Array Oper} {rest : List Oper} {o : Oper} {a : Act} {Q : Exit → Act → World → Prop} (hgd : o.guard = none) (s x : Operand) (t : TypeId)
    (ho : o.op = .call { callee := .builtin .append, args := #[s, x], argTypes := #[t, t] })
    (base : Nat) (e : TypeId) (i : TypeInfo) (z : Value) (size bytes : Nat) (ht : P.underlying t = some (.slice e)) (hi : P.info? e = some i) (hz : i.zero = some z)
    (hsize : i.size = size) (hby : i.bytes = bytes) (hzs : z.cells.size = size) (hsz : 0 < size)
    (v : Value) (n : Nat) (xs : List Value) (hs : a.eval s = v) (hown : w.ownsRow base e size v n xs)
    (ad : Addr) (m c : Nat) (news : List Value) (hx : a.eval x = .slice (some ad) m c) (hl : news.length = m * size) (hnews : ∀ j u, news[j]? = some u → w.cell? (ad.add j) = some u) (h1 : ∀ u ∈ news, u.oneCell' = true)
    (h63 : n + m ≤ maxLen) (hbytes : (n + m) * bytes ≤ 140737488355328) (hbase : base ≤ w.heap.size)
    (h : ∀ v' w', w'.ownsRow base e size v' (n + m) (xs ++ news) → w.grownBy w' v.ownBlock → (v'.ownBlock = v.ownBlock ∨ v'.ownBlock = some w.heap.size) → (∀ b0 v0 n0 xs0, n0 ≤ n → w.ownsRow b0 e size v0 n0 xs0 → w'.ownsRow b0 e size v0 n0 xs0) → wpList P ops Q rest (a.put o.dst v') w') : wpList P ops Q (o :: rest) a w :=
  wpList_plain hgd fun _ hK => wp_append_keeps w s x t ho base e i z size bytes ht hi hz hsize hby hzs hsz v n xs hs hown ad m c news hx hl hnews h1 h63 hbytes hbase fun v' w' h2 h3 h4 h5 => hK _ _ (h v' w' h2 h3 h4 h5)
end
end Go.Proofs.Ytmidpekkomhogaa
end

section
/- Patterns: parts in memory; how often an atom may stand. -/

namespace Go.Proofs.Ytmidpekkomhogaa.Pat
open Go.RowKit

/-- A slice that reads as these values, of one cell each. -/
def SeesV (w : World) (P : Nat → Prop) (o : Option Addr) (vs : List Value) : Prop := vs = [] ∨ ∃ b off, o = some ⟨b, off, none⟩ ∧ P b ∧ b < w.heap.size ∧ ∀ (j : Nat) v, vs[j]? = some v → w.cell? ⟨b, off + j, none⟩ = some v
/-- A slice that reads as these items. -/
def SeesI (w : World) (P : Nat → Prop) (o : Option Addr) (xs : List (Int × Int)) : Prop := xs = [] ∨ ∃ b off, o = some ⟨b, off, none⟩ ∧ P b ∧ b < w.heap.size ∧ ∀ (j : Nat) x, xs[j]? = some x → w.cell? ⟨b, off + j * 2, none⟩ = some (.int .i32 x.1) ∧ w.cell? ⟨b, off + j * 2 + 1, none⟩ = some (.int .i32 x.2)
/-- A value that is a part, in blocks of which P holds. -/
inductive Tree (w : World) (P : Nat → Prop) : Value → Pt → Prop
  | only (r : Int) : Tree w P (.iface 148 (.int .i32 r)) (.only r)
  | dot : Tree w P (.iface 155 (.agg #[])) .dot
  | cls (neg : Bool) (o : Option Addr) (n cap : Nat) (xs : List (Int × Int)) (hn : xs.length = n) (hm : n ≤ 2000000) (h : SeesI w P o xs) : Tree w P (.iface 152 (.agg #[.bool neg, .slice o n cap])) (.cls neg xs)
  | times (v : Value) (x : Pt) (a b : Bool) (h : Tree w P v x) : Tree w P (.iface 135 (.agg #[v, .bool a, .bool b])) (.times x a b)
  | choice (o : Option Addr) (n cap : Nat) (vs : List Value) (l : List Pt) (hn : vs.length = n) (hl : l.length = n) (hm : n ≤ 2000000) (h : SeesV w P o vs) (ht : ∀ (j : Nat) v x, vs[j]? = some v → l[j]? = some x → Tree w P v x) : Tree w P (.iface 128 (.slice o n cap)) (.choice l)
  | chain (o : Option Addr) (n cap : Nat) (vs : List Value) (l : List Pt) (hn : vs.length = n) (hl : l.length = n) (hm : n ≤ 2000000) (h : SeesV w P o vs) (ht : ∀ (j : Nat) v x, vs[j]? = some v → l[j]? = some x → Tree w P v x) : Tree w P (.iface 131 (.slice o n cap)) (.chain l)

theorem lt_keep {w w' : World} {b : Nat} (hl : b < w.heap.size) (h : w'.heap[b]? = w.heap[b]?) : b < w'.heap.size := (Array.getElem?_eq_some_iff.1 (h.trans (Array.getElem?_eq_getElem hl))).1
theorem SeesV.keep {w w' : World} {P Q : Nat → Prop} {o : Option Addr} {vs : List Value} (h : SeesV w P o vs) (hk : ∀ b, P b → b < w.heap.size → w'.heap[b]? = w.heap[b]? ∧ Q b) : SeesV w' Q o vs :=
  h.imp id fun ⟨b, off, e, hp, hl, hs⟩ => ⟨b, off, e, (hk b hp hl).2, lt_keep hl (hk b hp hl).1, fun j v hv => (World.cell?_of_block (a := ⟨b, off + j, none⟩) (hk b hp hl).1).trans (hs j v hv)⟩
theorem SeesI.keep {w w' : World} {P Q : Nat → Prop} {o : Option Addr} {xs : List (Int × Int)} (h : SeesI w P o xs) (hk : ∀ b, P b → b < w.heap.size → w'.heap[b]? = w.heap[b]? ∧ Q b) : SeesI w' Q o xs :=
  h.imp id fun ⟨b, off, e, hp, hl, hs⟩ => ⟨b, off, e, (hk b hp hl).2, lt_keep hl (hk b hp hl).1, fun j x hx => ⟨(World.cell?_of_block (a := ⟨b, off + j * 2, none⟩) (hk b hp hl).1).trans (hs j x hx).1, (World.cell?_of_block (a := ⟨b, off + j * 2 + 1, none⟩) (hk b hp hl).1).trans (hs j x hx).2⟩⟩
theorem Tree.keep {w w' : World} {P Q : Nat → Prop} {v : Value} {x : Pt} (h : Tree w P v x) (hk : ∀ b, P b → b < w.heap.size → w'.heap[b]? = w.heap[b]? ∧ Q b) : Tree w' Q v x := by
  induction h with
  | only r => exact .only r
  | dot => exact .dot
  | cls neg o n cap xs hn hm h => exact .cls neg o n cap xs hn hm (h.keep hk)
  | times v x a b _ ih => exact .times v x a b ih
  | choice o n cap vs l hn hl hm h _ ih => exact .choice o n cap vs l hn hl hm (h.keep hk) ih
  | chain o n cap vs l hn hl hm h _ ih => exact .chain o n cap vs l hn hl hm (h.keep hk) ih
/-- What is owned from B on is kept where only block bd, below B, is written. -/
theorem Tree.grown {w w' : World} {P : Nat → Prop} {v : Value} {x : Pt} {bd : Nat} (h : Tree w P v x) (hg : w.grownBy w' (some bd)) (hP : ∀ b, P b → b ≠ bd) : Tree w' P v x :=
  h.keep fun b hp hl => ⟨hg.block b hl (by simpa using hP b hp), hp⟩

theorem Tree.iface {w : World} {P : Nat → Prop} {v : Value} {x : Pt} (h : Tree w P v x) : ∃ t u, v = .iface t u := by
  cases h <;> exact ⟨_, _, rfl⟩

set_option maxHeartbeats 2000000 in
set_option maxRecDepth 100000 in
theorem times_any (bd : Nat) (l : List Sg) (v : Value) (x : Pt) (P : Nat → Prop) (w : World) (h : Rd w bd l) (ht : Tree w P v x) (hP : ∀ b, P b → b ≠ bd) :
    Calls Try.prog 82 #[.pointer (some ⟨bd, 0, none⟩), v] w fun e w' => (∃ u, e = .returned u ∧ Tree w' P u (timesF x l)) ∧ Rd w' bd (timesR l) ∧ w.grownBy w' (some bd) := by
  obtain ⟨t, u, rfl⟩ := ht.iface
  have HR := Lib.hid h
  have HT := Lib.hid ht
  have HP := Lib.hid hP
  clear h ht hP
  cases h1 : atB l 42 with
  | true =>
    have HF := Lib.hid (show timesF x l = .times x true true ∧ timesR l = l.tail by unfold timesF timesR; rw [h1]; exact ⟨rfl, rfl⟩)
    have H1 := Lib.hid h1
    clear h1
    go_enter Try.func82, Try.ntmps82
    go_wp2_with fail
    refine (take_yes bd l 42 w HR.out H1.out).mono ?_
    rintro e w1 ⟨rfl, hr, hg⟩
    have HR1 := Lib.hid hr
    have HG1 := Lib.hid hg
    clear hr hg
    go_wp2
    go_ret
    rw [HF.out.1, HF.out.2]
    exact ⟨⟨_, rfl, .times _ x true true (HT.out.grown HG1.out HP.out)⟩, HR1.out, HG1.out⟩
  | false =>
    cases h2 : atB l 43 with
    | true =>
      have HF := Lib.hid (show timesF x l = .times x false true ∧ timesR l = l.tail by unfold timesF timesR; rw [h1, h2]; exact ⟨rfl, rfl⟩)
      have H1 := Lib.hid h1
      have H2 := Lib.hid h2
      clear h1 h2
      go_enter Try.func82, Try.ntmps82
      go_wp2_with fail
      refine (take_no bd l 42 w HR.out H1.out).mono ?_
      rintro e w1 ⟨rfl, rfl⟩
      go_wp2_with fail
      refine (take_yes bd l 43 w HR.out H2.out).mono ?_
      rintro e w1 ⟨rfl, hr, hg⟩
      have HR1 := Lib.hid hr
      have HG1 := Lib.hid hg
      clear hr hg
      go_wp2
      go_ret
      rw [HF.out.1, HF.out.2]
      exact ⟨⟨_, rfl, .times _ x false true (HT.out.grown HG1.out HP.out)⟩, HR1.out, HG1.out⟩
    | false =>
      cases h3 : atB l 63 with
      | true =>
        have HF := Lib.hid (show timesF x l = .times x true false ∧ timesR l = l.tail by unfold timesF timesR; rw [h1, h2, h3]; exact ⟨rfl, rfl⟩)
        have H1 := Lib.hid h1
        have H2 := Lib.hid h2
        have H3 := Lib.hid h3
        clear h1 h2 h3
        go_enter Try.func82, Try.ntmps82
        go_wp2_with fail
        refine (take_no bd l 42 w HR.out H1.out).mono ?_
        rintro e w1 ⟨rfl, rfl⟩
        go_wp2_with fail
        refine (take_no bd l 43 w HR.out H2.out).mono ?_
        rintro e w1 ⟨rfl, rfl⟩
        go_wp2_with fail
        refine (take_yes bd l 63 w HR.out H3.out).mono ?_
        rintro e w1 ⟨rfl, hr, hg⟩
        have HR1 := Lib.hid hr
        have HG1 := Lib.hid hg
        clear hr hg
        go_wp2
        go_ret
        rw [HF.out.1, HF.out.2]
        exact ⟨⟨_, rfl, .times _ x true false (HT.out.grown HG1.out HP.out)⟩, HR1.out, HG1.out⟩
      | false =>
        have HF := Lib.hid (show timesF x l = x ∧ timesR l = l by unfold timesF timesR; rw [h1, h2, h3]; exact ⟨rfl, rfl⟩)
        have H1 := Lib.hid h1
        have H2 := Lib.hid h2
        have H3 := Lib.hid h3
        clear h1 h2 h3
        go_enter Try.func82, Try.ntmps82
        go_wp2_with fail
        refine (take_no bd l 42 w HR.out H1.out).mono ?_
        rintro e w1 ⟨rfl, rfl⟩
        go_wp2_with fail
        refine (take_no bd l 43 w HR.out H2.out).mono ?_
        rintro e w1 ⟨rfl, rfl⟩
        go_wp2_with fail
        refine (take_no bd l 63 w HR.out H3.out).mono ?_
        rintro e w1 ⟨rfl, rfl⟩
        go_wp2
        go_ret
        rw [HF.out.1, HF.out.2]
        exact ⟨⟨_, rfl, HT.out⟩, HR.out, grown_refl _ _⟩
end Go.Proofs.Ytmidpekkomhogaa.Pat
end

section
/- Patterns: a class. -/

namespace Go.Proofs.Ytmidpekkomhogaa.Pat
open Go.RowKit

theorem info92 : (Try.prog.info? 159).map (fun i => (i.zero, i.size, i.bytes)) = some (some (.agg #[.int .i32 0, .int .i32 0]), 2, 8) := by kernel_rfl
/-- The cells of items. -/
def flatI (xs : List (Int × Int)) : List Value := xs.flatMap fun x => [.int .i32 x.1, .int .i32 x.2]
theorem flatI_snoc (xs : List (Int × Int)) (x : Int × Int) : flatI (xs ++ [x]) = flatI xs ++ [.int .i32 x.1, .int .i32 x.2] := by simp [flatI]
theorem flatI_at : ∀ (xs : List (Int × Int)) (j : Nat) (x : Int × Int), xs[j]? = some x → (flatI xs)[j * 2]? = some (.int .i32 x.1) ∧ (flatI xs)[j * 2 + 1]? = some (.int .i32 x.2)
  | [], j, x, h => by simp at h
  | y :: ys, 0, x, h => by simp at h; subst h; exact ⟨rfl, rfl⟩
  | y :: ys, j + 1, x, h => by
    have := flatI_at ys j x (by simpa using h)
    have e : flatI (y :: ys) = [.int .i32 y.1, .int .i32 y.2] ++ flatI ys := rfl
    rw [e, List.getElem?_append_right (by simp; omega), List.getElem?_append_right (by simp; omega)]
    simp only [List.length_cons, List.length_nil]
    rw [show (j + 1) * 2 - (0 + 1 + 1) = j * 2 by omega, show (j + 1) * 2 + 1 - (0 + 1 + 1) = j * 2 + 1 by omega]
    exact this
theorem own_seesI {w : World} {B n : Nat} {v : Value} {xs : List (Int × Int)} (h : w.ownsRow B 159 2 v n (flatI xs)) (hn : xs.length = n) : ∃ o cap, v = .slice o n cap ∧ SeesI w (fun b => B ≤ b) o xs := by
  rcases h.2 with ⟨rfl, h0⟩ | ⟨g, cap, cur, rfl, hB, hg, _⟩
  · subst h0
    exact ⟨none, 0, rfl, .inl (List.eq_nil_of_length_eq_zero hn)⟩
  · have hl := (Array.getElem?_eq_some_iff.1 hg).1
    refine ⟨_, cap, rfl, .inr ⟨g, 0, rfl, hB, hl, fun j x hx => ?_⟩⟩
    obtain ⟨h1, h2⟩ := flatI_at xs j x hx
    have c := h.cells (g := g) rfl
    have c1 := c _ _ h1
    have c2 := c _ _ h2
    simp only [Addr.add_lit] at c1 c2
    exact ⟨c1, c2⟩
/-- What a call that reads leaves. -/
def Res (w : World) (bd : Nat) (r : Option (Pt × List Sg)) (e : Ending) (w' : World) : Prop := match r with
  | some (x, m) => ∃ v, e = .returned (.tuple #[v, .bool true]) ∧ Tree w' (fun b => w.heap.size ≤ b) v x ∧ Rd w' bd m ∧ w.grownBy w' (some bd)
  | none => ∃ v, e = .returned (.tuple #[v, .bool false]) ∧ w.grownBy w' (some bd)
theorem cells_2 (w : World) (a b : Value) (t : TypeId) : ∀ j u, [a, b][j]? = some u → (w.alloc (.cells #[a, b] t)).cell? ((⟨w.heap.size, 0, none⟩ : Addr).add j) = some u := by
  intro j u hj
  match j, hj with
  | 0, hj => simp at hj; subst hj; simp [Addr.add]
  | 1, hj => simp at hj; subst hj; simp [Addr.add]
  | j + 2, hj => simp at hj
theorem cells_2k (w : World) (a b : Value) (t : TypeId) (k : Nat) (hk : w.heap.size = k) : ∀ j u, [a, b][j]? = some u → (w.alloc (.cells #[a, b] t)).cell? ((⟨k, 0, none⟩ : Addr).add j) = some u := by
  subst hk; exact cells_2 w a b t
theorem one_2i (a b : Int) : ∀ v ∈ [Value.int .i32 a, Value.int .i32 b], v.oneCell' = true := by
  intro v hv; simp at hv; rcases hv with rfl | rfl <;> rfl

theorem own_shape {w : World} {B e size n : Nat} {v : Value} {xs : List Value} (h : w.ownsRow B e size v n xs) : ∃ o c, v = .slice o n c := by
  rcases h.2 with ⟨rfl, rfl⟩ | ⟨g, cap, cur, rfl, _⟩
  · exact ⟨_, _, rfl⟩
  · exact ⟨_, _, rfl⟩
/-- The class that is being read. -/
structure ClsAt (w0 : World) (bd kc : Nat) (neg : Bool) (t : Option (List (Int × Int) × List Sg)) (wr : World) (l : List Sg) (acc : List (Int × Int)) (v : Value) : Prop where
  rd : Rd wr bd l
  grown : w0.grownBy wr (some bd)
  box : Box wr kc (.bool neg) v 152
  own : wr.ownsRow (kc + 1) 159 2 v acc.length (flatI acc)
  same : itemsP l acc = t
  few : acc.length + l.length ≤ 1000000
  base : w0.heap.size ≤ kc
  far : bd < w0.heap.size

def ClsLoop (w0 : World) (bd kc : Nat) (neg : Bool) (t : Option (List (Int × Int) × List Sg)) (k : Nat) (wr : World) : Prop := ∃ l acc v, l.length = k ∧ ClsAt w0 bd kc neg t wr l acc v

theorem cls_append {w0 w3 w5 : World} {bd kc n : Nat} {a v : Value} {b b' : Obj} {xs : List Value} (h : Box w3 kc a v 152 ∧ w3.ownsRow (kc + 1) 159 2 v n xs ∧ w0.grownBy w3 (some bd) ∧ kc < w3.heap.size) (ho : ((w3.alloc b).alloc b').ownsRow (kc + 1) 159 2 v n xs)
    (hg : ((w3.alloc b).alloc b').grownBy w5 v.ownBlock) : Box w5 kc a v 152 := by
  have hk := h.2.2.2
  unfold Box
  rw [hg.block kc (by simp; omega) (fun e => by have := (ho.lt kc e.symm).1; omega), Below.heap_alloc _ _ _ (by simp; omega), Below.heap_alloc _ _ _ hk]
  exact h.1
theorem ClsAt.after {w0 : World} {bd kc : Nat} {neg : Bool} {t : Option (List (Int × Int) × List Sg)} {wr w3 : World} {l : List Sg} {acc : List (Int × Int)} {v : Value} (h : ClsAt w0 bd kc neg t wr l acc v) (hg : wr.grownBy w3 (some bd)) :
    Box w3 kc (.bool neg) v 152 ∧ w3.ownsRow (kc + 1) 159 2 v acc.length (flatI acc) ∧ w0.grownBy w3 (some bd) ∧ kc < w3.heap.size := by
  have hk := (Array.getElem?_eq_some_iff.1 h.box).1
  have hf := h.far
  have hb := h.base
  refine ⟨(hg.block kc hk (by simp; omega)).trans h.box, h.own.kept hg ?_, grown_trans h.grown hg, Nat.lt_of_lt_of_le hk hg.size⟩
  cases ho : v.ownBlock with
  | none => exact .inl rfl
  | some g =>
    have := (h.own.lt g ho).1
    exact .inr (by simp; omega)

theorem grown_own {a b c : World} {r : Option Nat} {v : Value} (h : a.grownBy b r) (g : b.grownBy c v.ownBlock) (hv : ∀ k, v.ownBlock = some k → a.heap.size ≤ k) : a.grownBy c r :=
  ⟨g.os.trans h.os, g.tape.trans h.tape, g.output.trans h.output, Nat.le_trans h.size g.size, fun i hi hr => (g.block i (Nat.lt_of_lt_of_le hi h.size) (fun e => by have := hv i e.symm; omega)).trans (h.block i hi hr)⟩
theorem Rd.grownOwn {w w' : World} {bd : Nat} {l : List Sg} {v : Value} (h : Rd w bd l) (g : w.grownBy w' v.ownBlock) (hv : ∀ k, v.ownBlock = some k → bd < k) : Rd w' bd l :=
  h.keep fun k hk => g.block k (Nat.lt_of_le_of_lt hk h.lt) (fun e => by have := hv k e.symm; omega)
theorem cls_next {w0 wr w3 w5 : World} {bd kc : Nat} {neg : Bool} {t : Option (List (Int × Int) × List Sg)} {s : Sg} {m m2 : List Sg} {acc : List (Int × Int)} {v u : Value} {x1 x2 : Int} {b b' : Obj}
    (h : ClsAt w0 bd kc neg t wr (s :: m) acc v) (hat : atB (s :: m) 93 = false) (hit : itemF (s :: m) = ((x1, x2), m2)) (hgt : ¬ x2 < x1) (hm : m2.length < (s :: m).length) (hr : Rd w3 bd m2)
    (ha : Box w3 kc (.bool neg) v 152 ∧ w3.ownsRow (kc + 1) 159 2 v acc.length (flatI acc) ∧ w0.grownBy w3 (some bd) ∧ kc < w3.heap.size)
    (ho : ((w3.alloc b).alloc b').ownsRow (kc + 1) 159 2 v acc.length (flatI acc))
    (h5 : w5.ownsRow (kc + 1) 159 2 u (acc.length + 1) (flatI acc ++ [.int .i32 x1, .int .i32 x2]) ∧ ((w3.alloc b).alloc b').grownBy w5 v.ownBlock) : ClsLoop w0 bd kc neg t m2.length (w5.setCell ⟨kc, 1, none⟩ u) := by
  have hfar := h.far
  have hbase := h.base
  have hown : ∀ k, v.ownBlock = some k → kc + 1 ≤ k := fun k hk => (ho.lt k hk).1
  refine ⟨m2, acc ++ [(x1, x2)], u, rfl, ?_, ?_, ?_, ?_, ?_, ?_, hbase, hfar⟩
  · exact (((hr.alloc b).alloc b').grownOwn h5.2 (fun k hk => by have := hown k hk; omega)).setNew (by omega) _ _
  · exact grown_setNew (grown_own (grown_alloc (grown_alloc ha.2.2.1 b) b') h5.2 (fun k hk => by have := hown k hk; omega)) hbase _ _
  · have := cls_append ha ho h5.2
    have h2 := heap_setCell_same w5 kc 1 _ 152 u this
    exact h2
  · rw [List.length_append, flatI_snoc]
    exact ownsRow_setCell_below h5.1 (a := ⟨kc, 1, none⟩) (Nat.lt_succ_self kc) u
  · rw [← h.same, itemsP_eq (s :: m), hat, hit]
    simp [hgt]
  · have := h.few
    simp only [List.length_append, List.length_cons, List.length_nil] at this hm ⊢
    omega

theorem cls_res {w0 wr wq : World} {bd kc na c : Nat} {o : Option Addr} {neg : Bool} {t : Option (List (Int × Int) × List Sg)} {l m : List Sg} {acc : List (Int × Int)}
    (h : ClsAt w0 bd kc neg t wr l acc (.slice o acc.length c)) (hn : acc.length = na) (hq : Rd wq bd m ∧ wr.grownBy wq (some bd)) :
    Res w0 bd (if 0 < na then some (.cls neg acc, m) else none) (.returned (.tuple #[.iface 152 (.agg #[.bool neg, .slice o na c]), .bool (decide (0 < na))])) wq := by
  subst hn
  obtain ⟨_, h2, h3, _⟩ := h.after hq.2
  by_cases h0 : 0 < acc.length
  · rw [if_pos h0]
    obtain ⟨o', c', e, hs⟩ := own_seesI h2 rfl
    injection e with e1 _ e3
    subst e1; subst e3
    have hb := h.base
    have hf := h.few
    exact ⟨_, by simp [h0], .cls neg o _ c acc rfl (by omega) (hs.imp id fun ⟨b, off, e, hp, r⟩ => ⟨b, off, e, by omega, r⟩), hq.1, h3⟩
  · rw [if_neg h0]
    exact ⟨.iface 152 (.agg #[.bool neg, .slice o acc.length c]), by simp [h0], h3⟩

set_option maxHeartbeats 4000000 in
set_option maxRecDepth 100000 in
theorem class_any (bd : Nat) (l : List Sg) (w : World) (h : Rd w bd l) :
    Calls Try.prog 85 #[.pointer (some ⟨bd, 0, none⟩)] w (Res w bd (classP l)) := by
  obtain ⟨ie, hi, hz0, hz1, hz2⟩ := info_parts info92
  have hlt := h.lt
  have HR := Lib.hid h
  clear h
  obtain ⟨neg, hneg⟩ : ∃ b, atB l 94 = b := ⟨_, rfl⟩
  obtain ⟨l1, hl1⟩ : ∃ m, takeB l 94 = m := ⟨_, rfl⟩
  have HT := Lib.hid (show Calls Try.prog 76 #[.pointer (some ⟨bd, 0, none⟩), .int .i32 94] w fun e w' => e = .returned (.bool neg) ∧ Hid (Rd w' bd l1 ∧ w.grownBy w' (some bd)) by
    rw [← hneg, ← hl1]; exact (take_any bd l 94 w HR.out).mono fun _ _ q => ⟨q.1, q.2⟩)
  have HNEG := Lib.hid hneg
  have HL1 := Lib.hid hl1
  clear hneg hl1
  go_enter Try.func85, Try.ntmps85
  go_wp2_with fail
  refine HT.out.mono ?_
  rintro e w1 ⟨rfl, H1⟩
  have hk := H1.out.2.size
  go_wp2_with fail
  obtain ⟨kc, hkc⟩ : ∃ kc, w1.heap.size = kc := ⟨_, rfl⟩
  obtain ⟨t, ht⟩ : ∃ t, itemsP l1 [] = t := ⟨_, rfl⟩
  have HST : ClsLoop w bd kc neg t l1.length (w1.alloc (Obj.cells #[.bool neg, .slice none 0 0] 152)) :=
    ⟨l1, [], _, rfl, H1.out.1.alloc _, grown_alloc H1.out.2 _, by rw [← hkc]; exact Array.getElem?_push_size, World.ownsRow_nil _ _ _ _, ht, by
      obtain ⟨_, _, _, hm, _⟩ := H1.out.1.cell; simpa using hm, by omega, hlt⟩
  have HTT := Lib.hid ht
  have HKC := Lib.hid hkc
  rw [hkc]
  clear ht hkc
  go_loopg [5] l1.length (fun k _ wr => ClsLoop w bd kc neg t k wr)
  case atStart => exact HST
  case round =>
    clear HST
    obtain ⟨l2, acc, v, rfl, H⟩ := hrel
    have hkl : bd < kc := Nat.lt_of_lt_of_le H.far H.base
    have hB := H.box
    obtain ⟨r0, r1, f0, f1⟩ := hB.reads
    cases hl : l2 with
    | nil =>
      subst hl
      obtain ⟨o, cap, hcell, _⟩ := H.rd.cell
      replace hcell : wr.cell? ⟨bd, 0, none⟩ = some (.slice o 0 cap) := hcell
      obtain ⟨o', c', hv⟩ := own_shape H.own
      subst hv
      obtain ⟨na, hna⟩ : ∃ n, acc.length = n := ⟨_, rfl⟩
      rw [hna] at r1
      have HTK := Lib.hid (show Calls Try.prog 76 #[.pointer (some ⟨bd, 0, none⟩), .int .i32 93] wr.drew fun e w' => e = .returned (.bool false) ∧ w'.cell? ⟨kc, 0, none⟩ = some (.bool neg) ∧ w'.cell? ⟨kc, 1, none⟩ = some (.slice o' na c') ∧ Hid (wr.grownBy w' (some bd)) by
        have hb : Below wr.heap.size wr wr.drew := (Below.refl _ _).drew
        refine (take_no bd _ 93 wr.drew (H.rd.below hb) rfl).mono fun e w' q => ?_
        obtain ⟨q1, rfl⟩ := q
        exact ⟨q1, r0, r1, grown_of_below hb (some bd)⟩)
      have HCP := Lib.hid (show classP l = none by
        unfold classP
        rw [HL1.out, HTT.out, ← H.same, itemsP_eq]
        simp [atB])
      have HG := Lib.hid H.grown
      clear H hB hna
      go_wp2_with fail
      refine wp_region_any (by kernel_rfl) ?_
      change wpAny _ _ _ _ _ _ _ (World.drew _)
      refine wpAny_take (i := 2) (v := ?_) rfl (by kernel_rfl) (by kernel_rfl) (by kernel_rfl) (fun _ _ _ h => h) (Or.inl ⟨by kernel_rfl, by intro w; go_simp; try with_reducible rfl⟩) ?_
      go_simp
      refine wpAny_ready (rs := [0, 3]) (by kernel_rfl) (by simp) ?_
      refine AllReady.cons rfl (fun K hK => ?_) (AllReady.cons rfl (fun K hK => ?_) AllReady.nil)
      · go_simp
        refine hK _ _ ?_
        clear hK K
        refine wpAny_take (i := 1) (v := ?_) rfl (by kernel_rfl) (by kernel_rfl) (by kernel_rfl) (fun _ _ _ h => h) (Or.inl ⟨by kernel_rfl, by intro w; go_simp; try with_reducible rfl⟩) ?_
        go_simp
        refine wpAny_ready (rs := [3]) (by kernel_rfl) (by simp) ?_
        refine AllReady.cons rfl (fun K hK => ?_) AllReady.nil
        go_simp
        refine HTK.out.mono ?_; rintro e wq ⟨rfl, s1, s2, s3⟩
        go_simp
        refine hK _ _ ?_
        clear hK K
        refine wpAny_take (i := 4) (v := ?_) rfl (by kernel_rfl) (by kernel_rfl) (by kernel_rfl) (fun _ _ _ h => h) (Or.inl ⟨by kernel_rfl, by intro w; go_simp; try with_reducible rfl⟩) ?_
        go_simp
        refine wpAny_take (i := 5) (v := undef) rfl (by kernel_rfl) (by kernel_rfl) (by kernel_rfl) (fun _ _ _ h => h) (Or.inr ⟨by kernel_rfl, rfl⟩) ?_
        go_simp
        refine wpAny_take (i := 6) (v := undef) rfl (by kernel_rfl) (by kernel_rfl) (by kernel_rfl) (fun _ _ _ h => h) (Or.inr ⟨by kernel_rfl, rfl⟩) ?_
        go_simp
        refine wpAny_take (i := 7) (v := undef) rfl (by kernel_rfl) (by kernel_rfl) (by kernel_rfl) (fun _ _ _ h => h) (Or.inr ⟨by kernel_rfl, rfl⟩) ?_
        go_simp
        refine wpAny_take (i := 8) (v := undef) rfl (by kernel_rfl) (by kernel_rfl) (by kernel_rfl) (fun _ _ _ h => h) (Or.inr ⟨by kernel_rfl, rfl⟩) ?_
        go_simp
        refine wpAny_take (i := 9) (v := ?_) rfl (by kernel_rfl) (by kernel_rfl) (by kernel_rfl) (fun _ _ _ h => h) (Or.inl ⟨by kernel_rfl, by intro w; go_simp; try with_reducible rfl⟩) ?_
        go_simp
        refine wpAny_take (i := 10) (v := ?_) rfl (by kernel_rfl) (by kernel_rfl) (by kernel_rfl) (fun _ _ _ h => h) (Or.inl ⟨by kernel_rfl, by intro w; go_simp; try with_reducible rfl⟩) ?_
        go_simp
        refine wpAny_take (i := 11) (v := ?_) rfl (by kernel_rfl) (by kernel_rfl) (by kernel_rfl) (fun _ _ _ h => h) (Or.inl ⟨by kernel_rfl, by intro w; go_simp; try with_reducible rfl⟩) ?_
        go_simp
        refine wpAny_done (by kernel_rfl) ?_ _
        go_wp2
        go_ret2
        rw [HCP.out]
        exact ⟨_, rfl, grown_trans HG.out s3.out⟩
      · go_simp
        refine HTK.out.mono ?_; rintro e wq ⟨rfl, s1, s2, s3⟩
        go_simp
        refine hK _ _ ?_
        clear hK K
        refine wpAny_take (i := 4) (v := ?_) rfl (by kernel_rfl) (by kernel_rfl) (by kernel_rfl) (fun _ _ _ h => h) (Or.inl ⟨by kernel_rfl, by intro w; go_simp; try with_reducible rfl⟩) ?_
        go_simp
        refine wpAny_take (i := 5) (v := undef) rfl (by kernel_rfl) (by kernel_rfl) (by kernel_rfl) (fun _ _ _ h => h) (Or.inr ⟨by kernel_rfl, rfl⟩) ?_
        go_simp
        refine wpAny_take (i := 6) (v := undef) rfl (by kernel_rfl) (by kernel_rfl) (by kernel_rfl) (fun _ _ _ h => h) (Or.inr ⟨by kernel_rfl, rfl⟩) ?_
        go_simp
        refine wpAny_take (i := 7) (v := undef) rfl (by kernel_rfl) (by kernel_rfl) (by kernel_rfl) (fun _ _ _ h => h) (Or.inr ⟨by kernel_rfl, rfl⟩) ?_
        go_simp
        refine wpAny_take (i := 8) (v := undef) rfl (by kernel_rfl) (by kernel_rfl) (by kernel_rfl) (fun _ _ _ h => h) (Or.inr ⟨by kernel_rfl, rfl⟩) ?_
        go_simp
        refine wpAny_take (i := 9) (v := ?_) rfl (by kernel_rfl) (by kernel_rfl) (by kernel_rfl) (fun _ _ _ h => h) (Or.inl ⟨by kernel_rfl, by intro w; go_simp; try with_reducible rfl⟩) ?_
        go_simp
        refine wpAny_ready (rs := [0]) (by kernel_rfl) (by simp) ?_
        refine AllReady.cons rfl (fun K hK => ?_) AllReady.nil
        go_simp
        refine hK _ _ ?_
        clear hK K
        refine wpAny_take (i := 1) (v := ?_) rfl (by kernel_rfl) (by kernel_rfl) (by kernel_rfl) (fun _ _ _ h => h) (Or.inl ⟨by kernel_rfl, by intro w; go_simp; try with_reducible rfl⟩) ?_
        go_simp
        refine wpAny_take (i := 10) (v := ?_) rfl (by kernel_rfl) (by kernel_rfl) (by kernel_rfl) (fun _ _ _ h => h) (Or.inl ⟨by kernel_rfl, by intro w; go_simp; try with_reducible rfl⟩) ?_
        go_simp
        refine wpAny_take (i := 11) (v := ?_) rfl (by kernel_rfl) (by kernel_rfl) (by kernel_rfl) (fun _ _ _ h => h) (Or.inl ⟨by kernel_rfl, by intro w; go_simp; try with_reducible rfl⟩) ?_
        go_simp
        refine wpAny_done (by kernel_rfl) ?_ _
        go_wp2
        go_ret2
        rw [HCP.out]
        exact ⟨_, rfl, grown_trans HG.out s3.out⟩
    | cons s m =>
      subst hl
      obtain ⟨o, cap, hcell, hm, _, _⟩ := H.rd.cell
      obtain ⟨n, hn⟩ : ∃ n, (s :: m).length = n := ⟨_, rfl⟩
      have i0 : (0 : Int) < n := by rw [← hn]; simp
      rw [hn] at hcell
      have HN := Lib.hid hn
      have HH := Lib.hid H
      clear hn H hB hm
      cases hat : atB (s :: m) 93 with
      | true =>
        have HAT := Lib.hid hat
        obtain ⟨o', c', hv⟩ := own_shape HH.out.own
        subst hv
        have hal := HH.out.few
        obtain ⟨na, hna⟩ : ∃ n, acc.length = n := ⟨_, rfl⟩
        rw [hna] at r1
        have hals : na ≤ 1000000 := by omega
        have HTK := Lib.hid (show Calls Try.prog 76 #[.pointer (some ⟨bd, 0, none⟩), .int .i32 93] wr.drew fun e w' => e = .returned (.bool true) ∧ w'.cell? ⟨kc, 0, none⟩ = some (.bool neg) ∧ w'.cell? ⟨kc, 1, none⟩ = some (.slice o' na c') ∧ Hid (Rd w' bd m ∧ wr.grownBy w' (some bd)) by
          have hb : Below wr.heap.size wr wr.drew := (Below.refl _ _).drew
          refine (take_yes bd _ 93 wr.drew (HH.out.rd.below hb) hat).mono fun e w' q => ?_
          have hg := grown_trans (grown_of_below hb (some bd)) q.2.2
          have hbx := (HH.out.after hg).1
          rw [hna] at hbx
          exact ⟨q.1, hbx.reads.1, hbx.reads.2.1, q.2.1, hg⟩)
        have HNA := Lib.hid hna
        have HCP := Lib.hid (show classP l = if 0 < na then some (.cls neg acc, m) else none by
          unfold classP
          rw [HL1.out, HTT.out, ← HH.out.same, itemsP_eq, HAT.out, HNEG.out]
          simp [HAT.out, HNA.out])
        clear hat hal hna
        go_wp2_with fail
        refine (at_is bd _ 93 true HAT.out _ HH.out.rd).mono ?_
        rintro e w2 ⟨rfl, rfl⟩
        go_wp2_with fail
        go_region_held3 (fun w' => w'.cell? ⟨kc, 0, none⟩ = some (.bool neg) ∧ w'.cell? ⟨kc, 1, none⟩ = some (.slice o' na c')) (first | exact ⟨s1, s2⟩ | exact ⟨r0, r1⟩) (first | (go_at_call 76; refine HTK.out.mono ?_; rintro e wq ⟨rfl, s1, s2, s3⟩))
        go_wp2
        go_ret2
        rw [HCP.out]
        exact cls_res HH.out HNA.out s3.out
      | false =>
        have HAT := Lib.hid hat
        clear hat
        go_wp2_with fail
        refine (at_is bd _ 93 false HAT.out _ HH.out.rd).mono ?_
        rintro e w2 ⟨rfl, rfl⟩
        obtain ⟨⟨⟨x1, x2⟩, m2⟩, hit⟩ : ∃ p, itemF (s :: m) = p := ⟨_, rfl⟩
        have HI := Lib.hid (show Calls Try.prog 87 #[.pointer (some ⟨bd, 0, none⟩)] wr fun e w' => e = .returned (.agg #[.int .i32 x1, .int .i32 x2]) ∧ Hid (Rd w' bd m2 ∧ wr.grownBy w' (some bd)) by
          have := item_any bd s m _ HH.out.rd
          rw [hit] at this
          exact this.mono fun _ _ q => q)
        have HIT := Lib.hid hit
        have hml := itemF_lt (s :: m) (by simp)
        rw [hit] at hml
        have HML := Lib.hid hml
        clear hit hml
        go_wp2_with fail
        refine HI.out.mono ?_
        rintro e w3 ⟨rfl, H3⟩
        have HA := Lib.hid (HH.out.after H3.out.2)
        clear r0 r1 f0 f1 hcell
        obtain ⟨r0, r1, f0, f1⟩ := HA.out.1.reads
        have hkc3 := HA.out.2.2.2
        by_cases hgt : x2 < x1
        · have HT0 := Lib.hid (show t = none by
            rw [← HH.out.same, itemsP_eq, HAT.out, HIT.out]; simp [hgt])
          have HCP := Lib.hid (show classP l = none by unfold classP; rw [HL1.out, HTT.out, HT0.out])
          go_wp2
          go_ret2
          rw [HCP.out]
          exact ⟨_, rfl, grown_alloc HA.out.2.2.1 _⟩
        · have hO := (HA.out.2.1.alloc (Obj.cells #[Value.int .i32 x1, Value.int .i32 x2] 159)).alloc (Obj.cells #[Value.int .i32 x1, Value.int .i32 x2] 159)
          have hfw := HH.out.few
          simp only [List.length_cons] at hfw
          have HO := Lib.hid hO
          clear hO
          go_wp2_with (at_builtin; go_must (refine wpList_append_own _ rfl _ _ 150 rfl (kc + 1) 159 ie (.agg #[.int .i32 0, .int .i32 0]) 2 8 Try.underlying150 hi hz0 hz1 hz2 rfl (by decide) _ _ _ rfl HO.out ⟨w3.heap.size + 1, 0, none⟩ 1 1 [.int .i32 x1, .int .i32 x2] rfl rfl (cells_2k _ _ _ _ _ (by simp)) (one_2i _ _) (by unfold maxLen; omega) (by omega) (by simp; omega) ?_); intro v' w5 hown' hgrow' _; replace hgrow' : World.grownBy _ w5 v.ownBlock := hgrow'; have H5 := Lib.hid (And.intro hown' hgrow'); obtain ⟨o', c', hv'⟩ := own_shape hown'; subst hv'; clear hown' hgrow'; obtain ⟨r0, r1, f0, f1⟩ := (cls_append HA.out HO.out H5.out.2).reads)
          go_roundg m2.length
          case measure => exact HML.out
          case rel =>
            exact cls_next HH.out HAT.out HIT.out (Int.not_lt.2 hgt) HML.out H3.out.1 HA.out HO.out H5.out
end Go.Proofs.Ytmidpekkomhogaa.Pat
end
