/- Patterns, plain: what a text of signs is read as. No program in it. -/
import Derived.Lib.MapLaws
namespace Go.Proofs.Ytfpdhmecomgbdaa

/-- A part of a pattern. -/
inductive Pt where
  | choice (l : List Pt)
  | chain (l : List Pt)
  | times (x : Pt) (a b : Bool)
  | only (r : Int)
  | cls (neg : Bool) (items : List (Int × Int))
  | dot

/-- A rune, and whether it has no backslash ahead. -/
abbrev Sg := Int × Bool

def atB (l : List Sg) (r : Int) : Bool := match l with
  | [] => false
  | s :: _ => s.1 == r && s.2
def takeB (l : List Sg) (r : Int) : List Sg := if atB l r then l.tail else l
def itemF (l : List Sg) : (Int × Int) × List Sg := match l with
  | [] => ((0, 0), [])
  | s :: t => if atB t 45 && (decide (2 ≤ t.length) && !atB t.tail 93) then ((s.1, (t.tail.headD (0, false)).1), t.tail.tail) else ((s.1, s.1), t)
def itemsGo : Nat → List Sg → List (Int × Int) → Option (List (Int × Int) × List Sg)
  | 0, _, _ => none
  | n + 1, l, acc => if l.isEmpty || atB l 93 then some (acc, l) else if (itemF l).1.2 < (itemF l).1.1 then none else itemsGo n (itemF l).2 (acc ++ [(itemF l).1])
def itemsP (l : List Sg) (acc : List (Int × Int)) : Option (List (Int × Int) × List Sg) := itemsGo (l.length + 1) l acc
def classP (l : List Sg) : Option (Pt × List Sg) := match itemsP (takeB l 94) [] with
  | none => none
  | some (items, m) => if atB m 93 && decide (0 < items.length) then some (.cls (atB l 94) items, m.tail) else none
def timesF (x : Pt) (l : List Sg) : Pt := if atB l 42 then .times x true true else if atB l 43 then .times x false true else if atB l 63 then .times x true false else x
def timesR (l : List Sg) : List Sg := if atB l 42 || (atB l 43 || atB l 63) then l.tail else l
def markB (r : Int) : Bool := r == 42 || (r == 43 || (r == 63 || (r == 124 || (r == 40 || (r == 41 || (r == 91 || r == 93))))))
def stopB (l : List Sg) : Bool := l.isEmpty || (atB l 124 || atB l 41)

/-! ### how many atoms there are -/
mutual
def Pt.size : Pt → Nat
  | .choice l => sizes l
  | .chain l => sizes l
  | .times x _ _ => x.size
  | .only _ => 1
  | .cls _ _ => 1
  | .dot => 1
def sizes : List Pt → Nat
  | [] => 0
  | x :: xs => x.size + sizes xs
end
def litP (l : List Sg) : Option (Pt × List Sg) := match l with
  | [] => none
  | s :: t => if s.2 && markB s.1 then none else some (.only s.1, t)
theorem litP_lt {l : List Sg} {x : Pt} {m : List Sg} (h : litP l = some (x, m)) : m.length < l.length ∧ x.size = 1 := by
  unfold litP at h
  split at h
  · cases h
  · split at h
    · cases h
    · injection h with h; injection h with h1 h; subst h; subst h1
      exact ⟨by simp, rfl⟩

mutual
def choiceGo : Nat → List Sg → List Pt → Option (List Pt × List Sg)
  | 0, _, _ => none
  | n + 1, l, acc => match chainGo n l [] with
    | none => none
    | some (c, m) => if atB m 124 then choiceGo n m.tail (acc ++ [.chain c]) else some (acc ++ [.chain c], m)
def chainGo : Nat → List Sg → List Pt → Option (List Pt × List Sg)
  | 0, _, _ => none
  | n + 1, l, acc => if stopB l then some (acc, l) else match atomGo n l with
    | none => none
    | some (x, m) => chainGo n (timesR m) (acc ++ [timesF x m])
def atomGo : Nat → List Sg → Option (Pt × List Sg)
  | 0, _ => none
  | n + 1, l => if atB l 40 then (match choiceGo n l.tail [] with
      | none => none
      | some (c, m) => if atB m 41 then some (.choice c, m.tail) else none)
    else if atB l 91 then classP l.tail
    else if atB l 46 then some (.dot, l.tail)
    else litP l
end

def choiceP (l : List Sg) (acc : List Pt) : Option (List Pt × List Sg) := choiceGo (3 * l.length + 3) l acc
def chainP (l : List Sg) (acc : List Pt) : Option (List Pt × List Sg) := chainGo (3 * l.length + 2) l acc
def atomP (l : List Sg) : Option (Pt × List Sg) := atomGo (3 * l.length + 1) l

/-- A text's signs; none: a backslash at its end. -/
def signsGo : Bool → List Int → List Sg
  | _, [] => []
  | b, r :: rs => if r == 92 && !b then signsGo true rs else (r, !b) :: signsGo false rs
def endsGo : Bool → List Int → Bool
  | b, [] => b
  | b, r :: rs => if r == 92 && !b then endsGo true rs else endsGo false rs
/-- What a pattern is read as. -/
def readP (rs : List Int) : Option Pt := if endsGo false rs then none else match choiceP (signsGo false rs) [] with
  | none => none
  | some (c, m) => if m.isEmpty then some (.choice c) else none

/-! ### how much is left -/
theorem tail_lt {l : List Sg} {r : Int} (h : atB l r = true) : l.tail.length + 1 = l.length := by
  cases l with
  | nil => simp [atB] at h
  | cons s t => simp
theorem itemF_lt (l : List Sg) (h : l ≠ []) : (itemF l).2.length < l.length := by
  cases l with
  | nil => exact absurd rfl h
  | cons s t =>
    unfold itemF
    dsimp only
    split
    · simp; omega
    · simp
theorem itemsGo_le : ∀ (n : Nat) (l : List Sg) (acc : List (Int × Int)) (xs : List (Int × Int)) (m : List Sg), itemsGo n l acc = some (xs, m) → m.length ≤ l.length
  | 0, _, _, _, _, h => by simp [itemsGo] at h
  | n + 1, l, acc, xs, m, h => by
    rw [itemsGo] at h
    split at h
    · injection h with h; injection h with _ h; subst h; exact Nat.le_refl _
    · split at h
      · cases h
      · rename_i h1 _
        have hne : l ≠ [] := by rintro rfl; simp at h1
        have := itemsGo_le n _ _ _ _ h
        have := itemF_lt l hne
        omega
theorem itemsGo_fuel : ∀ (n k : Nat) (l : List Sg) (acc : List (Int × Int)), l.length < n → l.length < k → itemsGo n l acc = itemsGo k l acc
  | 0, _, _, _, h, _ => by omega
  | _ + 1, 0, _, _, _, h => by omega
  | n + 1, k + 1, l, acc, hn, hk => by
    rw [itemsGo, itemsGo]
    split
    · rfl
    · split
      · rfl
      · rename_i h1 _
        have hne : l ≠ [] := by rintro rfl; simp at h1
        have := itemF_lt l hne
        exact itemsGo_fuel n k _ _ (by omega) (by omega)
theorem itemsP_eq (l : List Sg) (acc : List (Int × Int)) : itemsP l acc = if l.isEmpty || atB l 93 then some (acc, l) else if (itemF l).1.2 < (itemF l).1.1 then none else itemsP (itemF l).2 (acc ++ [(itemF l).1]) := by
  unfold itemsP
  rw [itemsGo]
  split
  · rfl
  · split
    · rfl
    · rename_i h1 _
      have hne : l ≠ [] := by rintro rfl; simp at h1
      have := itemF_lt l hne
      exact itemsGo_fuel _ _ _ _ (by omega) (by omega)
theorem takeB_le (l : List Sg) (r : Int) : (takeB l r).length ≤ l.length := by
  unfold takeB; split <;> simp
theorem classP_lt {l : List Sg} {x : Pt} {m : List Sg} (h : classP l = some (x, m)) : m.length < l.length := by
  unfold classP at h
  split at h
  · cases h
  · rename_i items k hk
    split at h
    · rename_i hc
      injection h with h; injection h with _ h; subst h
      have h1 := itemsGo_le _ _ _ _ _ hk
      have h2 := takeB_le l 94
      have h3 := tail_lt (l := k) (r := 93) (by simp at hc; exact hc.1)
      omega
    · cases h
theorem timesR_le (l : List Sg) : (timesR l).length ≤ l.length := by
  unfold timesR; split <;> simp

theorem go_le : ∀ (n : Nat),
    (∀ (l : List Sg) (acc c : List Pt) (m : List Sg), choiceGo n l acc = some (c, m) → m.length ≤ l.length) ∧
    (∀ (l : List Sg) (acc c : List Pt) (m : List Sg), chainGo n l acc = some (c, m) → m.length ≤ l.length) ∧
    (∀ (l : List Sg) (x : Pt) (m : List Sg), atomGo n l = some (x, m) → m.length < l.length)
  | 0 => ⟨fun _ _ _ _ h => by simp [choiceGo] at h, fun _ _ _ _ h => by simp [chainGo] at h, fun _ _ _ h => by simp [atomGo] at h⟩
  | n + 1 => by
    obtain ⟨i1, i2, i3⟩ := go_le n
    refine ⟨?_, ?_, ?_⟩
    · intro l acc c m h
      rw [choiceGo] at h
      split at h
      · cases h
      · rename_i d k hk
        have := i2 _ _ _ _ hk
        split at h
        · rename_i hb
          have := i1 _ _ _ _ h
          have := tail_lt hb
          omega
        · injection h with h; injection h with _ h; subst h; exact this
    · intro l acc c m h
      rw [chainGo] at h
      split at h
      · injection h with h; injection h with _ h; subst h; exact Nat.le_refl _
      · split at h
        · cases h
        · rename_i x k hk
          have := i3 _ _ _ hk
          have := i2 _ _ _ _ h
          have := timesR_le k
          omega
    · intro l x m h
      rw [atomGo] at h
      split at h
      · rename_i hb
        have hl := tail_lt hb
        split at h
        · cases h
        · rename_i d k hk
          have := i1 _ _ _ _ hk
          split at h
          · rename_i hc
            injection h with h; injection h with _ h; subst h
            have := tail_lt hc
            omega
          · cases h
      · split at h
        · rename_i hb
          have hl := tail_lt hb
          have := classP_lt h
          omega
        · split at h
          · rename_i hb
            have hl := tail_lt hb
            injection h with h; injection h with _ h; subst h
            omega
          · exact (litP_lt h).1
theorem choiceP_le {l : List Sg} {acc c : List Pt} {m : List Sg} (h : choiceP l acc = some (c, m)) : m.length ≤ l.length := (go_le _).1 _ _ _ _ h
theorem chainP_le {l : List Sg} {acc c : List Pt} {m : List Sg} (h : chainP l acc = some (c, m)) : m.length ≤ l.length := (go_le _).2.1 _ _ _ _ h
theorem atomP_lt {l : List Sg} {x : Pt} {m : List Sg} (h : atomP l = some (x, m)) : m.length < l.length := (go_le _).2.2 _ _ _ h

theorem go_fuel : ∀ (n : Nat),
    (∀ (k : Nat) (l : List Sg) (acc : List Pt), 3 * l.length + 3 ≤ n → 3 * l.length + 3 ≤ k → choiceGo n l acc = choiceGo k l acc) ∧
    (∀ (k : Nat) (l : List Sg) (acc : List Pt), 3 * l.length + 2 ≤ n → 3 * l.length + 2 ≤ k → chainGo n l acc = chainGo k l acc) ∧
    (∀ (k : Nat) (l : List Sg), 3 * l.length + 1 ≤ n → 3 * l.length + 1 ≤ k → atomGo n l = atomGo k l)
  | 0 => ⟨fun _ _ _ h _ => by omega, fun _ _ _ h _ => by omega, fun _ _ h _ => by omega⟩
  | n + 1 => by
    obtain ⟨i1, i2, i3⟩ := go_fuel n
    refine ⟨?_, ?_, ?_⟩
    · intro k l acc hn hk
      cases k with
      | zero => omega
      | succ k =>
        rw [choiceGo, choiceGo, i2 k l [] (by omega) (by omega)]
        split
        · rfl
        · rename_i d m hm
          have hl := (go_le _).2.1 _ _ _ _ hm
          split
          · rename_i hb
            have := tail_lt hb
            exact i1 _ _ _ (by omega) (by omega)
          · rfl
    · intro k l acc hn hk
      cases k with
      | zero => omega
      | succ k =>
        rw [chainGo, chainGo]
        split
        · rfl
        · rw [i3 k l (by omega) (by omega)]
          split
          · rfl
          · rename_i d m hm
            have hl := (go_le _).2.2 _ _ _ hm
            have := timesR_le m
            exact i2 _ _ _ (by omega) (by omega)
    · intro k l hn hk
      cases k with
      | zero => omega
      | succ k =>
        rw [atomGo, atomGo]
        split
        · rename_i hb
          have := tail_lt hb
          rw [i1 k l.tail [] (by omega) (by omega)]
        · rfl
theorem choiceP_eq (l : List Sg) (acc : List Pt) : choiceP l acc = match chainP l [] with
    | none => none
    | some (c, m) => if atB m 124 then choiceP m.tail (acc ++ [.chain c]) else some (acc ++ [.chain c], m) := by
  unfold choiceP chainP
  rw [choiceGo]
  split
  · rfl
  · rename_i d m hm
    have hl := (go_le _).2.1 _ _ _ _ hm
    split
    · rename_i hb
      have := tail_lt hb
      exact (go_fuel _).1 _ _ _ (by omega) (by omega)
    · rfl
theorem chainP_eq (l : List Sg) (acc : List Pt) : chainP l acc = if stopB l then some (acc, l) else match atomP l with
    | none => none
    | some (x, m) => chainP (timesR m) (acc ++ [timesF x m]) := by
  unfold chainP atomP
  rw [chainGo]
  split
  · rfl
  · split
    · rfl
    · rename_i d m hm
      have hl := (go_le _).2.2 _ _ _ hm
      have := timesR_le m
      exact (go_fuel _).2.1 _ _ _ (by omega) (by omega)
theorem atomP_eq (l : List Sg) : atomP l = if atB l 40 then (match choiceP l.tail [] with
      | none => none
      | some (c, m) => if atB m 41 then some (.choice c, m.tail) else none)
    else if atB l 91 then classP l.tail
    else if atB l 46 then some (.dot, l.tail)
    else litP l := by
  unfold atomP choiceP
  rw [atomGo]
  split
  · rename_i hb
    have := tail_lt hb
    rw [(go_fuel _).1 (3 * l.tail.length + 3) l.tail [] (by omega) (by omega)]
  · rfl

theorem sizes_append : ∀ (xs ys : List Pt), sizes (xs ++ ys) = sizes xs + sizes ys
  | [], ys => by simp [sizes]
  | x :: xs, ys => by simp [sizes, sizes_append xs ys]; omega
theorem timesF_size (x : Pt) (l : List Sg) : (timesF x l).size = x.size := by
  unfold timesF; split
  · rfl
  · split
    · rfl
    · split <;> rfl
theorem classP_size {l : List Sg} {x : Pt} {m : List Sg} (h : classP l = some (x, m)) : x.size = 1 := by
  unfold classP at h
  split at h
  · cases h
  · split at h
    · injection h with h; injection h with h _; subst h; rfl
    · cases h
theorem go_size : ∀ (n : Nat),
    (∀ (l : List Sg) (acc c : List Pt) (m : List Sg), choiceGo n l acc = some (c, m) → sizes c + m.length ≤ sizes acc + l.length) ∧
    (∀ (l : List Sg) (acc c : List Pt) (m : List Sg), chainGo n l acc = some (c, m) → sizes c + m.length ≤ sizes acc + l.length) ∧
    (∀ (l : List Sg) (x : Pt) (m : List Sg), atomGo n l = some (x, m) → x.size + m.length ≤ l.length)
  | 0 => ⟨fun _ _ _ _ h => by simp [choiceGo] at h, fun _ _ _ _ h => by simp [chainGo] at h, fun _ _ _ h => by simp [atomGo] at h⟩
  | n + 1 => by
    obtain ⟨i1, i2, i3⟩ := go_size n
    refine ⟨?_, ?_, ?_⟩
    · intro l acc c m h
      rw [choiceGo] at h
      split at h
      · cases h
      · rename_i d k hk
        have h1 := i2 _ _ _ _ hk
        simp [sizes] at h1
        have hs : sizes (acc ++ [Pt.chain d]) = sizes acc + sizes d := by rw [sizes_append]; simp [sizes, Pt.size]
        split at h
        · rename_i hb
          have h2 := i1 _ _ _ _ h
          have := tail_lt hb
          omega
        · injection h with h; injection h with h1 h; subst h; subst h1; omega
    · intro l acc c m h
      rw [chainGo] at h
      split at h
      · injection h with h; injection h with h1 h; subst h; subst h1; exact Nat.le_refl _
      · split at h
        · cases h
        · rename_i x k hk
          have h1 := i3 _ _ _ hk
          have h2 := i2 _ _ _ _ h
          have := timesR_le k
          have hs : sizes (acc ++ [timesF x k]) = sizes acc + x.size := by rw [sizes_append]; simp [sizes, timesF_size]
          omega
    · intro l x m h
      rw [atomGo] at h
      split at h
      · rename_i hb
        have hl := tail_lt hb
        split at h
        · cases h
        · rename_i d k hk
          have h1 := i1 _ _ _ _ hk
          simp [sizes] at h1
          split at h
          · rename_i hc
            injection h with h; injection h with h2 h; subst h; subst h2
            have := tail_lt hc
            simp [Pt.size]
            omega
          · cases h
      · split at h
        · rename_i hb
          have hl := tail_lt hb
          have := classP_lt h
          have := classP_size h
          omega
        · split at h
          · rename_i hb
            have hl := tail_lt hb
            injection h with h; injection h with h1 h; subst h; subst h1
            simp [Pt.size]
            omega
          · have := litP_lt h
            omega
theorem signsGo_len : ∀ (b : Bool) (rs : List Int), (signsGo b rs).length ≤ rs.length
  | _, [] => by simp [signsGo]
  | b, r :: rs => by
    rw [signsGo]
    split
    · have := signsGo_len true rs; simp; omega
    · have := signsGo_len false rs; simp; omega
theorem readP_size {rs : List Int} {x : Pt} (h : readP rs = some x) : x.size ≤ rs.length := by
  unfold readP at h
  split at h
  · cases h
  · split at h
    · cases h
    · rename_i c m hm
      split at h
      · injection h with h; subst h
        have := (go_size _).1 _ _ _ _ hm
        have h2 := signsGo_len false rs
        simp [sizes] at this
        simp [Pt.size]
        omega
      · cases h
end Go.Proofs.Ytfpdhmecomgbdaa
