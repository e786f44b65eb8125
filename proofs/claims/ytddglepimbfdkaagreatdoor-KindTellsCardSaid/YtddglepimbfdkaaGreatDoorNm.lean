import Derived.Test.YtddglepimbfdkaaGreatDoorNc
import Derived.Test.YtddglepimbfdkaaGreatDoorNf
section
/- Plain: queries read out of words (parse). No program in it. -/


namespace Go.Proofs.YtddglepimbfdkaaGreatDoor.Par
open Go.Proofs.YtddglepimbfdkaaGreatDoor.Sto

/-- A part of a query. -/
inductive Ex where
  | num (n : Nat)
  | neg (x : Ex)
  | bin (op : ByteArray) (mode : Nat) (names : List ByteArray) (l r : Ex)
  | agg (name : ByteArray) (n : Nat) (mode : Nat) (names : List ByteArray) (x : Ex)
  | fn (name : ByteArray) (x : Ex)
  | sel (metric : ByteArray) (n : Nat) (ms : List Mat)
  deriving DecidableEq

/-- A token: its kind, its text. -/
abbrev Tq := Nat × List UInt8
def tq (w : Wd) : Tq := (w.1, w.2.2)
def bz (l : List UInt8) : ByteArray := ⟨l.toArray⟩
def isT (k : Nat) (t : List UInt8) : List Tq → Bool
  | [] => false
  | x :: _ => x.1 == k && x.2 == t
def isK (k : Nat) : List Tq → Bool
  | [] => false
  | x :: _ => x.1 == k
def cmpS (s : List UInt8) : Bool := s == [61, 61] || s == [33, 61] || s == [60] || s == [60, 61] || s == [62] || s == [62, 61]
def levelS (s : List UInt8) : Nat := if cmpS s then 1 else if s == [43] || s == [45] then 2 else if s == [42] || s == [47] || s == [37] then 3 else 0
def levelT : List Tq → Nat
  | [] => 0
  | x :: _ => if x.1 = 5 then levelS x.2 else 0
def opS (s : List UInt8) : Nat := if s = [61] then 1 else if s = [33, 61] then 2 else if s = [61, 126] then 3 else if s = [33, 126] then 4 else 0
/-- topk, quantile. -/
def numbB (s : List UInt8) : Bool := s == [116, 111, 112, 107] || s == [113, 117, 97, 110, 116, 105, 108, 101]
def aggB (s : List UInt8) : Bool := s == [115, 117, 109] || s == [109, 105, 110] || s == [109, 97, 120] || s == [99, 111, 117, 110, 116] || s == [97, 118, 103] || numbB s
/-- sum_over, min_over, max_over, count_over, avg_over, last_over, increase, rate. -/
def fnS (s : List UInt8) : Bool := s == [115, 117, 109, 95, 111, 118, 101, 114] || s == [109, 105, 110, 95, 111, 118, 101, 114] || s == [109, 97, 120, 95, 111, 118, 101, 114] || s == [99, 111, 117, 110, 116, 95, 111, 118, 101, 114] || s == [97, 118, 103, 95, 111, 118, 101, 114] || s == [108, 97, 115, 116, 95, 111, 118, 101, 114] || s == [105, 110, 99, 114, 101, 97, 115, 101] || s == [114, 97, 116, 101]
def wOrder : List UInt8 := [111, 114, 100, 101, 114]
def wLimit : List UInt8 := [108, 105, 109, 105, 116]
def wOffset : List UInt8 := [111, 102, 102, 115, 101, 116]
def wAsc : List UInt8 := [97, 115, 99]
def wDesc : List UInt8 := [100, 101, 115, 99]
def wOn : List UInt8 := [111, 110]
def wIgn : List UInt8 := [105, 103, 110, 111, 114, 105, 110, 103]
def wBy : List UInt8 := [98, 121]
def wWithout : List UInt8 := [119, 105, 116, 104, 111, 117, 116]
def resB (s : List UInt8) : Bool := s == wOrder || s == wLimit || s == wOffset || s == wAsc || s == wDesc || s == wOn || s == wIgn || s == wBy || s == wWithout

/-! ### lists -/
def listGo {α : Type} (one : List Tq → Option (α × List Tq)) (stop : List UInt8) : Nat → List Tq → List α → Option (List α × List Tq)
  | 0, _, _ => none
  | n + 1, l, acc => match one l with
    | none => none
    | some (x, m) => if isT 5 [44] m then listGo one stop n m.tail (acc ++ [x]) else if isT 5 stop m then some (acc ++ [x], m.tail) else none
def listP {α : Type} (one : List Tq → Option (α × List Tq)) (stop : List UInt8) (l : List Tq) : Option (List α × List Tq) :=
  if isT 5 stop l then some ([], l.tail) else listGo one stop (l.length + 1) l []
def nameP : List Tq → Option (ByteArray × List Tq)
  | [] => none
  | x :: m => if x.1 = 1 then some (bz x.2, m) else none
def matP : List Tq → Option (Mat × List Tq)
  | x :: y :: z :: m => if x.1 = 1 ∧ y.1 = 5 ∧ opS y.2 ≠ 0 ∧ z.1 = 3 then some ((bz x.2, (opS y.2 : Int), bz z.2), m) else none
  | _ => none
def modeP (a b : List UInt8) (l : List Tq) : Option ((Nat × List ByteArray) × List Tq) :=
  if isT 1 a l then (if isT 5 [40] l.tail then (listP nameP [41] l.tail.tail).map fun p => ((1, p.1), p.2) else none)
  else if isT 1 b l then (if isT 5 [40] l.tail then (listP nameP [41] l.tail.tail).map fun p => ((2, p.1), p.2) else none)
  else some ((0, []), l)
def numP (k : Nat) : List Tq → Option (Nat × List Tq)
  | [] => none
  | x :: m => if x.1 = k then some (valL x.2, m) else none
def windowP (l : List Tq) : Option (Nat × List Tq) :=
  if isT 5 [91] l then (match numP 4 l.tail with
    | none => none
    | some (n, m) => if isT 5 [93] m then some (n, m.tail) else none)
  else some (0, l)
def bracesP (named : Bool) (l : List Tq) : Option (List Mat × List Tq) :=
  if isT 5 [123] l then listP matP [125] l.tail else if named then some ([], l) else none
def selP (metric : List UInt8) (named : Bool) (l : List Tq) : Option (Ex × List Tq) := match bracesP named l with
  | none => none
  | some (ms, m) => if matsB ms then (windowP m).map fun p => (.sel (bz metric) p.1 ms, p.2) else none
def aggNP (name : List UInt8) (l : List Tq) : Option (Nat × List Tq) :=
  if numbB name then (match numP 2 l with
    | none => none
    | some (n, m) => if isT 5 [44] m then some (n, m.tail) else none)
  else some (0, l)

/-! ### expressions -/
mutual
def chainGo : Nat → Nat → List Tq → Option (Ex × List Tq)
  | 0, _, _ => none
  | n + 1, t, l => if 3 < t then unaryGo n l else match chainGo n (t + 1) l with
    | none => none
    | some (x, m) => restGo n t x m
def restGo : Nat → Nat → Ex → List Tq → Option (Ex × List Tq)
  | 0, _, _, _ => none
  | n + 1, t, x, l => if levelT l = t then (match binGo n t x l with
    | none => none
    | some (y, m) => restGo n t y m) else some (x, l)
def binGo : Nat → Nat → Ex → List Tq → Option (Ex × List Tq)
  | 0, _, _, _ => none
  | _ + 1, _, _, [] => none
  | n + 1, t, x, s :: l => match modeP wOn wIgn l with
    | none => none
    | some ((mode, names), m) => match chainGo n (t + 1) m with
      | none => none
      | some (y, k) => some (.bin (bz s.2) mode names x y, k)
def unaryGo : Nat → List Tq → Option (Ex × List Tq)
  | 0, _ => none
  | n + 1, l => if isT 5 [45] l then (match unaryGo n l.tail with
    | none => none
    | some (x, m) => some (.neg x, m)) else primGo n l
def primGo : Nat → List Tq → Option (Ex × List Tq)
  | 0, _ => none
  | _ + 1, [] => none
  | n + 1, x :: l => if isT 5 [40] (x :: l) then closedGo n l
    else if x.1 = 2 then some (.num (valL x.2), l)
    else if x.1 = 1 then (
      if aggB x.2 then aggGo n x.2 l
      else if fnS x.2 then fnGo n x.2 l
      else if resB x.2 then none
      else selP x.2 true l)
    else selP [] false (x :: l)
def closedGo : Nat → List Tq → Option (Ex × List Tq)
  | 0, _ => none
  | n + 1, l => match chainGo n 1 l with
    | none => none
    | some (x, m) => if isT 5 [41] m then some (x, m.tail) else none
def aggGo : Nat → List UInt8 → List Tq → Option (Ex × List Tq)
  | 0, _, _ => none
  | n + 1, name, l => match modeP wBy wWithout l with
    | none => none
    | some ((mode, names), m) => if isT 5 [40] m then (match aggNP name m.tail with
      | none => none
      | some (k, m2) => match closedGo n m2 with
        | none => none
        | some (x, m3) => some (.agg (bz name) k mode names x, m3)) else none
def fnGo : Nat → List UInt8 → List Tq → Option (Ex × List Tq)
  | 0, _, _ => none
  | n + 1, name, l => if isT 5 [40] l then (match closedGo n l.tail with
    | none => none
    | some (x, m) => some (.fn (bz name) x, m)) else none
end

/-! ### queries -/
structure Qr where
  root : Ex
  order : Nat
  limit : Int
  offset : Int
  deriving DecidableEq
def countE : Ex → Nat
  | .num _ => 1
  | .neg x => countE x + 1
  | .bin _ _ _ l r => countE l + countE r + 1
  | .agg _ _ _ _ x => countE x + 1
  | .fn _ x => countE x + 1
  | .sel _ _ _ => 1
def orderP (l : List Tq) : Option (Nat × List Tq) :=
  if isT 1 wOrder l then (if isT 1 wAsc l.tail then some (1, l.tail.tail) else if isT 1 wDesc l.tail then some (2, l.tail.tail) else none) else some (0, l)
def rowsP (w : List UInt8) (l : List Tq) : Option (Int × List Tq) :=
  if isT 1 w l then (match numP 2 l.tail with
    | none => none
    | some (n, m) => if n ≤ 2000 then some ((n : Int), m) else none) else some (-1, l)
def tailsP (x : Ex) (l : List Tq) : Option (Qr × List Tq) := match orderP l with
  | none => none
  | some (o, l1) => match rowsP wLimit l1 with
    | none => none
    | some (a, l2) => match rowsP wOffset l2 with
      | none => none
      | some (b, l3) => some (⟨x, o, a, b⟩, l3)
def readW (l : List Tq) : Option Qr := match chainGo (9 * l.length + 9) 1 l with
  | none => none
  | some (x, m) => match tailsP x m with
    | none => none
    | some (q, k) => if k.isEmpty && decide (countE x ≤ 200) then some q else none
/-- What a text is read as. -/
def readL (s : List UInt8) : Option Qr := match lexL s with
  | none => none
  | some ws => readW (ws.map tq)

/-! ### how much is left -/
theorem isT_tail {k : Nat} {t : List UInt8} {l : List Tq} (h : isT k t l = true) : l.tail.length + 1 = l.length := by
  cases l with
  | nil => simp [isT] at h
  | cons s t => simp
theorem listGo_le {α : Type} {one : List Tq → Option (α × List Tq)} {stop : List UInt8} (h1 : ∀ l x m, one l = some (x, m) → m.length < l.length) : ∀ (n : Nat) (l : List Tq) (acc xs : List α) (m : List Tq), listGo one stop n l acc = some (xs, m) → m.length < l.length
  | 0, _, _, _, _, h => by simp [listGo] at h
  | n + 1, l, acc, xs, m, h => by
    rw [listGo] at h
    split at h
    · cases h
    · rename_i x k hk
      have := h1 _ _ _ hk
      split at h
      · rename_i hc
        have := listGo_le h1 n _ _ _ _ h
        have := isT_tail hc
        omega
      · split at h
        · rename_i hc
          injection h with h; injection h with _ h; subst h
          have := isT_tail hc
          omega
        · cases h
theorem listP_le {α : Type} {one : List Tq → Option (α × List Tq)} {stop : List UInt8} (h1 : ∀ l x m, one l = some (x, m) → m.length < l.length) {l : List Tq} {xs : List α} {m : List Tq} (h : listP one stop l = some (xs, m)) : m.length < l.length := by
  unfold listP at h
  split at h
  · rename_i hc
    injection h with h; injection h with _ h; subst h
    have := isT_tail hc
    omega
  · exact listGo_le h1 _ _ _ _ _ h
theorem nameP_lt (l : List Tq) (x : ByteArray) (m : List Tq) (h : nameP l = some (x, m)) : m.length < l.length := by
  cases l with
  | nil => cases h
  | cons y t =>
    change (if y.1 = 1 then some (bz y.2, t) else none) = _ at h
    split at h
    · injection h with h; injection h with _ h; subst h; simp
    · cases h
theorem matP_lt (l : List Tq) (x : Mat) (m : List Tq) (h : matP l = some (x, m)) : m.length < l.length := by
  match l, h with
  | a :: b :: c :: t, h =>
    change (if a.1 = 1 ∧ b.1 = 5 ∧ opS b.2 ≠ 0 ∧ c.1 = 3 then some ((bz a.2, (opS b.2 : Int), bz c.2), t) else none) = _ at h
    split at h
    · injection h with h; injection h with _ h; subst h; simp; omega
    · cases h
theorem modeP_le {a b : List UInt8} {l : List Tq} {p : Nat × List ByteArray} {m : List Tq} (h : modeP a b l = some (p, m)) : m.length ≤ l.length := by
  unfold modeP at h
  have key : ∀ (c : Nat), isT 5 [40] l.tail = true → ((listP nameP [41] l.tail.tail).map fun p => ((c, p.1), p.2)) = some (p, m) → m.length ≤ l.length := by
    intro c _ h
    cases hx : listP nameP [41] l.tail.tail with
    | none => rw [hx] at h; cases h
    | some q =>
      rw [hx] at h
      injection h with h; injection h with _ h; subst h
      have := listP_le nameP_lt (m := q.2) (xs := q.1) hx
      simp at this; omega
  split at h
  · split at h
    · rename_i hc; exact key 1 hc h
    · cases h
  · split at h
    · split at h
      · rename_i hc; exact key 2 hc h
      · cases h
    · injection h with h; injection h with _ h; subst h; exact Nat.le_refl _
theorem numP_lt {k : Nat} {l : List Tq} {n : Nat} {m : List Tq} (h : numP k l = some (n, m)) : m.length < l.length := by
  cases l with
  | nil => cases h
  | cons y t =>
    change (if y.1 = k then some (valL y.2, t) else none) = _ at h
    split at h
    · injection h with h; injection h with _ h; subst h; simp
    · cases h
theorem windowP_le {l : List Tq} {n : Nat} {m : List Tq} (h : windowP l = some (n, m)) : m.length ≤ l.length := by
  unfold windowP at h
  split at h
  · split at h
    · cases h
    · rename_i k t hk
      have := numP_lt hk
      split at h
      · injection h with h; injection h with _ h; subst h
        simp at this ⊢; omega
      · cases h
  · injection h with h; injection h with _ h; subst h; exact Nat.le_refl _
theorem bracesP_le {b : Bool} {l : List Tq} {ms : List Mat} {m : List Tq} (h : bracesP b l = some (ms, m)) : m.length ≤ l.length ∧ (b = false → m.length < l.length) := by
  unfold bracesP at h
  split at h
  · have := listP_le matP_lt h
    simp at this; omega
  · split at h
    · injection h with h; injection h with _ h; subst h; exact ⟨Nat.le_refl _, fun e => by simp_all⟩
    · cases h
theorem selP_le {t : List UInt8} {b : Bool} {l : List Tq} {x : Ex} {m : List Tq} (h : selP t b l = some (x, m)) : m.length ≤ l.length ∧ (b = false → m.length < l.length) := by
  unfold selP at h
  split at h
  · cases h
  · rename_i ms k hk
    have h1 := bracesP_le hk
    split at h
    · cases hx : windowP k with
      | none => rw [hx] at h; cases h
      | some q =>
        rw [hx] at h
        injection h with h; injection h with _ h; subst h
        have := windowP_le (n := q.1) (m := q.2) hx
        exact ⟨by omega, fun hb => by have := h1.2 hb; omega⟩
    · cases h
theorem aggNP_le {t : List UInt8} {l : List Tq} {n : Nat} {m : List Tq} (h : aggNP t l = some (n, m)) : m.length ≤ l.length := by
  unfold aggNP at h
  split at h
  · split at h
    · cases h
    · rename_i k t hk
      have := numP_lt hk
      split at h
      · injection h with h; injection h with _ h; subst h
        simp; omega
      · cases h
  · injection h with h; injection h with _ h; subst h; exact Nat.le_refl _

theorem go_lt : ∀ (n : Nat),
    (∀ t l x m, chainGo n t l = some (x, m) → m.length < l.length) ∧
    (∀ t y l x m, restGo n t y l = some (x, m) → m.length ≤ l.length) ∧
    (∀ t y l x m, binGo n t y l = some (x, m) → m.length < l.length) ∧
    (∀ l x m, unaryGo n l = some (x, m) → m.length < l.length) ∧
    (∀ l x m, primGo n l = some (x, m) → m.length < l.length) ∧
    (∀ l x m, closedGo n l = some (x, m) → m.length < l.length) ∧
    (∀ s l x m, aggGo n s l = some (x, m) → m.length < l.length) ∧
    (∀ s l x m, fnGo n s l = some (x, m) → m.length < l.length)
  | 0 => ⟨fun _ _ _ _ h => by simp [chainGo] at h, fun _ _ _ _ _ h => by simp [restGo] at h, fun _ _ _ _ _ h => by simp [binGo] at h, fun _ _ _ h => by simp [unaryGo] at h, fun _ _ _ h => by simp [primGo] at h, fun _ _ _ h => by simp [closedGo] at h, fun _ _ _ _ h => by simp [aggGo] at h, fun _ _ _ _ h => by simp [fnGo] at h⟩
  | n + 1 => by
    obtain ⟨i1, i2, i3, i4, i5, i6, i7, i8⟩ := go_lt n
    refine ⟨?_, ?_, ?_, ?_, ?_, ?_, ?_, ?_⟩
    · intro t l x m h
      rw [chainGo] at h
      split at h
      · exact i4 _ _ _ h
      · split at h
        · cases h
        · rename_i y k hk
          have := i1 _ _ _ _ hk
          have := i2 _ _ _ _ _ h
          omega
    · intro t y l x m h
      rw [restGo] at h
      split at h
      · split at h
        · cases h
        · rename_i z k hk
          have := i3 _ _ _ _ _ hk
          have := i2 _ _ _ _ _ h
          omega
      · injection h with h; injection h with _ h; subst h; exact Nat.le_refl _
    · intro t y l x m h
      cases l with
      | nil => simp [binGo] at h
      | cons s l =>
        rw [binGo] at h
        split at h
        · cases h
        · rename_i mode names k hk
          have := modeP_le hk
          split at h
          · cases h
          · rename_i z j hj
            have := i1 _ _ _ _ hj
            injection h with h; injection h with _ h; subst h
            simp; omega
    · intro l x m h
      rw [unaryGo] at h
      split at h
      · rename_i hc
        have := isT_tail hc
        split at h
        · cases h
        · rename_i y k hk
          have := i4 _ _ _ hk
          injection h with h; injection h with _ h; subst h
          omega
      · exact i5 _ _ _ h
    · intro l x m h
      cases l with
      | nil => simp [primGo] at h
      | cons s l =>
        rw [primGo] at h
        split at h
        · have := i6 _ _ _ h
          simp; omega
        · split at h
          · injection h with h; injection h with _ h; subst h; simp
          · split at h
            · split at h
              · have := i7 _ _ _ _ h; simp; omega
              · split at h
                · have := i8 _ _ _ _ h; simp; omega
                · split at h
                  · cases h
                  · have := (selP_le h).1; simp; omega
            · exact (selP_le h).2 rfl
    · intro l x m h
      rw [closedGo] at h
      split at h
      · cases h
      · rename_i y k hk
        have := i1 _ _ _ _ hk
        split at h
        · injection h with h; injection h with _ h; subst h
          simp; omega
        · cases h
    · intro s l x m h
      rw [aggGo] at h
      split at h
      · cases h
      · rename_i mode names k hk
        have := modeP_le hk
        split at h
        · rename_i hc
          have := isT_tail hc
          split at h
          · cases h
          · rename_i j k2 hk2
            have := aggNP_le hk2
            split at h
            · cases h
            · rename_i z k3 hk3
              have := i6 _ _ _ hk3
              injection h with h; injection h with _ h; subst h
              omega
        · cases h
    · intro s l x m h
      rw [fnGo] at h
      split at h
      · rename_i hc
        have := isT_tail hc
        split at h
        · cases h
        · rename_i z k3 hk3
          have := i6 _ _ _ hk3
          injection h with h; injection h with _ h; subst h
          omega
      · cases h
end Go.Proofs.YtddglepimbfdkaaGreatDoor.Par
end

section
/- Plain: what the words of a text may be (parse). No program in it. -/

namespace Go.Proofs.YtddglepimbfdkaaGreatDoor.Par
open Go.Lib

/-- What a token may be. -/
structure TokOk (x : Tq) : Prop where
  few : x.2.length ≤ 1000
  dig : x.1 = 2 ∨ x.1 = 4 → ∃ v, v ≤ 1000000000000 ∧ x.2 = decDigits v
  sig : x.1 = 5 → x.2 ∈ signs
theorem chunk_more (t : List UInt8) (hne : t ≠ []) : wideL t ≤ (chunkQ t).length := by
  have hh : (head t).length = wideL t := by unfold head; rw [List.length_take]; have := wide_le hne; unfold wideL at this ⊢; omega
  rcases chunk_kinds t hne with ⟨_, e, e2⟩ | ⟨_, e, e2⟩ | ⟨_, e, e2⟩ | ⟨_, _, e, e2⟩ | ⟨_, _, e, e2⟩
  all_goals rw [e, ← hh, e2]
  all_goals simp
theorem body_more (l : List UInt8) : l.length ≤ (bodyQ l).length := by
  induction l using sufs_induct with
  | h0 => simp
  | h1 l hne ih =>
    have hc := chunk_more l hne
    have hw := wide_le hne
    rw [bodyQ_step l hne, List.length_append]
    rw [List.length_drop] at ih
    unfold wideL at hc hw
    omega
theorem num_tok {s : List UInt8} {t : Tk} (h : numL s = some t) : (t.1 = 2 ∨ t.1 = 4) ∧ ∃ v, v ≤ 1000000000000 ∧ t.2.1 = decDigits v := by
  unfold numL at h
  split at h
  · cases h
  · split at h
    · cases h; exact ⟨.inl rfl, _, by omega, rfl⟩
    · split at h
      · cases h
      · cases h; exact ⟨.inr rfl, _, by omega, rfl⟩
theorem first_tok {l : List UInt8} {t : Tk} (h : firstL l = some t) (hl : l.length ≤ 900) : TokOk (t.1, t.2.1) := by
  unfold firstL at h
  split at h
  · split at h
    · cases h
      refine ⟨?_, ?_, ?_⟩
      · show (l.take (chainL l)).length ≤ _
        rw [List.length_take]; omega
      · intro e; simp at e
      · intro e; simp at e
    · cases h
  · split at h
    · obtain ⟨h1, v, h2, h3⟩ := num_tok h
      refine ⟨?_, fun _ => ⟨v, h2, h3⟩, ?_⟩
      · show t.2.1.length ≤ _
        rw [h3]; have := dec_len v 13 (by omega) (by decide); omega
      · intro e
        have e : t.1 = 5 := e
        omega
    · split at h
      · split at h
        · rename_i t' hu
          cases h
          have h1 := congrArg List.length (unquoteL_some hu)
          have h2 := body_more t'
          rw [quote_len, List.length_take] at h1
          refine ⟨?_, ?_, ?_⟩
          · show t'.length ≤ _; omega
          · intro e; simp at e
          · intro e; simp at e
        · cases h
      · unfold signL at h
        split at h
        · rename_i hs
          cases h
          refine ⟨?_, ?_, fun _ => signB_mem hs.2⟩
          · show (l.take 2).length ≤ _; rw [List.length_take]; omega
          · intro e; simp at e
        · split at h
          · rename_i hs
            cases h
            refine ⟨?_, ?_, fun _ => signB_mem hs.2⟩
            · show (l.take 1).length ≤ _; rw [List.length_take]; omega
            · intro e; simp at e
          · cases h
theorem lexAt_tokens (l : List UInt8) : ∀ (a : Nat) (ws : List Wd), l.length ≤ 900 → lexAt a l = some ws → ws.length ≤ l.length ∧ ∀ w ∈ ws, TokOk (tq w) := by
  induction l using lex_induct with
  | h0 => intro a ws _ h; obtain rfl : [] = ws := Option.some.inj h; exact ⟨Nat.le_refl _, fun w hw => by cases hw⟩
  | h1 l hne ih =>
    intro a ws hl9 h
    have hl : 0 < l.length := List.length_pos_iff.2 hne
    by_cases h3 : kindZ (rune l) = 3
    · rw [lexAt_blank a hne h3] at h
      have := ih _ (by rw [List.length_drop]; omega) _ _ (by rw [List.length_drop]; omega) h
      rw [List.length_drop] at this
      exact ⟨by omega, this.2⟩
    · cases hf : firstL l with
      | none => rw [lexAt_none a hne h3 hf] at h; cases h
      | some t =>
        have hb1 := first_len hne hf
        rw [lexAt_tok a hne h3 hf] at h
        cases hx : lexAt (a + t.2.2) (l.drop t.2.2) with
        | none => rw [hx] at h; cases h
        | some vs =>
          rw [hx] at h
          obtain rfl := Option.some.inj h
          have := ih _ (by rw [List.length_drop]; omega) _ _ (by rw [List.length_drop]; omega) hx
          rw [List.length_drop] at this
          refine ⟨by rw [List.length_cons]; omega, fun w hw => ?_⟩
          rcases List.mem_cons.1 hw with rfl | hw
          · exact first_tok hf hl9
          · exact this.2 w hw
theorem lexL_tokens {l : List UInt8} {ws : List Wd} (hl : l.length ≤ 600) (h : lexL l = some ws) : ws.length ≤ l.length ∧ ∀ w ∈ ws, TokOk (tq w) :=
  lexAt_tokens l 0 ws (by omega) h
theorem toks_ok {ws : List Wd} (h : ∀ w ∈ ws, TokOk (tq w)) : ∀ x ∈ ws.map tq, TokOk x := by
  intro x hx
  obtain ⟨w, hw, rfl⟩ := List.mem_map.1 hx
  exact h w hw
end Go.Proofs.YtddglepimbfdkaaGreatDoor.Par
end

section
/- Plain: words with a sign behind them that ends them (parse). No program in it. -/

namespace Go.Proofs.YtddglepimbfdkaaGreatDoor.Par
open Go.Lib

/-- A byte that ends each word ahead of it. -/
def enderB (c : UInt8) : Bool := decide (c.toNat < 128) && !wordy [c] && signs.all fun t => decide (t.length ≤ 1) || !(t.drop 1 == [c])
theorem ender_low {c : UInt8} (h : enderB c = true) : c.toNat < 128 := by unfold enderB at h; simp at h; exact h.1.1
theorem ender_wordy {c : UInt8} (h : enderB c = true) (u : List UInt8) : wordy (c :: u) = false := by
  have hl := ender_low h
  unfold enderB at h
  simp at h
  have e : rune (c :: u) = rune [c] := by unfold rune; rw [dec_ascii c u hl, dec_ascii c [] hl]
  have := h.1.2
  unfold wordy at this ⊢
  rw [e]; exact this
theorem ender_sign {c : UInt8} (h : enderB c = true) (x : UInt8) : signB [x, c] = false := by
  refine Bool.eq_false_iff.2 fun h2 => ?_
  have hm := signB_mem h2
  unfold enderB at h
  have h3 := (Bool.and_eq_true_iff.1 h).2
  have := List.all_eq_true.1 h3 _ hm
  simp at this
theorem chain_app (c : UInt8) (hb : enderB c = true) (u : List UInt8) (l : List UInt8) : chainL (l ++ c :: u) = chainL l := by
  have hk := ender_low hb
  induction l using sufs_induct with
  | h0 =>
    rw [List.nil_append, chainL_step _ (by simp), if_neg (by rw [ender_wordy hb]; simp)]; rfl
  | h1 l hne ih =>
    have hd := dec_app l hne c hk u
    have hw := wide_le hne
    have e1 : wideL (l ++ c :: u) = wideL l := by unfold wideL; rw [hd]
    have e2 : wordy (l ++ c :: u) = wordy l := by unfold wordy rune; rw [hd]
    rw [chainL_step _ (by simp), chainL_step l hne, e1, e2, List.drop_append_of_le_length hw]
    rw [show wideL l = (decodeL l).2 from rfl, ih]
/-- A token stays what it is with a blank behind it. -/
theorem first_app {l : List UInt8} {t : Tk} (hne : l ≠ []) (h : firstL l = some t) (c : UInt8) (hb : enderB c = true) (u : List UInt8) : firstL (l ++ c :: u) = some t := by
  have hk := ender_low hb
  have hr : rune (l ++ c :: u) = rune l := by unfold rune; rw [dec_app l hne c hk u]
  have hl := chainL_le l
  rw [← h]
  unfold firstL at h ⊢
  rw [hr, chain_app c hb u, List.take_append_of_le_length hl]
  split
  · rfl
  · rw [if_neg ‹_›] at h
    split
    · rfl
    · rw [if_neg ‹_›] at h
      split
      · rw [if_pos ‹_›] at h
        have h0 : closeL l ≠ 0 := by
          intro h0; rw [h0, List.take_zero, unquote_nil] at h; cases h
        have e : closeL (l ++ c :: u) = closeL l := closeGo_app l _ 0 false h0
        rw [e, List.take_append_of_le_length (close_bd h0).2.1]
      · unfold signL
        match l, hne with
        | [x], _ => 
          rw [if_neg (fun hh => by have := hh.2; rw [show List.take 2 ([x] ++ c :: u) = [x, c] from rfl, ender_sign hb x] at this; cases this)]
          rw [if_neg (fun hh : 2 ≤ [x].length ∧ _ => by simp at hh)]
          simp
        | x :: y :: l, _ => simp
/-- What stands behind a text and a blank goes on by itself. -/
theorem lexAt_app (c : UInt8) (hb : enderB c = true) (u : List UInt8) (l : List UInt8) : ∀ (a : Nat) (ws : List Wd), lexAt a l = some ws → lexAt a (l ++ c :: u) = (lexAt (a + l.length) (c :: u)).map (ws ++ ·) := by
  have hk := ender_low hb
  induction l using lex_induct with
  | h0 =>
    intro a ws h
    obtain rfl : [] = ws := Option.some.inj h
    show lexAt a (c :: u) = Option.map _ (lexAt a (c :: u))
    cases lexAt a (c :: u) <;> simp
  | h1 l hne ih =>
    intro a ws h
    have hl : 0 < l.length := List.length_pos_iff.2 hne
    have hne2 : l ++ c :: u ≠ [] := by simp
    have hr : rune (l ++ c :: u) = rune l := by unfold rune; rw [dec_app l hne c hk u]
    by_cases h3 : kindZ (rune l) = 3
    · rw [lexAt_blank a hne h3] at h
      rw [lexAt_blank a hne2 (by rw [hr]; exact h3), List.drop_append_of_le_length (by omega), ih _ (by rw [List.length_drop]; omega) _ _ h]
      rw [List.length_drop]; congr 2; omega
    · cases hf : firstL l with
      | none => rw [lexAt_none a hne h3 hf] at h; cases h
      | some t =>
        have hb1 := first_len hne hf
        rw [lexAt_tok a hne h3 hf] at h
        rw [lexAt_tok a hne2 (by rw [hr]; exact h3) (first_app hne hf c hb u), List.drop_append_of_le_length hb1.2.1]
        cases hx : lexAt (a + t.2.2) (l.drop t.2.2) with
        | none => rw [hx] at h; cases h
        | some vs =>
          rw [hx] at h
          rw [ih _ (by rw [List.length_drop]; omega) _ _ hx]
          obtain rfl := Option.some.inj h
          rw [List.length_drop, show a + t.2.2 + (l.length - t.2.2) = a + l.length by omega]
          cases lexAt (a + l.length) (c :: u) <;> rfl


theorem ender_all : ∀ c ∈ ([40, 41, 44, 91, 93, 123, 125, 32, 34] : List UInt8), enderB c = true := by decide +kernel
/-- In brackets: the words, and two more. -/
theorem lexL_brackets {s : List UInt8} {ws : List Wd} (h : lexL s = some ws) : lexL (40 :: (s ++ [41])) = some ((5, 0, [40]) :: (ws.map (shiftW 1) ++ [(5, s.length + 1, [41])])) := by
  have h1 : firstL (40 :: (s ++ [41])) = some (5, [40], 1) := by
    have hf : firstL [40] = some (5, [40], 1) := by decide +kernel
    have hr : rune (40 :: (s ++ [41])) = 40 := by unfold rune; rw [dec_ascii 40 _ (by decide)]; rfl
    unfold firstL
    rw [hr, if_neg (by decide), if_neg (by decide), if_neg (by decide)]
    unfold signL
    have hn : ∀ x : UInt8, signB [40, x] = false := by
      intro x
      refine Bool.eq_false_iff.2 fun h2 => ?_
      have hm := signB_mem h2
      have : ∀ t ∈ signs, t.length = 2 → t.headD 0 ≠ 40 := by decide
      exact this _ hm rfl rfl
    rw [if_neg]
    · rw [if_pos ⟨by simp, show signB [40] = true by decide⟩]; rfl
    · intro hh
      have h2 := hh.2
      cases s with
      | nil =>
        have h3 : signB [40, 41] = true := h2
        rw [hn] at h3; cases h3
      | cons y ys =>
        have h3 : signB [40, y] = true := h2
        rw [hn] at h3; cases h3
  have hk : kindZ (rune (40 :: (s ++ [41]))) ≠ 3 := by
    unfold rune; rw [dec_ascii 40 _ (by decide)]; decide
  have hx : lexAt 1 s = some (ws.map (shiftW 1)) := by
    have := lexAt_shift s 0 1
    rw [Nat.zero_add] at this
    rw [this, ← lexL_at, h]; rfl
  rw [lexL_at, lexAt_tok 0 (by simp) hk h1]
  show Option.map _ (lexAt 1 (s ++ [41])) = _
  rw [lexAt_app 41 (ender_all _ (by simp)) [] s 1 _ hx]
  have h2 : lexAt (1 + s.length) [41] = some [(5, 1 + s.length, [41])] := by
    have hf : firstL [41] = some (5, [41], 1) := by decide +kernel
    rw [lexAt_tok _ (by simp) (by decide +kernel) hf]
    rfl
  rw [h2, Nat.add_comm 1]
  rfl
end Go.Proofs.YtddglepimbfdkaaGreatDoor.Par
end

section
/- Plain: words that stand side by side (parse). No program in it. -/

namespace Go.Proofs.YtddglepimbfdkaaGreatDoor.Par
open Go.Lib

/-- A word ends where u begins. -/
def endsB (k : Nat) (t u : List UInt8) : Bool := match u with
  | [] => true
  | c :: _ => if k = 3 then true else if k = 5 then decide (t.length ≠ 1) || !signB (t ++ [c]) else decide (c.toNat < 128) && !wordy [c]
theorem wordy_low {c : UInt8} (hc : c.toNat < 128) (hw : wordy [c] = false) (u : List UInt8) : wordy (c :: u) = false := by
  have e : rune (c :: u) = rune [c] := by unfold rune; rw [dec_ascii c u hc, dec_ascii c [] hc]
  unfold wordy at hw ⊢
  rw [e]; exact hw
theorem chain_next (c : UInt8) (hc : c.toNat < 128) (hw : wordy [c] = false) (u : List UInt8) (l : List UInt8) : chainL (l ++ c :: u) = chainL l := by
  induction l using sufs_induct with
  | h0 =>
    rw [List.nil_append, chainL_step _ (by simp), if_neg (by rw [wordy_low hc hw]; simp)]; rfl
  | h1 l hne ih =>
    have hd := dec_app l hne c hc u
    have hw := wide_le hne
    have e1 : wideL (l ++ c :: u) = wideL l := by unfold wideL; rw [hd]
    have e2 : wordy (l ++ c :: u) = wordy l := by unfold wordy rune; rw [hd]
    rw [chainL_step _ (by simp), chainL_step l hne, e1, e2, List.drop_append_of_le_length hw]
    rw [show wideL l = (decodeL l).2 from rfl, ih]
theorem rune_low {x : UInt8} (hx : x.toNat < 128) (l u : List UInt8) : rune ((x :: l) ++ u) = rune (x :: l) := by
  unfold rune; rw [List.cons_append, dec_ascii x _ hx, dec_ascii x _ hx]
theorem first_next {k : Nat} {t u : List UInt8} (hF : Fine k t) (he : endsB k t u = true) : firstL (spellW (k, t) ++ u) = some (k, t, (spellW (k, t)).length) := by
  obtain ⟨h, hne, h3⟩ := hF
  cases u with
  | nil => rw [List.append_nil]; exact h
  | cons c v =>
    obtain ⟨l, hl⟩ : ∃ l, spellW (k, t) = l := ⟨_, rfl⟩
    rw [hl] at h hne h3 ⊢
    have hlen := chainL_le l
    have h' := h
    unfold firstL at h'
    split at h'
    · split at h'
      · obtain ⟨rfl, _⟩ := Prod.mk.inj (Option.some.inj h')
        have hc : c.toNat < 128 ∧ wordy [c] = false := by simpa [endsB] using he
        have hr : rune (l ++ c :: v) = rune l := by unfold rune; rw [dec_app l hne c hc.1 v]
        rw [← h]
        unfold firstL
        rw [hr, chain_next c hc.1 hc.2, List.take_append_of_le_length hlen, if_pos ‹_›, if_pos ‹_›, if_pos ‹_›]
      · cases h'
    · split at h'
      · have hk : k = 2 ∨ k = 4 := by
          have := (num_tok h').1
          exact this
        have hc : c.toNat < 128 ∧ wordy [c] = false := by
          rcases hk with rfl | rfl <;> simpa [endsB] using he
        have hr : rune (l ++ c :: v) = rune l := by unfold rune; rw [dec_app l hne c hc.1 v]
        rw [← h]
        unfold firstL
        rw [hr, chain_next c hc.1 hc.2, List.take_append_of_le_length hlen, if_neg ‹_›, if_pos ‹_›, if_neg ‹_›, if_pos ‹_›]
      · split at h'
        · rename_i hr34
          cases l with
          | nil => exact absurd rfl hne
          | cons x l =>
            have hx : x.toNat < 128 := by
              refine Classical.byContradiction fun hx => ?_
              have := dec_high x l (by omega)
              unfold rune at hr34
              omega
            have h0 : closeL (x :: l) ≠ 0 := by
              intro h0; rw [h0, List.take_zero, unquote_nil] at h'; cases h'
            have e : closeL (x :: l ++ c :: v) = closeL (x :: l) := closeGo_app (x :: l) _ 0 false h0
            rw [← h]
            unfold firstL
            rw [rune_low hx, if_neg ‹_›, if_neg ‹_›, if_pos ‹_›, e, List.take_append_of_le_length (close_bd h0).2.1, if_neg ‹_›, if_neg ‹_›, if_pos ‹_›]
        · have hs := h'
          unfold signL at hs
          have key : k = 5 ∧ (t = l.take 2 ∧ 2 ≤ l.length ∨ t = l.take 1 ∧ 1 ≤ l.length) ∧ t ∈ signs := by
            split at hs
            · rename_i hb
              obtain ⟨rfl, h2⟩ := Prod.mk.inj (Option.some.inj hs)
              obtain ⟨rfl, _⟩ := Prod.mk.inj h2
              exact ⟨rfl, .inl ⟨rfl, hb.1⟩, signB_mem hb.2⟩
            · split at hs
              · rename_i hb
                obtain ⟨rfl, h2⟩ := Prod.mk.inj (Option.some.inj hs)
                obtain ⟨rfl, _⟩ := Prod.mk.inj h2
                exact ⟨rfl, .inr ⟨rfl, hb.1⟩, signB_mem hb.2⟩
              · cases hs
          obtain ⟨rfl, _, hmem⟩ := key
          obtain rfl : t = l := hl
          cases t with
          | nil => exact absurd rfl hne
          | cons x m =>
            have hx := sign_ascii _ hmem x (by simp)
            have hm2 := (sign_le _ hmem).2
            have hsb : signB (x :: m) = true := List.contains_iff_mem.2 hmem
            rw [← h]
            unfold firstL
            rw [rune_low hx, if_neg ‹_›, if_neg ‹_›, if_neg ‹_›, if_neg ‹_›, if_neg ‹_›, if_neg ‹_›]
            unfold signL
            match m, hm2 with
            | [], _ =>
              have hcs : signB [x, c] = false := by simpa [endsB] using he
              rw [if_neg (fun hh => by have := hh.2; rw [show List.take 2 ([x] ++ c :: v) = [x, c] from rfl, hcs] at this; cases this)]
              rw [if_neg (fun hh : 2 ≤ [x].length ∧ _ => by simp at hh)]
              simp
            | y :: [], _ => simp
theorem kind_next {k : Nat} {t u : List UInt8} (hF : Fine k t) (he : endsB k t u = true) : kindZ (rune (spellW (k, t) ++ u)) ≠ 3 := by
  have h1 := first_next hF he
  intro h3
  unfold firstL at h1
  rw [if_neg (by omega), if_neg (by omega)] at h1
  have h4 : rune (spellW (k, t) ++ u) ≠ 34 := by
    intro h4; rw [h4] at h3; exact absurd h3 (by decide)
  rw [if_neg h4] at h1
  unfold signL at h1
  have key : ∀ n, signB ((spellW (k, t) ++ u).take (n + 1)) = true → False := by
    intro n hs
    have hm := signB_mem hs
    cases hx : spellW (k, t) ++ u with
    | nil => exact hF.2.1 (List.append_eq_nil_iff.1 hx).1
    | cons x m =>
      rw [hx] at hm h3
      have hxa := sign_ascii _ hm x (by simp)
      have : ∀ s ∈ signs, ∀ y, s.head? = some y → kindZ (y.toNat : Int) ≠ 3 := by decide
      refine this _ hm x (by simp) ?_
      unfold rune at h3
      rwa [dec_ascii x m hxa] at h3
  split at h1
  · rename_i hh; exact key 1 hh.2
  · split at h1
    · rename_i hh; exact key 0 hh.2
    · cases h1
theorem lexAt_next {k : Nat} {t u : List UInt8} (hF : Fine k t) (he : endsB k t u = true) (a : Nat) : lexAt a (spellW (k, t) ++ u) = (lexAt (a + (spellW (k, t)).length) u).map ((k, a, t) :: ·) := by
  rw [lexAt_tok a (by intro h; exact hF.2.1 (List.append_eq_nil_iff.1 h).1) (kind_next hF he) (first_next hF he), List.drop_left]
/-- Tokens' kinds and texts alone. -/
def toksL (l : List UInt8) : Option (List Tq) := (lexL l).map (·.map tq)
theorem toks_at (a : Nat) (l : List UInt8) : (lexAt a l).map (·.map tq) = toksL l := by
  have := lexAt_shift l 0 a
  rw [Nat.zero_add] at this
  rw [this]
  unfold toksL
  rw [lexL_at]
  cases lexAt 0 l with
  | none => rfl
  | some ws => simp [tq, shiftW]
theorem toks_next {k : Nat} {t u : List UInt8} (hF : Fine k t) (he : endsB k t u = true) : toksL (spellW (k, t) ++ u) = (toksL u).map ((k, t) :: ·) := by
  have h := lexAt_next hF he 0
  rw [show toksL (spellW (k, t) ++ u) = (lexAt 0 (spellW (k, t) ++ u)).map (·.map tq) from rfl, h, ← toks_at (0 + (spellW (k, t)).length) u]
  cases lexAt (0 + (spellW (k, t)).length) u <;> rfl
theorem toks_blank (c : UInt8) (hc : blankB c = true) (u : List UInt8) : toksL (c :: u) = toksL u := by
  have h := lexAt_gap [c] 0 u (by intro x hx; simp at hx; subst hx; exact hc)
  rw [← toks_at (0 + [c].length) u, ← h]; rfl
theorem toks_app (c : UInt8) (hb : enderB c = true) (u : List UInt8) {l : List UInt8} {ws : List Tq} (h : toksL l = some ws) : toksL (l ++ c :: u) = (toksL (c :: u)).map (ws ++ ·) := by
  unfold toksL at h
  cases hx : lexL l with
  | none => rw [hx] at h; cases h
  | some vs =>
    rw [hx] at h
    obtain rfl := Option.some.inj h
    have := lexAt_app c hb u l 0 vs hx
    rw [show toksL (l ++ c :: u) = (lexAt 0 (l ++ c :: u)).map (·.map tq) from rfl, this, ← toks_at (0 + l.length) (c :: u)]
    cases lexAt (0 + l.length) (c :: u) <;> simp
theorem toks_brackets {s : List UInt8} {ws : List Tq} (h : toksL s = some ws) : toksL (40 :: (s ++ [41])) = some ((5, [40]) :: (ws ++ [(5, [41])])) := by
  unfold toksL at h ⊢
  cases hx : lexL s with
  | none => rw [hx] at h; cases h
  | some vs =>
    rw [hx] at h
    obtain rfl := Option.some.inj h
    rw [lexL_brackets hx]
    simp [tq, shiftW]
theorem readL_toks (s : List UInt8) : readL s = (toksL s).bind readW := by
  unfold readL toksL
  cases lexL s <;> rfl
end Go.Proofs.YtddglepimbfdkaaGreatDoor.Par
end

section
/- Plain: reading goes on behind what was read (parse). No program in it. -/

namespace Go.Proofs.YtddglepimbfdkaaGreatDoor.Par
open Go.Proofs.YtddglepimbfdkaaGreatDoor.Sto

theorem go_mono1 : ∀ (n : Nat),
    (∀ t l r, chainGo n t l = some r → chainGo (n + 1) t l = some r) ∧
    (∀ t y l r, restGo n t y l = some r → restGo (n + 1) t y l = some r) ∧
    (∀ t y l r, binGo n t y l = some r → binGo (n + 1) t y l = some r) ∧
    (∀ l r, unaryGo n l = some r → unaryGo (n + 1) l = some r) ∧
    (∀ l r, primGo n l = some r → primGo (n + 1) l = some r) ∧
    (∀ l r, closedGo n l = some r → closedGo (n + 1) l = some r) ∧
    (∀ s l r, aggGo n s l = some r → aggGo (n + 1) s l = some r) ∧
    (∀ s l r, fnGo n s l = some r → fnGo (n + 1) s l = some r)
  | 0 => ⟨fun _ _ _ h => by simp [chainGo] at h, fun _ _ _ _ h => by simp [restGo] at h, fun _ _ _ _ h => by simp [binGo] at h, fun _ _ h => by simp [unaryGo] at h, fun _ _ h => by simp [primGo] at h, fun _ _ h => by simp [closedGo] at h, fun _ _ _ h => by simp [aggGo] at h, fun _ _ _ h => by simp [fnGo] at h⟩
  | n + 1 => by
    obtain ⟨i1, i2, i3, i4, i5, i6, i7, i8⟩ := go_mono1 n
    refine ⟨?_, ?_, ?_, ?_, ?_, ?_, ?_, ?_⟩
    · intro t l r h
      rw [chainGo] at h ⊢
      split at h
      · rename_i hc
        rw [if_pos hc]; exact i4 _ _ h
      · rename_i hc
        rw [if_neg hc]
        split at h
        · cases h
        · rename_i y k hk
          rw [i1 _ _ _ hk]; exact i2 _ _ _ _ h
    · intro t y l r h
      rw [restGo] at h ⊢
      split at h
      · rename_i hc
        rw [if_pos hc]
        split at h
        · cases h
        · rename_i z k hk
          rw [i3 _ _ _ _ hk]; exact i2 _ _ _ _ h
      · rename_i hc
        rw [if_neg hc]; exact h
    · intro t y l r h
      cases l with
      | nil => simp [binGo] at h
      | cons s l =>
        rw [binGo] at h ⊢
        split at h
        · cases h
        · rename_i mode names k hk
          try rw [hk]
          try dsimp only
          split at h
          · cases h
          · rename_i z j hj
            rw [i1 _ _ _ hj]; exact h
    · intro l r h
      rw [unaryGo] at h ⊢
      split at h
      · rename_i hc
        rw [if_pos hc]
        split at h
        · cases h
        · rename_i y k hk
          rw [i4 _ _ hk]; exact h
      · rename_i hc
        rw [if_neg hc]; exact i5 _ _ h
    · intro l r h
      cases l with
      | nil => simp [primGo] at h
      | cons s l =>
        rw [primGo] at h ⊢
        split at h
        · rename_i hc
          rw [if_pos hc]; exact i6 _ _ h
        · rename_i hc
          rw [if_neg hc]
          split at h
          · rename_i hc
            rw [if_pos hc]; exact h
          · rename_i hc
            rw [if_neg hc]
            split at h
            · rename_i hc
              rw [if_pos hc]
              split at h
              · rename_i hc
                rw [if_pos hc]; exact i7 _ _ _ h
              · rename_i hc
                rw [if_neg hc]
                split at h
                · rename_i hc
                  rw [if_pos hc]; exact i8 _ _ _ h
                · rename_i hc
                  rw [if_neg hc]; exact h
            · rename_i hc
              rw [if_neg hc]; exact h
    · intro l r h
      rw [closedGo] at h ⊢
      split at h
      · cases h
      · rename_i y k hk
        rw [i1 _ _ _ hk]; exact h
    · intro s l r h
      rw [aggGo] at h ⊢
      split at h
      · cases h
      · rename_i mode names k hk
        try rw [hk]
        try dsimp only
        split at h
        · rename_i hc
          rw [if_pos hc]
          split at h
          · cases h
          · rename_i j k2 hk2
            try rw [hk2]
            try dsimp only
            split at h
            · cases h
            · rename_i z k3 hk3
              rw [i6 _ _ hk3]; exact h
        · cases h
    · intro s l r h
      rw [fnGo] at h ⊢
      split at h
      · rename_i hc
        rw [if_pos hc]
        split at h
        · cases h
        · rename_i z k3 hk3
          rw [i6 _ _ hk3]; exact h
      · cases h
theorem chain_mono {n k t : Nat} {l : List Tq} {r : Ex × List Tq} (h : chainGo n t l = some r) (hk : n ≤ k) : chainGo k t l = some r := by
  induction hk with
  | refl => exact h
  | step _ ih => exact (go_mono1 _).1 _ _ _ ih

/-! ### what stands behind -/
/-- Tokens with which nothing that is whole goes on. -/
structure Stop (r : List Tq) : Prop where
  level : levelT r = 0
  brace : isT 5 [123] r = false
  square : isT 5 [91] r = false
theorem stop_nil : Stop [] := ⟨rfl, rfl, rfl⟩
theorem isT_app {k : Nat} {t : List UInt8} {l r : List Tq} (h : isT k t l = true) : isT k t (l ++ r) = true ∧ (l ++ r).tail = l.tail ++ r := by
  cases l with
  | nil => simp [isT] at h
  | cons x m => exact ⟨h, rfl⟩
theorem isT_off {k : Nat} {t : List UInt8} {l r : List Tq} (h : isT k t l = false) (hne : l ≠ []) : isT k t (l ++ r) = false := by
  cases l with
  | nil => exact absurd rfl hne
  | cons x m => exact h
theorem ne_of_isT {k : Nat} {t : List UInt8} {l : List Tq} (h : isT k t l = true) : l ≠ [] := by
  rintro rfl; simp [isT] at h
theorem listGo_more {α : Type} {one : List Tq → Option (α × List Tq)} {stop : List UInt8} (r : List Tq) (h1 : ∀ l x m, one l = some (x, m) → one (l ++ r) = some (x, m ++ r)) : ∀ (n : Nat) (l : List Tq) (acc xs : List α) (m : List Tq), listGo one stop n l acc = some (xs, m) → listGo one stop n (l ++ r) acc = some (xs, m ++ r)
  | 0, _, _, _, _, h => by simp [listGo] at h
  | n + 1, l, acc, xs, m, h => by
    rw [listGo] at h ⊢
    split at h
    · cases h
    · rename_i x k hk
      rw [h1 _ _ _ hk]
      try dsimp only
      split at h
      · rename_i hc
        rw [if_pos (isT_app hc).1, (isT_app hc).2]
        exact listGo_more r h1 n _ _ _ _ h
      · rename_i hc
        split at h
        · rename_i hd
          rw [if_neg (by rw [isT_off (by simpa using hc) (ne_of_isT hd)]; simp), if_pos (isT_app hd).1, (isT_app hd).2]
          injection h with h; injection h with e1 e2; subst e1; subst e2; rfl
        · cases h
theorem listGo_mono {α : Type} {one : List Tq → Option (α × List Tq)} {stop : List UInt8} : ∀ (n k : Nat) (l : List Tq) (acc : List α) (r : List α × List Tq), listGo one stop n l acc = some r → n ≤ k → listGo one stop k l acc = some r
  | 0, _, _, _, _, h, _ => by simp [listGo] at h
  | n + 1, 0, _, _, _, _, h => by omega
  | n + 1, k + 1, l, acc, r, h, hk => by
    rw [listGo] at h ⊢
    split at h
    · cases h
    · rename_i x j hj
      try rw [hj]
      try dsimp only
      split at h
      · rename_i hc
        rw [if_pos hc]; exact listGo_mono n k _ _ _ h (by omega)
      · rename_i hc
        rw [if_neg hc]; exact h
theorem listP_more {α : Type} {one : List Tq → Option (α × List Tq)} {stop : List UInt8} (r : List Tq) (h1 : ∀ l x m, one l = some (x, m) → one (l ++ r) = some (x, m ++ r)) (h0 : one [] = none) {l : List Tq} {xs : List α} {m : List Tq} (h : listP one stop l = some (xs, m)) : listP one stop (l ++ r) = some (xs, m ++ r) := by
  unfold listP at h ⊢
  split at h
  · rename_i hc
    rw [if_pos (isT_app hc).1, (isT_app hc).2]
    injection h with h; injection h with e1 e2; subst e1; subst e2; rfl
  · rename_i hc
    have hne : l ≠ [] := by
      rintro rfl
      rw [listGo, h0] at h; cases h
    rw [if_neg (by rw [isT_off (by simpa using hc) hne]; simp)]
    exact listGo_mono _ _ _ _ _ (listGo_more r h1 _ _ _ _ _ h) (by simp)
theorem nameP_more (r l : List Tq) (x : ByteArray) (m : List Tq) (h : nameP l = some (x, m)) : nameP (l ++ r) = some (x, m ++ r) := by
  cases l with
  | nil => cases h
  | cons y t =>
    rw [List.cons_append]
    change (if y.1 = 1 then some (bz y.2, t) else none) = _ at h
    change (if y.1 = 1 then some (bz y.2, t ++ r) else none) = _
    split at h
    · rename_i hc
      rw [if_pos hc]
      injection h with h; injection h with e1 e2; subst e1; subst e2; rfl
    · cases h
theorem matP_more (r l : List Tq) (x : Mat) (m : List Tq) (h : matP l = some (x, m)) : matP (l ++ r) = some (x, m ++ r) := by
  match l, h with
  | a :: b :: c :: t, h =>
    simp only [List.cons_append]
    change (if a.1 = 1 ∧ b.1 = 5 ∧ opS b.2 ≠ 0 ∧ c.1 = 3 then some ((bz a.2, (opS b.2 : Int), bz c.2), t) else none) = _ at h
    change (if a.1 = 1 ∧ b.1 = 5 ∧ opS b.2 ≠ 0 ∧ c.1 = 3 then some ((bz a.2, (opS b.2 : Int), bz c.2), t ++ r) else none) = _
    split at h
    · rename_i hc
      rw [if_pos hc]
      injection h with h; injection h with e1 e2; subst e1; subst e2; rfl
    · cases h
theorem modeP_more (r : List Tq) {a b : List UInt8} {l : List Tq} {p : Nat × List ByteArray} {m : List Tq} (hne : l ≠ []) (h : modeP a b l = some (p, m)) : modeP a b (l ++ r) = some (p, m ++ r) := by
  unfold modeP at h ⊢
  have key : ∀ (c : Nat), isT 5 [40] l.tail = true → ((listP nameP [41] l.tail.tail).map fun p => ((c, p.1), p.2)) = some (p, m) → (if isT 5 [40] (l ++ r).tail then (listP nameP [41] (l ++ r).tail.tail).map fun p => ((c, p.1), p.2) else none) = some (p, m ++ r) := by
    intro c hc h
    have e : (l ++ r).tail = l.tail ++ r := by cases l with | nil => exact absurd rfl hne | cons x y => rfl
    rw [e, if_pos (isT_app hc).1, (isT_app hc).2]
    cases hx : listP nameP [41] l.tail.tail with
    | none => rw [hx] at h; cases h
    | some q =>
      rw [hx] at h
      rw [listP_more r (nameP_more r) rfl (xs := q.1) (m := q.2) hx]
      injection h with h; injection h with e1 e2; subst e1; subst e2; rfl
  split at h
  · rename_i h1
    rw [if_pos (isT_app h1).1]
    split at h
    · rename_i hc; exact key 1 hc h
    · cases h
  · rename_i h1
    rw [if_neg (by rw [isT_off (by simpa using h1) hne]; simp)]
    split at h
    · rename_i h2
      rw [if_pos (isT_app h2).1]
      split at h
      · rename_i hc; exact key 2 hc h
      · cases h
    · rename_i h2
      rw [if_neg (by rw [isT_off (by simpa using h2) hne]; simp)]
      injection h with h; injection h with e1 e2; subst e1; subst e2; rfl
theorem numP_more (r : List Tq) {k : Nat} {l : List Tq} {n : Nat} {m : List Tq} (h : numP k l = some (n, m)) : numP k (l ++ r) = some (n, m ++ r) := by
  cases l with
  | nil => cases h
  | cons y t =>
    rw [List.cons_append]
    change (if y.1 = k then some (valL y.2, t) else none) = _ at h
    change (if y.1 = k then some (valL y.2, t ++ r) else none) = _
    split at h
    · rename_i hc
      rw [if_pos hc]
      injection h with h; injection h with e1 e2; subst e1; subst e2; rfl
    · cases h
theorem windowP_more {r : List Tq} (hr : Stop r) {l : List Tq} {n : Nat} {m : List Tq} (h : windowP l = some (n, m)) : windowP (l ++ r) = some (n, m ++ r) := by
  unfold windowP at h ⊢
  split at h
  · rename_i hc
    rw [if_pos (isT_app hc).1, (isT_app hc).2]
    split at h
    · cases h
    · rename_i k t hk
      rw [numP_more r hk]
      try dsimp only
      split at h
      · rename_i hd
        rw [if_pos (isT_app hd).1, (isT_app hd).2]
        injection h with h; injection h with e1 e2; subst e1; subst e2; rfl
      · cases h
  · rename_i hc
    injection h with h; injection h with e1 e2; subst e1; subst e2
    rw [if_neg]
    cases l with
    | nil => rw [List.nil_append, hr.square]; simp
    | cons x y => simpa [isT] using hc
theorem bracesP_more {r : List Tq} (hr : Stop r) {b : Bool} {l : List Tq} {ms : List Mat} {m : List Tq} (h : bracesP b l = some (ms, m)) : bracesP b (l ++ r) = some (ms, m ++ r) := by
  unfold bracesP at h ⊢
  split at h
  · rename_i hc
    rw [if_pos (isT_app hc).1, (isT_app hc).2]
    exact listP_more r (matP_more r) rfl h
  · rename_i hc
    have hn : ¬ isT 5 [123] (l ++ r) = true := by
      cases l with
      | nil => rw [List.nil_append, hr.brace]; simp
      | cons x y => simpa [isT] using hc
    rw [if_neg hn]
    split at h
    · rename_i hb
      rw [if_pos hb]
      injection h with h; injection h with e1 e2; subst e1; subst e2; rfl
    · cases h
theorem selP_more {r : List Tq} (hr : Stop r) {t : List UInt8} {b : Bool} {l : List Tq} {x : Ex} {m : List Tq} (h : selP t b l = some (x, m)) : selP t b (l ++ r) = some (x, m ++ r) := by
  unfold selP at h ⊢
  split at h
  · cases h
  · rename_i ms k hk
    rw [bracesP_more hr hk]
    try dsimp only
    split at h
    · rename_i hc
      rw [if_pos hc]
      cases hx : windowP k with
      | none => rw [hx] at h; cases h
      | some q =>
        rw [hx] at h
        rw [windowP_more hr (n := q.1) (m := q.2) hx]
        injection h with h; injection h with e1 e2; subst e1; subst e2; rfl
    · cases h
theorem aggNP_more (r : List Tq) {t : List UInt8} {l : List Tq} {n : Nat} {m : List Tq} (h : aggNP t l = some (n, m)) : aggNP t (l ++ r) = some (n, m ++ r) := by
  unfold aggNP at h ⊢
  split at h
  · rename_i hc
    rw [if_pos hc]
    split at h
    · cases h
    · rename_i k t hk
      rw [numP_more r hk]
      try dsimp only
      split at h
      · rename_i hd
        rw [if_pos (isT_app hd).1, (isT_app hd).2]
        injection h with h; injection h with e1 e2; subst e1; subst e2; rfl
      · cases h
  · rename_i hc
    rw [if_neg hc]
    injection h with h; injection h with e1 e2; subst e1; subst e2; rfl
theorem levelT_app {l r : List Tq} (hr : Stop r) : levelT (l ++ r) = levelT l := by
  cases l with
  | nil => rw [List.nil_append, hr.level]; rfl
  | cons x y => rfl
theorem prim_ne {n : Nat} {l : List Tq} {p : Ex × List Tq} (h : primGo n l = some p) : l ≠ [] := by
  rintro rfl
  cases n <;> simp [primGo] at h

theorem go_more {r : List Tq} (hr : Stop r) : ∀ (n : Nat),
    (∀ t l x m, 1 ≤ t → chainGo n t l = some (x, m) → chainGo n t (l ++ r) = some (x, m ++ r)) ∧
    (∀ t y l x m, 1 ≤ t → restGo n t y l = some (x, m) → restGo n t y (l ++ r) = some (x, m ++ r)) ∧
    (∀ t y l x m, 1 ≤ t → binGo n t y l = some (x, m) → binGo n t y (l ++ r) = some (x, m ++ r)) ∧
    (∀ l x m, unaryGo n l = some (x, m) → unaryGo n (l ++ r) = some (x, m ++ r)) ∧
    (∀ l x m, primGo n l = some (x, m) → primGo n (l ++ r) = some (x, m ++ r)) ∧
    (∀ l x m, closedGo n l = some (x, m) → closedGo n (l ++ r) = some (x, m ++ r)) ∧
    (∀ s l x m, aggGo n s l = some (x, m) → aggGo n s (l ++ r) = some (x, m ++ r)) ∧
    (∀ s l x m, fnGo n s l = some (x, m) → fnGo n s (l ++ r) = some (x, m ++ r))
  | 0 => ⟨fun _ _ _ _ _ h => by simp [chainGo] at h, fun _ _ _ _ _ _ h => by simp [restGo] at h, fun _ _ _ _ _ _ h => by simp [binGo] at h, fun _ _ _ h => by simp [unaryGo] at h, fun _ _ _ h => by simp [primGo] at h, fun _ _ _ h => by simp [closedGo] at h, fun _ _ _ _ h => by simp [aggGo] at h, fun _ _ _ _ h => by simp [fnGo] at h⟩
  | n + 1 => by
    obtain ⟨i1, i2, i3, i4, i5, i6, i7, i8⟩ := go_more hr n
    refine ⟨?_, ?_, ?_, ?_, ?_, ?_, ?_, ?_⟩
    · intro t l x m ht h
      rw [chainGo] at h ⊢
      split at h
      · rename_i hc
        rw [if_pos hc]; exact i4 _ _ _ h
      · rename_i hc
        rw [if_neg hc]
        split at h
        · cases h
        · rename_i y k hk
          rw [i1 _ _ _ _ (by omega) hk]; exact i2 _ _ _ _ _ ht h
    · intro t y l x m ht h
      rw [restGo] at h ⊢
      rw [levelT_app hr]
      split at h
      · rename_i hc
        rw [if_pos hc]
        split at h
        · cases h
        · rename_i z k hk
          rw [i3 _ _ _ _ _ ht hk]; exact i2 _ _ _ _ _ ht h
      · rename_i hc
        rw [if_neg hc]
        injection h with h; injection h with e1 e2; subst e1; subst e2; rfl
    · intro t y l x m ht h
      cases l with
      | nil => simp [binGo] at h
      | cons s l =>
        rw [List.cons_append]
        rw [binGo] at h ⊢
        split at h
        · cases h
        · rename_i mode names k hk
          split at h
          · cases h
          · rename_i z j hj
            have hne : l ≠ [] := by
              rintro rfl
              have e1 : k = [] := by
                have := modeP_le hk
                exact List.eq_nil_of_length_eq_zero (by simpa using this)
              have := (go_lt n).1 _ _ _ _ hj
              rw [e1] at this; simp at this
            rw [modeP_more r hne hk]
            try dsimp only
            rw [i1 _ _ _ _ (by omega) hj]
            injection h with h; injection h with e1 e2; subst e1; subst e2; rfl
    · intro l x m h
      rw [unaryGo] at h ⊢
      split at h
      · rename_i hc
        rw [if_pos (isT_app hc).1, (isT_app hc).2]
        split at h
        · cases h
        · rename_i y k hk
          rw [i4 _ _ _ hk]
          injection h with h; injection h with e1 e2; subst e1; subst e2; rfl
      · rename_i hc
        rw [if_neg (by rw [isT_off (by simpa using hc) (prim_ne h)]; simp)]; exact i5 _ _ _ h
    · intro l x m h
      cases l with
      | nil => simp [primGo] at h
      | cons s l =>
        rw [List.cons_append]
        rw [primGo] at h ⊢
        split at h
        · rename_i hc
          rw [if_pos (show isT 5 [40] (s :: (l ++ r)) = true from hc)]; exact i6 _ _ _ h
        · rename_i hc
          rw [if_neg (show ¬ isT 5 [40] (s :: (l ++ r)) = true from hc)]
          split at h
          · rename_i hc
            rw [if_pos hc]
            injection h with h; injection h with e1 e2; subst e1; subst e2; rfl
          · rename_i hc
            rw [if_neg hc]
            split at h
            · rename_i hc
              rw [if_pos hc]
              split at h
              · rename_i hc
                rw [if_pos hc]; exact i7 _ _ _ _ h
              · rename_i hc
                rw [if_neg hc]
                split at h
                · rename_i hc
                  rw [if_pos hc]; exact i8 _ _ _ _ h
                · rename_i hc
                  rw [if_neg hc]
                  split at h
                  · cases h
                  · rename_i hc
                    rw [if_neg hc]
                    exact selP_more hr h
            · rename_i hc
              rw [if_neg hc]
              exact selP_more (l := s :: l) hr h
    · intro l x m h
      rw [closedGo] at h ⊢
      split at h
      · cases h
      · rename_i y k hk
        rw [i1 _ _ _ _ (Nat.le_refl _) hk]
        try dsimp only
        split at h
        · rename_i hc
          rw [if_pos (isT_app hc).1, (isT_app hc).2]
          injection h with h; injection h with e1 e2; subst e1; subst e2; rfl
        · cases h
    · intro s l x m h
      rw [aggGo] at h ⊢
      split at h
      · cases h
      · rename_i mode names k hk
        split at h
        · rename_i hc
          have hne : l ≠ [] := by
            rintro rfl
            have := modeP_le hk
            have e1 : k = [] := List.eq_nil_of_length_eq_zero (by simpa using this)
            exact ne_of_isT hc e1
          rw [modeP_more r hne hk]
          try dsimp only
          rw [if_pos (isT_app hc).1, (isT_app hc).2]
          split at h
          · cases h
          · rename_i j k2 hk2
            rw [aggNP_more r hk2]
            try dsimp only
            split at h
            · cases h
            · rename_i z k3 hk3
              rw [i6 _ _ _ hk3]
              injection h with h; injection h with e1 e2; subst e1; subst e2; rfl
        · cases h
    · intro s l x m h
      rw [fnGo] at h ⊢
      split at h
      · rename_i hc
        rw [if_pos (isT_app hc).1, (isT_app hc).2]
        split at h
        · cases h
        · rename_i z k3 hk3
          rw [i6 _ _ _ hk3]
          injection h with h; injection h with e1 e2; subst e1; subst e2; rfl
      · cases h
theorem chain_more {r : List Tq} (hr : Stop r) {n k t : Nat} (ht : 1 ≤ t) {l : List Tq} {x : Ex} {m : List Tq} (h : chainGo n t l = some (x, m)) (hk : n ≤ k) : chainGo k t (l ++ r) = some (x, m ++ r) :=
  chain_mono ((go_more hr n).1 _ _ _ _ ht h) hk
end Go.Proofs.YtddglepimbfdkaaGreatDoor.Par
end

section
/- Plain: brackets round a query; what stands behind one (parse). No program in it. -/


namespace Go.Proofs.YtddglepimbfdkaaGreatDoor.Par

theorem rest_end {n t : Nat} {x : Ex} {m : List Tq} (h : levelT m ≠ t) : restGo (n + 1) t x m = some (x, m) := by
  rw [restGo, if_neg h]
theorem prim_up {n : Nat} {l : List Tq} (hu : isT 5 [45] l = false) (x : Ex) (m : List Tq) (hp : primGo n l = some (x, m)) (hl : levelT m = 0) : chainGo (n + 5) 1 l = some (x, m) := by
  have h4 : chainGo (n + 2) 4 l = some (x, m) := by
    rw [chainGo, if_pos (by decide), unaryGo, if_neg (by rw [hu]; simp), hp]
  have h3 : chainGo (n + 3) 3 l = some (x, m) := by
    rw [chainGo, if_neg (by decide), h4]; exact rest_end (by omega)
  have h2 : chainGo (n + 4) 2 l = some (x, m) := by
    rw [chainGo, if_neg (by decide), h3]; exact rest_end (by omega)
  rw [chainGo, if_neg (by decide), h2]; exact rest_end (by omega)
theorem chain_none {l : List Tq} (h : ∀ F, unaryGo F l = none) : ∀ F t, chainGo F t l = none
  | 0, _ => by rw [chainGo]
  | F + 1, t => by
    rw [chainGo]
    split
    · exact h F
    · rw [chain_none h F (t + 1)]
theorem stop_close (r : List Tq) : Stop ((5, [41]) :: r) := ⟨rfl, rfl, rfl⟩
theorem stop_word (w : List UInt8) (r : List Tq) : Stop ((1, w) :: r) := ⟨rfl, rfl, rfl⟩

/-- A query without a tail. -/
def Bare (q : Qr) : Prop := q.order = 0 ∧ q.limit = -1 ∧ q.offset = -1
theorem order_cases {m k : List Tq} {o : Nat} (h : orderP m = some (o, k)) : (o = 0 ∧ m = k ∧ isT 1 wOrder m = false) ∨ (o ≠ 0 ∧ isT 1 wOrder m = true) := by
  unfold orderP at h
  split at h
  · split at h
    · cases h; exact .inr ⟨by decide, ‹_›⟩
    · split at h
      · cases h; exact .inr ⟨by decide, ‹_›⟩
      · cases h
  · cases h; exact .inl ⟨rfl, rfl, Bool.eq_false_iff.2 ‹_›⟩
theorem rows_cases {w : List UInt8} {m k : List Tq} {o : Int} (h : rowsP w m = some (o, k)) : (o = -1 ∧ m = k ∧ isT 1 w m = false) ∨ (0 ≤ o ∧ isT 1 w m = true) := by
  unfold rowsP at h
  split at h
  · split at h
    · cases h
    · split at h
      · cases h; exact .inr ⟨by omega, ‹_›⟩
      · cases h
  · cases h; exact .inl ⟨rfl, rfl, Bool.eq_false_iff.2 ‹_›⟩
theorem read_parts {l : List Tq} {q : Qr} (h : readW l = some q) : ∃ m, chainGo (9 * l.length + 9) 1 l = some (q.root, m) ∧ countE q.root ≤ 200 ∧ ((Bare q ∧ m = []) ∨ (¬ Bare q ∧ (isT 1 wOrder m = true ∨ isT 1 wLimit m = true ∨ isT 1 wOffset m = true))) := by
  unfold readW at h
  split at h
  · cases h
  · rename_i x m hc
    split at h
    · cases h
    · rename_i q' k ht
      split at h
      · rename_i hk
        injection h with h
        subst h
        simp at hk
        obtain ⟨rfl, hk2⟩ := hk
        unfold tailsP at ht
        split at ht
        · cases ht
        · rename_i o l1 ho
          split at ht
          · cases ht
          · rename_i a l2 ha
            split at ht
            · cases ht
            · rename_i b l3 hb
              injection ht with ht
              injection ht with e1 e2
              subst e1; subst e2
              refine ⟨m, hc, hk2, ?_⟩
              unfold Bare
              dsimp only
              rcases order_cases ho with ⟨h1, h2, _⟩ | ⟨h1, h2⟩
              · subst h2
                rcases rows_cases ha with ⟨h3, h4, _⟩ | ⟨h3, h4⟩
                · subst h4
                  rcases rows_cases hb with ⟨h5, h6, _⟩ | ⟨h5, h6⟩
                  · exact .inl ⟨⟨h1, h3, h5⟩, h6⟩
                  · exact .inr ⟨by omega, .inr (.inr h6)⟩
                · exact .inr ⟨by omega, .inr (.inl h4)⟩
              · exact .inr ⟨by omega, .inl h2⟩
      · cases h
theorem read_of {l : List Tq} {x : Ex} {m : List Tq} {q : Qr} {n : Nat} (h : chainGo n 1 l = some (x, m)) (hn : n ≤ 9 * l.length + 9) (ht : tailsP x m = some (q, [])) (hc : countE x ≤ 200) : readW l = some q := by
  unfold readW
  rw [chain_mono h hn]
  dsimp only
  rw [ht]
  simp [hc]
theorem tails_nil (x : Ex) : tailsP x [] = some (⟨x, 0, -1, -1⟩, []) := rfl

/-! ### brackets -/
theorem chain_brackets {n : Nat} {l : List Tq} {x : Ex} (h : chainGo n 1 l = some (x, [])) (r : List Tq) (hr : levelT r = 0) : chainGo (n + 7) 1 ((5, [40]) :: (l ++ (5, [41]) :: r)) = some (x, r) := by
  refine prim_up (n := n + 2) rfl x r ?_ hr
  rw [primGo, if_pos (by rfl), closedGo, chain_more (stop_close r) (Nat.le_refl _) h (Nat.le_refl _)]
  rfl
theorem read_brackets {l : List Tq} {q : Qr} (h : readW l = some q) (hb : Bare q) : readW ((5, [40]) :: (l ++ [(5, [41])])) = some q := by
  obtain ⟨m, h1, h2, h3⟩ := read_parts h
  obtain rfl : m = [] := by
    rcases h3 with ⟨_, h3⟩ | ⟨h3, _⟩
    · exact h3
    · exact absurd hb h3
  obtain ⟨x, o, a, b⟩ := q
  obtain ⟨e1, e2, e3⟩ := hb
  dsimp only at e1 e2 e3
  subst e1; subst e2; subst e3
  exact read_of (chain_brackets h1 [] rfl) (by simp; omega) (tails_nil x) h2
def brack : Nat → List Tq → List Tq
  | 0, l => l
  | n + 1, l => (5, [40]) :: (brack n l ++ [(5, [41])])
theorem read_bracks {l : List Tq} {q : Qr} (h : readW l = some q) (hb : Bare q) : ∀ n, readW (brack n l) = some q
  | 0 => h
  | n + 1 => read_brackets (read_bracks h hb n) hb
theorem brack_flat : ∀ (n : Nat) (l r : List Tq), brack n l ++ r = List.replicate n (5, [40]) ++ (l ++ (List.replicate n (5, [41]) ++ r))
  | 0, l, r => rfl
  | n + 1, l, r => by
    have e : List.replicate (n + 1) ((5 : Nat), ([41] : List UInt8)) ++ r = List.replicate n (5, [41]) ++ ((5, [41]) :: r) := by
      rw [List.replicate_succ', List.append_assoc]; rfl
    rw [e]
    show (5, [40]) :: ((brack n l ++ [(5, [41])]) ++ r) = _
    rw [List.append_assoc, show [((5 : Nat), ([41] : List UInt8))] ++ r = (5, [41]) :: r from rfl, brack_flat n l, List.replicate_succ]
    rfl
theorem closed_none {l : List Tq} {x : Ex} {m : List Tq} {n : Nat} (h : chainGo n 1 l = some (x, m)) (hm : isT 5 [41] m = false) (hne : m ≠ []) (r : List Tq) (hr : Stop r) : ∀ F, closedGo F (l ++ r) = none
  | 0 => by rw [closedGo]
  | F + 1 => by
    rw [closedGo]
    have h1 := chain_more hr (Nat.le_refl _) h (Nat.le_max_left n F)
    cases hx : chainGo F 1 (l ++ r) with
    | none => rfl
    | some p =>
      have h2 := chain_mono hx (Nat.le_max_right n F)
      rw [h1] at h2
      obtain rfl := Option.some.inj h2
      dsimp only
      rw [if_neg (by rw [isT_off hm hne]; simp)]
theorem brack_none {l : List Tq} {_r : List Tq} (h : ∀ F, closedGo F l = none) : ∀ F t, chainGo F t ((5, [40]) :: l) = none := by
  refine chain_none fun F => ?_
  cases F with
  | zero => rw [unaryGo]
  | succ F =>
    rw [unaryGo, if_neg (by simp [isT])]
    cases F with
    | zero => rw [primGo]
    | succ F => rw [primGo, if_pos (by rfl)]; exact h F
theorem bracks_none {l : List Tq} {q : Qr} (h : readW l = some q) (hb : ¬ Bare q) : ∀ (n : Nat) (r : List Tq), Stop r → ∀ F t, chainGo F t (List.replicate (n + 1) (5, [40]) ++ (l ++ r)) = none
  | 0, r, hr => by
    obtain ⟨m, h1, _, h3⟩ := read_parts h
    have h4 : isT 1 wOrder m = true ∨ isT 1 wLimit m = true ∨ isT 1 wOffset m = true := by
      rcases h3 with ⟨h3, _⟩ | ⟨_, h3⟩
      · exact absurd h3 hb
      · exact h3
    have h5 : m ≠ [] ∧ isT 5 [41] m = false := by
      rcases h4 with h4 | h4 | h4
      all_goals
        refine ⟨ne_of_isT h4, ?_⟩
        cases m with
        | nil => rfl
        | cons y ys => simp [isT] at h4 ⊢; omega
    exact brack_none (_r := []) (closed_none h1 h5.2 h5.1 r hr)
  | n + 1, r, hr => by
    refine brack_none (_r := []) fun F => ?_
    cases F with
    | zero => rw [closedGo]
    | succ F =>
      rw [closedGo]
      have := bracks_none h hb n r hr F 1
      rw [show List.replicate (n + 1) ((5 : Nat), ([40] : List UInt8)) ++ (l ++ r) = List.replicate n (5, [40]) ++ ((5, [40]) :: (l ++ r)) by rw [List.replicate_succ', List.append_assoc]; rfl] at this
      rw [show List.replicate n ((5 : Nat), ([40] : List UInt8)) ++ ((5, [40]) :: (l ++ r)) = List.replicate (n + 1) (5, [40]) ++ (l ++ r) by rw [List.replicate_succ', List.append_assoc]; rfl] at this
      rw [show (List.replicate (n + 1) ((5 : Nat), ([40] : List UInt8))).append (l ++ r) = List.replicate (n + 1) (5, [40]) ++ (l ++ r) from rfl, this]
theorem read_bracks_none {l : List Tq} {q : Qr} (h : readW l = some q) (hb : ¬ Bare q) (n : Nat) (hn : 1 ≤ n) : readW (brack n l) = none := by
  obtain ⟨k, rfl⟩ : ∃ k, n = k + 1 := ⟨n - 1, by omega⟩
  unfold readW
  have e := brack_flat (k + 1) l []
  rw [List.append_nil, List.append_nil] at e
  rw [e, bracks_none h hb k _ (by rw [List.replicate_succ]; exact stop_close _)]

/-! ### tails -/
def tailO (o : Nat) : List Tq := if o = 1 then [(1, wOrder), (1, wAsc)] else if o = 2 then [(1, wOrder), (1, wDesc)] else []
def tailR (w : List UInt8) (n : Int) : List Tq := if 0 ≤ n then [(1, w), (2, Go.Lib.decDigits n.toNat)] else []
theorem read_tails {l : List Tq} {x : Ex} (h : readW l = some ⟨x, 0, -1, -1⟩) (t : List Tq) (hs : Stop t) : ∃ n, chainGo n 1 (l ++ t) = some (x, t) ∧ n ≤ 9 * (l ++ t).length + 9 ∧ countE x ≤ 200 := by
  obtain ⟨m, h1, h2, h3⟩ := read_parts h
  obtain rfl : m = [] := by
    rcases h3 with ⟨_, h3⟩ | ⟨h3, _⟩
    · exact h3
    · exact absurd ⟨rfl, rfl, rfl⟩ h3
  exact ⟨_, chain_more hs (Nat.le_refl _) h1 (Nat.le_refl _), by simp; omega, h2⟩
theorem readW_of_chain {l : List Tq} {x : Ex} {m : List Tq} {n : Nat} (h : chainGo n 1 l = some (x, m)) (hn : n ≤ 9 * l.length + 9) (hc : countE x ≤ 200) : readW l = match tailsP x m with | none => none | some (q, k) => if k.isEmpty then some q else none := by
  unfold readW
  rw [chain_mono h hn]
  dsimp only
  cases tailsP x m with
  | none => rfl
  | some p => simp [hc]
end Go.Proofs.YtddglepimbfdkaaGreatDoor.Par
end

section
/- Plain: chains of three numbers (parse). No program in it. -/

namespace Go.Proofs.YtddglepimbfdkaaGreatDoor.Par
open Go.Lib

def chainOps : List (List UInt8) := [[61, 61], [33, 61], [60], [60, 61], [62], [62, 61], [43], [45], [42], [47], [37]]
theorem chains_read (a b c : List UInt8) : ∀ P ∈ chainOps, ∀ Q ∈ chainOps,
    readW [(2, a), (5, P), (2, b), (5, Q), (2, c)] = some ⟨if levelS P < levelS Q then .bin (bz P) 0 [] (.num (valL a)) (.bin (bz Q) 0 [] (.num (valL b)) (.num (valL c))) else .bin (bz Q) 0 [] (.bin (bz P) 0 [] (.num (valL a)) (.num (valL b))) (.num (valL c)), 0, -1, -1⟩ ∧
    readW [(5, [40]), (2, a), (5, P), (2, b), (5, [41]), (5, Q), (2, c)] = some ⟨.bin (bz Q) 0 [] (.bin (bz P) 0 [] (.num (valL a)) (.num (valL b))) (.num (valL c)), 0, -1, -1⟩ ∧
    readW [(2, a), (5, P), (5, [40]), (2, b), (5, Q), (2, c), (5, [41])] = some ⟨.bin (bz P) 0 [] (.num (valL a)) (.bin (bz Q) 0 [] (.num (valL b)) (.num (valL c))), 0, -1, -1⟩ := by
  intro P hP Q hQ
  simp only [chainOps, List.mem_cons, List.not_mem_nil, or_false] at hP hQ
  rcases hP with rfl | rfl | rfl | rfl | rfl | rfl | rfl | rfl | rfl | rfl | rfl <;> rcases hQ with rfl | rfl | rfl | rfl | rfl | rfl | rfl | rfl | rfl | rfl | rfl <;> exact ⟨rfl, rfl, rfl⟩
theorem ends2 (t v : List UInt8) (c : UInt8) (h1 : c.toNat < 128) (h2 : wordy [c] = false) : endsB 2 t (c :: v) = true := by simp [endsB, h1, h2]
theorem ends5 (t v : List UInt8) (c : UInt8) (h : signB (t ++ [c]) = false) : endsB 5 t (c :: v) = true := by simp [endsB, h]
theorem digit_low {c : UInt8} (h : digB c = true) : c.toNat < 128 := by
  have : 48 ≤ c.toNat ∧ c.toNat ≤ 57 := of_decide_eq_true h
  omega
theorem sign_digit (x : List UInt8) (c : UInt8) (h : digB c = true) : signB (x ++ [c]) = false := by
  refine Bool.eq_false_iff.2 fun h2 => ?_
  have hm := signB_mem h2
  have : ∀ t ∈ signs, ∀ y ∈ t, digB y = false := by decide
  have := this _ hm c (by simp)
  rw [this] at h; cases h
theorem ends_digits (k : List UInt8) (v : Nat) (u : List UInt8) : endsB 5 k (decDigits v ++ u) = true := by
  cases hd : decDigits v with
  | nil => exact absurd hd (dec_ne v)
  | cons c l =>
    have hc := dec_dig v c (by rw [hd]; simp)
    exact ends5 _ _ _ (sign_digit k c hc)
theorem chain_fine : ∀ P ∈ chainOps, P ∈ signs := by decide
theorem chain_ends : ∀ P ∈ chainOps, ∃ c l, P = c :: l ∧ c.toNat < 128 ∧ wordy [c] = false := by
  intro P hP
  simp only [chainOps, List.mem_cons, List.not_mem_nil, or_false] at hP
  rcases hP with rfl | rfl | rfl | rfl | rfl | rfl | rfl | rfl | rfl | rfl | rfl <;> exact ⟨_, _, rfl, by decide, by decide +kernel⟩
theorem ends_num (t : List UInt8) (P : List UInt8) (hP : P ∈ chainOps) (u : List UInt8) : endsB 2 t (P ++ u) = true := by
  obtain ⟨c, l, rfl, h1, h2⟩ := chain_ends P hP
  exact ends2 _ _ _ h1 h2
theorem toks_num (v : Nat) (hv : v ≤ 1000000000000) (u : List UInt8) (h : endsB 2 (decDigits v) u = true) : toksL (decDigits v ++ u) = (toksL u).map ((2, decDigits v) :: ·) :=
  toks_next (fine_number v hv) h
theorem toks_sign (P : List UInt8) (hP : P ∈ signs) (u : List UInt8) (h : endsB 5 P u = true) : toksL (P ++ u) = (toksL u).map ((5, P) :: ·) :=
  toks_next (fine_sign P hP) h
theorem toks_last (v : Nat) (hv : v ≤ 1000000000000) : toksL (decDigits v) = some [(2, decDigits v)] := by
  have := toks_num v hv [] rfl
  rw [List.append_nil] at this
  rw [this]; rfl
theorem chains_toks (a b c : Nat) (ha : a ≤ 1000000000000) (hb : b ≤ 1000000000000) (hc : c ≤ 1000000000000) (P Q : List UInt8) (hP : P ∈ chainOps) (hQ : Q ∈ chainOps) :
    toksL (decDigits a ++ (P ++ (decDigits b ++ 32 :: (Q ++ decDigits c)))) = some [(2, decDigits a), (5, P), (2, decDigits b), (5, Q), (2, decDigits c)] ∧
    toksL (40 :: (decDigits a ++ (P ++ (decDigits b ++ 41 :: (Q ++ decDigits c))))) = some [(5, [40]), (2, decDigits a), (5, P), (2, decDigits b), (5, [41]), (5, Q), (2, decDigits c)] ∧
    toksL (decDigits a ++ (P ++ 40 :: (decDigits b ++ (Q ++ (decDigits c ++ [41]))))) = some [(2, decDigits a), (5, P), (5, [40]), (2, decDigits b), (5, Q), (2, decDigits c), (5, [41])] := by
  have e1 := toks_last c hc
  have e2 : toksL (Q ++ decDigits c) = some [(5, Q), (2, decDigits c)] := by
    have h := ends_digits Q c []
    rw [List.append_nil] at h
    rw [toks_sign Q (chain_fine Q hQ) _ h, e1]; rfl
  have e41 : toksL [41] = some [(5, [41])] := by decide +kernel
  have e3 : toksL (Q ++ (decDigits c ++ [41])) = some [(5, Q), (2, decDigits c), (5, [41])] := by
    rw [toks_sign Q (chain_fine Q hQ) _ (ends_digits Q c _), toks_num c hc _ (ends2 _ _ _ (by decide) (by decide +kernel)), e41]; rfl
  refine ⟨?_, ?_, ?_⟩
  · rw [toks_num a ha _ (ends_num _ P hP _), toks_sign P (chain_fine P hP) _ (ends_digits P b _), toks_num b hb _ (ends2 _ _ _ (by decide) (by decide +kernel)), toks_blank 32 (by decide), e2]; rfl
  · have h40 := toks_sign [40] (by decide) (decDigits a ++ (P ++ (decDigits b ++ 41 :: (Q ++ decDigits c)))) (ends_digits _ a _)
    have h41 := toks_sign [41] (by decide) (Q ++ decDigits c) (by
      obtain ⟨x, l, rfl, h1, h2⟩ := chain_ends Q hQ
      have : ∀ y : UInt8, signB ([41] ++ [y]) = false := by
        intro y
        refine Bool.eq_false_iff.2 fun h2 => ?_
        have hm := signB_mem h2
        have : ∀ t ∈ signs, t.length = 2 → t.headD 0 ≠ 41 := by decide
        exact this _ hm rfl rfl
      exact ends5 _ _ _ (this x))
    have h40' : toksL (40 :: (decDigits a ++ (P ++ (decDigits b ++ 41 :: (Q ++ decDigits c))))) = _ := h40
    have h41' : toksL (41 :: (Q ++ decDigits c)) = _ := h41
    rw [h40', toks_num a ha _ (ends_num _ P hP _), toks_sign P (chain_fine P hP) _ (ends_digits P b _), toks_num b hb _ (ends2 _ _ _ (by decide) (by decide +kernel)), h41', e2]; rfl
  · have h40 := toks_sign [40] (by decide) (decDigits b ++ (Q ++ (decDigits c ++ [41]))) (ends_digits _ b _)
    have h40' : toksL (40 :: (decDigits b ++ (Q ++ (decDigits c ++ [41])))) = _ := h40
    have hPe : endsB 5 P (40 :: (decDigits b ++ (Q ++ (decDigits c ++ [41])))) = true := by
      have : ∀ x ∈ chainOps, signB (x ++ [40]) = false := by decide
      exact ends5 _ _ _ (this P hP)
    rw [toks_num a ha _ (ends_num _ P hP _), toks_sign P (chain_fine P hP) _ hPe, h40', toks_num b hb _ (ends_num _ Q hQ _), e3]; rfl
end Go.Proofs.YtddglepimbfdkaaGreatDoor.Par
end

section
/- Plain: brackets round a text, tails behind one (parse). No program in it. -/

namespace Go.Proofs.YtddglepimbfdkaaGreatDoor.Par
open Go.Lib

/-! ### brackets round a text -/
def brT : Nat → List UInt8 → List UInt8
  | 0, l => l
  | n + 1, l => 40 :: (brT n l ++ [41])
theorem brT_length (l : List UInt8) : ∀ n, (brT n l).length = l.length + 2 * n
  | 0 => rfl
  | n + 1 => by simp [brT, brT_length l n]; omega
theorem toks_br {l : List UInt8} {ws : List Tq} (h : toksL l = some ws) : ∀ n, toksL (brT n l) = some (brack n ws)
  | 0 => h
  | n + 1 => toks_brackets (toks_br h n)
theorem readL_some {l : List UInt8} {q : Qr} (h : readL l = some q) : ∃ ws, toksL l = some ws ∧ readW ws = some q := by
  rw [readL_toks] at h
  cases hx : toksL l with
  | none => rw [hx] at h; cases h
  | some ws => rw [hx] at h; exact ⟨ws, rfl, h⟩
theorem readL_br {l : List UInt8} {q : Qr} (h : readL l = some q) (hb : Bare q) (n : Nat) : readL (brT n l) = some q := by
  obtain ⟨ws, h1, h2⟩ := readL_some h
  rw [readL_toks, toks_br h1 n]
  exact read_bracks h2 hb n
theorem readL_br_none {l : List UInt8} {q : Qr} (h : readL l = some q) (hb : ¬ Bare q) (n : Nat) (hn : 1 ≤ n) : readL (brT n l) = none := by
  obtain ⟨ws, h1, h2⟩ := readL_some h
  rw [readL_toks, toks_br h1 n]
  exact read_bracks_none h2 hb n hn

/-! ### tails behind a text -/
def oTxt (o : Nat) : List UInt8 := if o = 1 then 32 :: (wOrder ++ 32 :: wAsc) else if o = 2 then 32 :: (wOrder ++ 32 :: wDesc) else []
def rTxt (w : List UInt8) (n : Int) : List UInt8 := if 0 ≤ n then 32 :: (w ++ 32 :: decDigits n.toNat) else []
def Gap (v : List UInt8) : Prop := v = [] ∨ ∃ u, v = 32 :: u
theorem gap_o (o : Nat) : Gap (oTxt o) := by
  unfold oTxt Gap
  split
  · exact .inr ⟨_, rfl⟩
  · split
    · exact .inr ⟨_, rfl⟩
    · exact .inl rfl
theorem gap_r (w : List UInt8) (n : Int) : Gap (rTxt w n) := by
  unfold rTxt Gap
  split
  · exact .inr ⟨_, rfl⟩
  · exact .inl rfl
theorem Gap.app {u v : List UInt8} (hu : Gap u) (hv : Gap v) : Gap (u ++ v) := by
  rcases hu with rfl | ⟨t, rfl⟩
  · exact hv
  · exact .inr ⟨_, rfl⟩
theorem toks_gap {l v : List UInt8} {ws vs : List Tq} (h : toksL l = some ws) (hg : Gap v) (hv : toksL v = some vs) : toksL (l ++ v) = some (ws ++ vs) := by
  rcases hg with rfl | ⟨u, rfl⟩
  · have e : toksL [] = some [] := by decide +kernel
    rw [e] at hv
    obtain rfl := Option.some.inj hv
    rw [List.append_nil, List.append_nil, h]
  · rw [toks_app 32 (by decide +kernel) u h, hv]; rfl
theorem toks_o (o : Nat) : toksL (oTxt o) = some (tailO o) := by
  unfold oTxt tailO
  split
  · decide +kernel
  · split
    · decide +kernel
    · decide +kernel
theorem toks_r (w : List UInt8) (hw : toksL (32 :: w) = some [(1, w)]) (n : Int) (hn : n ≤ 3000) : toksL (rTxt w n) = some (tailR w n) := by
  unfold rTxt tailR
  split
  · have h := toks_app 32 (by decide +kernel) (decDigits n.toNat) hw
    rw [List.cons_append] at h
    rw [h, toks_blank 32 (by decide), toks_last n.toNat (by omega)]; rfl
  · decide +kernel
theorem toks_limit (n : Int) (hn : n ≤ 3000) : toksL (rTxt wLimit n) = some (tailR wLimit n) := toks_r wLimit (by decide +kernel) n hn
theorem toks_offset (n : Int) (hn : n ≤ 3000) : toksL (rTxt wOffset n) = some (tailR wOffset n) := toks_r wOffset (by decide +kernel) n hn

theorem order_tail (o : Nat) (ho : o ≤ 2) (v : List Tq) (hv : isT 1 wOrder v = false) : orderP (tailO o ++ v) = some (o, v) := by
  have : o = 0 ∨ o = 1 ∨ o = 2 := by omega
  rcases this with rfl | rfl | rfl
  · show orderP v = _
    unfold orderP; rw [if_neg (by rw [hv]; simp)]
  · rfl
  · rfl
theorem rows_tail (w : List UInt8) (a : Int) (ha : -1 ≤ a) (v : List Tq) (hv : isT 1 w v = false) : rowsP w (tailR w a ++ v) = if 2000 < a then none else some (a, v) := by
  unfold tailR
  split
  · have e : numP 2 ((2, decDigits a.toNat) :: v) = some (valL (decDigits a.toNat), v) := rfl
    rw [val_dec] at e
    show rowsP w ((1, w) :: (2, decDigits a.toNat) :: v) = _
    unfold rowsP
    rw [if_pos (by simp [isT])]
    simp only [List.tail_cons, e]
    by_cases h : 2000 < a
    · rw [if_neg (by omega), if_pos h]
    · rw [if_pos (by omega), if_neg h, Int.toNat_of_nonneg ‹_›]
  · show rowsP w v = _
    unfold rowsP
    rw [if_neg (by rw [hv]; simp), if_neg (by omega), show a = -1 by omega]
theorem order_off (w : List UInt8) (hw : (w == wOrder) = false) (a : Int) (v : List Tq) (hv : isT 1 wOrder v = false) : isT 1 wOrder (tailR w a ++ v) = false := by
  unfold tailR
  split
  · simp [isT] at hw ⊢; exact hw
  · exact hv
theorem limit_off (b : Int) (v : List Tq) (hv : isT 1 wLimit v = false) : isT 1 wLimit (tailR wOffset b ++ v) = false := by
  unfold tailR
  split
  · rfl
  · exact hv
theorem tails_parts (x : Ex) (o : Nat) (ho : o ≤ 2) (a b : Int) (ha : -1 ≤ a) (hb : -1 ≤ b) (v : List Tq) (h1 : isT 1 wOrder (tailR wLimit a ++ (tailR wOffset b ++ v)) = false) (h2 : isT 1 wLimit v = false) (h3 : isT 1 wOffset v = false) :
    tailsP x (tailO o ++ (tailR wLimit a ++ (tailR wOffset b ++ v))) = if 2000 < a ∨ 2000 < b then none else some (⟨x, o, a, b⟩, v) := by
  unfold tailsP
  rw [order_tail o ho _ h1]
  dsimp only
  rw [rows_tail wLimit a ha _ (limit_off b v h2)]
  by_cases h : 2000 < a
  · rw [if_pos h, if_pos (.inl h)]
  · rw [if_neg h]
    dsimp only
    rw [rows_tail wOffset b hb v h3]
    by_cases h' : 2000 < b
    · rw [if_pos h', if_pos (.inr h')]
    · rw [if_neg h', if_neg (by rintro (h4 | h4) <;> omega)]
theorem stop_o (o : Nat) (v : List Tq) (hv : Stop v) : Stop (tailO o ++ v) := by
  unfold tailO
  split
  · exact stop_word _ _
  · split
    · exact stop_word _ _
    · exact hv
theorem stop_r (w : List UInt8) (a : Int) (v : List Tq) (hv : Stop v) : Stop (tailR w a ++ v) := by
  unfold tailR
  split
  · exact stop_word _ _
  · exact hv
theorem readL_tails {s : List UInt8} {x : Ex} (h : readL s = some ⟨x, 0, -1, -1⟩) (o : Nat) (ho : o ≤ 2) (a b : Int) (ha : -1 ≤ a) (ha2 : a ≤ 3000) (hb : -1 ≤ b) (hb2 : b ≤ 3000) :
    readL (s ++ (oTxt o ++ (rTxt wLimit a ++ rTxt wOffset b))) = if 2000 < a ∨ 2000 < b then none else some ⟨x, o, a, b⟩ := by
  obtain ⟨ws, h1, h2⟩ := readL_some h
  have ht := toks_gap (toks_o o) ((gap_r _ _).app (gap_r _ _)) (toks_gap (toks_limit a ha2) (gap_r _ _) (toks_offset b hb2))
  rw [readL_toks, toks_gap h1 ((gap_o o).app ((gap_r _ _).app (gap_r _ _))) ht]
  show readW _ = _
  obtain ⟨n, h3, h4, h5⟩ := read_tails h2 (tailO o ++ (tailR wLimit a ++ tailR wOffset b)) (stop_o o _ (stop_r _ a _ (by have := stop_r wOffset b [] stop_nil; rwa [List.append_nil] at this)))
  rw [readW_of_chain h3 h4 h5]
  have h6 := tails_parts x o ho a b ha hb [] (order_off _ (by decide) a _ (order_off _ (by decide) b _ rfl)) rfl rfl
  rw [List.append_nil] at h6
  rw [h6]
  by_cases hc : 2000 < a ∨ 2000 < b
  · rw [if_pos hc, if_pos hc]
  · rw [if_neg hc, if_neg hc]; rfl
theorem readL_twice {s : List UInt8} {x : Ex} (h : readL s = some ⟨x, 0, -1, -1⟩) (o : Nat) (ho : o ≤ 2) (a b : Int) (ha : -1 ≤ a) (ha2 : a ≤ 2000) (hb : -1 ≤ b) (hb2 : b ≤ 2000) (hn : ¬ (o = 0 ∧ a < 0 ∧ b < 0)) :
    readL (s ++ (oTxt o ++ (rTxt wLimit a ++ rTxt wOffset b)) ++ oTxt 1) = none := by
  obtain ⟨ws, h1, h2⟩ := readL_some h
  have ht := toks_gap (toks_o o) ((gap_r _ _).app ((gap_r _ _).app (gap_o 1))) (toks_gap (toks_limit a (by omega)) ((gap_r _ _).app (gap_o 1)) (toks_gap (toks_offset b (by omega)) (gap_o 1) (toks_o 1)))
  have ht2 := toks_gap h1 ((gap_o o).app ((gap_r wLimit a).app ((gap_r wOffset b).app (gap_o 1)))) ht
  rw [readL_toks]
  simp only [List.append_assoc] at ht2 ⊢
  rw [ht2]
  show readW _ = _
  obtain ⟨n, h3, h4, h5⟩ := read_tails h2 (tailO o ++ (tailR wLimit a ++ (tailR wOffset b ++ tailO 1))) (stop_o o _ (stop_r _ a _ (stop_r _ b _ (stop_word _ _))))
  rw [readW_of_chain h3 h4 h5]
  by_cases hc : a < 0 ∧ b < 0
  · have e1 : tailR wLimit a = [] := by unfold tailR; rw [if_neg (by omega)]
    have e2 : tailR wOffset b = [] := by unfold tailR; rw [if_neg (by omega)]
    rw [e1, e2, List.nil_append, List.nil_append]
    have : o = 1 ∨ o = 2 := by omega
    rcases this with rfl | rfl <;> rfl
  · have h1' : isT 1 wOrder (tailR wLimit a ++ (tailR wOffset b ++ tailO 1)) = false := by
      by_cases h0 : 0 ≤ a
      · unfold tailR; rw [if_pos h0]; rfl
      · have hb0 : 0 ≤ b := by omega
        unfold tailR; rw [if_neg h0, if_pos hb0]; rfl
    rw [tails_parts x o ho a b ha hb (tailO 1) h1' rfl rfl, if_neg (by omega)]
    rfl
end Go.Proofs.YtddglepimbfdkaaGreatDoor.Par
end

section
/- Plain: how a query is written (parse). No program in it. -/

namespace Go.Proofs.YtddglepimbfdkaaGreatDoor.Par
open Go.Proofs.YtddglepimbfdkaaGreatDoor.Sto

def commaN : List ByteArray → List UInt8
  | [] => []
  | [x] => x.data.toList
  | x :: y :: l => x.data.toList ++ 44 :: commaN (y :: l)
def signM (k : Int) : List UInt8 := if k = 1 then [61] else if k = 2 then [33, 61] else if k = 3 then [61, 126] else if k = 4 then [33, 126] else []
def oneM (m : Mat) : List UInt8 := m.1.data.toList ++ (signM m.2.1 ++ quoteL m.2.2.data.toList)
def commaM : List Mat → List UInt8
  | [] => []
  | [x] => oneM x
  | x :: y :: l => oneM x ++ 44 :: commaM (y :: l)
def hasS : Ex → Bool
  | .neg _ => true
  | .bin .. => true
  | _ => false
def modeW (mode : Nat) (a b : List UInt8) : List UInt8 := if mode = 1 then a else if mode = 2 then b else []
def nodeL : Ex → List UInt8
  | .num n => Go.Lib.decDigits n
  | .neg x => 45 :: (if hasS x then 40 :: (nodeL x ++ [41]) else nodeL x)
  | .bin op mode names l r => (if hasS l then 40 :: (nodeL l ++ [41]) else nodeL l) ++ (32 :: (op.data.toList ++ ((if mode = 1 ∨ mode = 2 then 32 :: (modeW mode wOn wIgn ++ (40 :: (commaN names ++ [41]))) else []) ++ (32 :: (if hasS r then 40 :: (nodeL r ++ [41]) else nodeL r)))))
  | .agg name n mode names x => name.data.toList ++ ((if mode = 1 ∨ mode = 2 then 32 :: (modeW mode wBy wWithout ++ ([32, 40] ++ (commaN names ++ [41, 32]))) else []) ++ (40 :: ((if numbB name.data.toList then Go.Lib.decDigits n ++ [44] else []) ++ (nodeL x ++ [41]))))
  | .fn name x => name.data.toList ++ (40 :: (nodeL x ++ [41]))
  | .sel m n ms => m.data.toList ++ ((if m.size = 0 ∨ ms ≠ [] then 123 :: (commaM ms ++ [125]) else []) ++ (if 0 < n then 91 :: (Go.Lib.decDigits n ++ [115, 93]) else []))
def kidL (x : Ex) : List UInt8 := if hasS x then 40 :: (nodeL x ++ [41]) else nodeL x
def orderL (o : Nat) : List UInt8 := if o = 1 then 32 :: (wOrder ++ (32 :: wAsc)) else if o = 2 then 32 :: (wOrder ++ (32 :: wDesc)) else []
def rowsL (w : List UInt8) (n : Int) : List UInt8 := if 0 ≤ n then 32 :: (w ++ (32 :: Go.Lib.decDigits n.toNat)) else []
def printL (q : Qr) : List UInt8 := nodeL q.root ++ (orderL q.order ++ (rowsL wLimit q.limit ++ rowsL wOffset q.offset))
theorem alive_one : readL [49, 43, 50, 42, 45, 51] = some ⟨.bin (bz [43]) 0 [] (.num 1) (.bin (bz [42]) 0 [] (.num 2) (.neg (.num 3))), 0, -1, -1⟩ := by decide +kernel
theorem alive_print : printL ⟨.bin (bz [43]) 0 [] (.num 1) (.bin (bz [42]) 0 [] (.num 2) (.neg (.num 3))), 0, -1, -1⟩ = [49, 32, 43, 32, 40, 50, 32, 42, 32, 40, 45, 51, 41, 41] := by decide +kernel
end Go.Proofs.YtddglepimbfdkaaGreatDoor.Par
end
