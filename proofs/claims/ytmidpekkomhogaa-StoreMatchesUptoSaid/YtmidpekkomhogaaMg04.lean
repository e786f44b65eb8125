import Derived.Lib.MapLaws
import Derived.Test.YtmidpekkomhogaaMg03
import Derived.Test.YtmidpekkomhogaaMg01
import Derived.OneCell
import Derived.Deep.RegionHeld3
import Derived.Lib.SliceRun
section
/- Stores of points under keys that are in an order, plain. No program in it. -/

namespace Go.Proofs.Ytmidpekkomhogaa.Sto

abbrev Pt := Int × Int
/-- Keys in a strict order. -/
class Keys (K : Type) where
  lt : K → K → Bool
  irr : ∀ a, lt a a = false
  trans : ∀ a b c, lt a b = true → lt b c = true → lt a c = true
  tri : ∀ a b, lt a b = false → lt b a = false → a = b
variable {K : Type} [Keys K]
open Keys

/-- A store: series by their keys. -/
abbrev Store (K : Type) := List (K × List Pt)
/-- Do the keys rise? -/
def Rises (s : Store K) : Prop := s.Pairwise fun a b => lt a.1 b.1 = true
/-- The points under a key. -/
def find (k : K) : Store K → Option (List Pt)
  | [] => none
  | (k', ps) :: s => if lt k' k then find k s else if lt k k' then none else some ps
/-- One more point under a key. -/
def ins (k : K) (x : Pt) : Store K → Store K
  | [] => [(k, [x])]
  | (k', ps) :: s => if lt k' k then (k', ps) :: ins k x s else if lt k k' then (k, [x]) :: (k', ps) :: s else (k', ps ++ [x]) :: s
def lastT (ps : List Pt) : Int := match ps.getLast? with | some x => x.1 | none => 0
/-- Put, but for arguments that may not be: the store, and the error. -/
def putF (s : Store K) (k : K) (x : Pt) : Store K × Int :=
  match find k s with
  | some ps => if x.1 ≤ lastT ps then (s, 6) else if 25 ≤ ps.length then (s, 8) else (ins k x s, 0)
  | none => if 40 ≤ s.length then (s, 8) else (ins k x s, 0)
def pointsN (s : Store K) : Nat := (s.map fun a => a.2.length).sum

theorem ins_keys {k : K} {x : Pt} : ∀ {s : Store K} {a : K × List Pt}, a ∈ ins k x s → a.1 = k ∨ ∃ b ∈ s, b.1 = a.1
  | [], a, h => by
    simp [ins] at h; subst h; exact .inl rfl
  | (k', ps) :: s, a, h => by
    rw [ins] at h
    split at h
    · rcases List.mem_cons.1 h with rfl | h
      · exact .inr ⟨_, List.mem_cons_self, rfl⟩
      · rcases ins_keys h with h | ⟨b, hb, e⟩
        · exact .inl h
        · exact .inr ⟨b, List.mem_cons_of_mem _ hb, e⟩
    · split at h
      · rcases List.mem_cons.1 h with rfl | h
        · exact .inl rfl
        · exact .inr ⟨a, h, rfl⟩
      · rcases List.mem_cons.1 h with rfl | h
        · exact .inr ⟨_, List.mem_cons_self, rfl⟩
        · exact .inr ⟨a, List.mem_cons_of_mem _ h, rfl⟩
theorem rises_ins {k : K} {x : Pt} : ∀ {s : Store K}, Rises s → Rises (ins k x s)
  | [], _ => by simp [ins, Rises]
  | (k', ps) :: s, h => by
    obtain ⟨h1, h2⟩ := List.pairwise_cons.1 h
    rw [ins]
    split
    · next hl =>
      refine List.pairwise_cons.2 ⟨fun a ha => ?_, rises_ins h2⟩
      rcases ins_keys ha with e | ⟨b, hb, e⟩
      · rw [e]; exact hl
      · rw [← e]; exact h1 b hb
    · split
      · next hl =>
        refine List.pairwise_cons.2 ⟨fun a ha => ?_, h⟩
        rcases List.mem_cons.1 ha with rfl | ha
        · exact hl
        · exact trans _ _ _ hl (h1 a ha)
      · exact List.pairwise_cons.2 ⟨h1, h2⟩
theorem len_ins {k : K} {x : Pt} : ∀ {s : Store K}, (ins k x s).length = s.length + (if (find k s).isSome then 0 else 1)
  | [] => by simp [ins, find]
  | (k', ps) :: s => by
    rw [ins, find]
    split
    · rw [List.length_cons, len_ins, List.length_cons]; omega
    · split <;> simp
end Go.Proofs.Ytmidpekkomhogaa.Sto
end

section
/- Points put one after another, in whatever order, plain. No program in it. -/

namespace Go.Proofs.Ytmidpekkomhogaa.Sto
open Keys
variable {K : Type} [Keys K]

theorem rises_putF {s : Store K} (h : Rises s) (k : K) (x : Pt) : Rises (putF s k x).1 := by
  unfold putF
  split
  · split
    · exact h
    · split
      · exact h
      · exact rises_ins h
  · split
    · exact h
    · exact rises_ins h
/-- One key's points, one more put. -/
def one (p : Option (List Pt)) (x : Pt) : Option (List Pt) :=
  match p with
  | none => some [x]
  | some ps => if x.1 ≤ lastT ps then some ps else if 25 ≤ ps.length then some ps else some (ps ++ [x])
section
variable [DecidableEq K]
/-- What of all that is put is put under one key. -/
def under (k : K) (l : List (Option (K × Pt))) : List Pt := l.filterMap fun o => match o with | none => none | some a => if a.1 = k then some a.2 else none
end
end Go.Proofs.Ytmidpekkomhogaa.Sto
end

section
/- Stores: what each put tells of how many there are; a store that is full. Plain. No program in it. -/

namespace Go.Proofs.Ytmidpekkomhogaa.Sto
open Keys
variable {K : Type} [Keys K]

/-- So many points, one a time. -/
def run (n : Nat) : List Pt := (List.range n).map fun (j : Nat) => ((j : Int), (j : Int))
end Go.Proofs.Ytmidpekkomhogaa.Sto
end

section
/- Stores in memory: which blocks a store has; what a write to other blocks leaves alone. -/

namespace Go.Proofs.Ytmidpekkomhogaa.Sto
open Go.RowKit

abbrev Srs := Ser.Ser
abbrev Labs := List Go.Proofs.Ytmidpekkomhogaa.Lab
instance labKeys : Keys Labs where
  lt a b := decide (cmpL a b < 0)
  irr a := by have := (cmpL_zero a a).2 rfl; simp [this]
  trans a b c h1 h2 := by simp at *; exact cmpL_lt_trans h1 h2
  tri a b h1 h2 := by
    simp at h1 h2
    have := cmpL_swap a b
    exact (cmpL_zero a b).1 (by omega)

/-- All blocks but these are as they were. -/
structure Sep (F : Nat → Prop) (w w' : World) : Prop where
  os : w'.os = w.os
  tape : w'.tape = w.tape
  output : w'.output = w.output
  size : w.heap.size ≤ w'.heap.size
  block : ∀ k, k < w.heap.size → ¬ F k → w'.heap[k]? = w.heap[k]?
/-- These blocks, and those that are new. -/
def Grow (F : Nat → Prop) (w w' : World) : Nat → Prop := fun k => F k ∨ (w.heap.size ≤ k ∧ k < w'.heap.size)
theorem Sep.refl (F : Nat → Prop) (w : World) : Sep F w w := ⟨rfl, rfl, rfl, Nat.le_refl _, fun _ _ _ => rfl⟩
theorem Sep.of_below {F : Nat → Prop} {w w' : World} (h : Below w.heap.size w w') : Sep F w w' := ⟨h.os, h.tape, h.output, h.size, fun k hk _ => h.block k hk⟩
theorem Sep.of_grown {F : Nat → Prop} {w w' : World} {row : Option Nat} (h : w.grownBy w' row) (hr : ∀ k, row = some k → F k) : Sep F w w' :=
  ⟨h.os, h.tape, h.output, h.size, fun k hk hF => h.block k hk fun e => hF (hr k e.symm)⟩
theorem Sep.of_set {F : Nat → Prop} (w : World) {p : Addr} (hp : F p.block) (u : Value) : Sep F w (w.setCell p u) :=
  ⟨rfl, rfl, rfl, by simp [World.setCell], fun k _ hF => Below.heap_setCell _ _ _ _ fun e => hF (e ▸ hp)⟩
theorem Sep.mono {F G : Nat → Prop} {w w' : World} (h : Sep F w w') (hg : ∀ k, k < w.heap.size → F k → G k) : Sep G w w' :=
  ⟨h.os, h.tape, h.output, h.size, fun k hk hG => h.block k hk fun hF => hG (hg k hk hF)⟩
theorem Sep.trans {F : Nat → Prop} {a b c : World} (h : Sep F a b) (k : Sep (Grow F a b) b c) : Sep F a c :=
  ⟨k.os.trans h.os, k.tape.trans h.tape, k.output.trans h.output, Nat.le_trans h.size k.size, fun i hi hF =>
    (k.block i (Nat.lt_of_lt_of_le hi h.size) (by rintro (h1 | h1); exact hF h1; omega)).trans (h.block i hi hF)⟩
theorem Sep.next {F : Nat → Prop} {a b c : World} (h : Sep F a b) (k : Sep F b c) : Sep F a c := h.trans (k.mono fun _ _ h => .inl h)
theorem Sep.below {F : Nat → Prop} {w w' : World} (h : Sep F w w') {B : Nat} (hB : B ≤ w.heap.size) (hF : ∀ k, F k → B ≤ k) : Below B w w' :=
  ⟨h.os, h.tape, h.output, h.size, fun k hk => h.block k (by omega) fun hk2 => by have := hF k hk2; omega⟩
theorem Sep.keeps {F G : Nat → Prop} {w w' : World} (h : Sep G w w') (hl : ∀ k, F k → k < w.heap.size) (hd : ∀ k, F k → ¬ G k) : ∀ k, F k → w'.heap[k]? = w.heap[k]? := fun k hk => h.block k (hl k hk) (hd k hk)
theorem grow_low {F : Nat → Prop} {a b : World} (hl : ∀ k, F k → k < a.heap.size) (h1 : a.heap.size ≤ b.heap.size) : ∀ k, Grow F a b k → k < b.heap.size := by
  rintro k (h | h)
  · have := hl k h; omega
  · exact h.2

theorem own_same {w w' : World} {B e size n : Nat} {v : Value} {xs : List Value} (h : w.ownsRow B e size v n xs) (hb : ∀ g, v.ownBlock = some g → w'.heap[g]? = w.heap[g]?) : w'.ownsRow B e size v n xs := by
  refine ⟨h.1, h.2.imp id ?_⟩
  rintro ⟨g, cap, cur, rfl, h2, h3, h4⟩
  exact ⟨g, cap, cur, rfl, h2, (hb g rfl).trans h3, h4⟩
/-- Of which type a row's own block is. -/
theorem own_typ {w : World} {B e size n : Nat} {v : Value} {xs : List Value} (h : w.ownsRow B e size v n xs) {g : Nat} (hg : v.ownBlock = some g) : ∃ cs m, w.heap[g]? = some (.cells cs e m) := by
  rcases h.2 with ⟨rfl, _⟩ | ⟨g', cap, cur, rfl, _, hh, _⟩
  · cases hg
  · have : g' = g := by simpa [Value.ownBlock] using hg
    subst this
    exact ⟨_, _, hh⟩
theorem typ_ne {w : World} {a b : Nat} {s t : TypeId} (ha : ∃ cs m, w.heap[a]? = some (.cells cs s m)) (hb : ∃ cs m, w.heap[b]? = some (.cells cs t m)) (hst : s ≠ t) : a ≠ b := by
  rintro rfl
  obtain ⟨cs, m, h1⟩ := ha
  obtain ⟨cs2, m2, h2⟩ := hb
  rw [h1] at h2
  cases h2
  exact hst rfl

/-- Two cells that are a series of a store: its labels lie in a block of theirs, its points are a row of its own. -/
structure OneS (F : Nat → Prop) (w : World) (u v : Value) (x : Srs) : Prop where
  lab : ∃ oL cL, u = .slice oL x.1.length cL ∧ SeesO w oL x.1 ∧ Ser.Typ w oL 49 ∧ ∀ b off, oL = some ⟨b, off, none⟩ → F b
  pts : w.ownsRow 0 54 2 v x.2.length (Pnt.flatL x.2)
  ptsF : ∀ g, v.ownBlock = some g → F g
theorem OneS.same {F G : Nat → Prop} {w w' : World} {u v : Value} {x : Srs} (h : OneS F w u v x) (hs : w.heap.size ≤ w'.heap.size) (hk : ∀ k, F k → w'.heap[k]? = w.heap[k]?) (hG : ∀ k, F k → G k) : OneS G w' u v x := by
  obtain ⟨⟨oL, cL, h1, h2, h3, h4⟩, h5, h6⟩ := h
  refine ⟨⟨oL, cL, h1, ?_, ?_, fun b off e => hG _ (h4 b off e)⟩, own_same h5 fun g hg => hk g (h6 g hg), fun g hg => hG _ (h6 g hg)⟩
  · rcases h2 with h2 | ⟨b, off, e, hS⟩
    · exact .inl h2
    · have hb := hk b (h4 b off e)
      exact .inr ⟨b, off, e, Nat.lt_of_lt_of_le hS.low hs, fun j x hx => (Ser.cell_same hb).trans (hS.at0 j x hx), fun j x hx => (Ser.cell_same hb).trans (hS.at1 j x hx)⟩
  · intro b off e
    obtain ⟨cs, m, hh⟩ := h3 b off e
    exact ⟨cs, m, (hk b (h4 b off e)).trans hh⟩
/-- The series of a store, in a row of its own. -/
structure Row (F : Nat → Prop) (w : World) (v : Value) (us : List (Value × Value)) (xs : List Srs) : Prop where
  len : us.length = xs.length
  own : w.ownsRow 0 52 2 v us.length (Ser.flatU us)
  ownF : ∀ g, v.ownBlock = some g → F g
  one : ∀ (j : Nat) (x : Srs), xs[j]? = some x → ∃ q, us[j]? = some q ∧ OneS F w q.1 q.2 x
  apart : ∀ (i j : Nat) (p q : Value × Value), i ≠ j → us[i]? = some p → us[j]? = some q → p.2.ownBlock = none ∨ p.2.ownBlock ≠ q.2.ownBlock
theorem Row.same {F G : Nat → Prop} {w w' : World} {v : Value} {us : List (Value × Value)} {xs : List Srs} (h : Row F w v us xs) (hs : w.heap.size ≤ w'.heap.size) (hk : ∀ k, F k → w'.heap[k]? = w.heap[k]?) (hG : ∀ k, F k → G k) : Row G w' v us xs :=
  ⟨h.len, own_same h.own fun g hg => hk g (h.ownF g hg), fun g hg => hG _ (h.ownF g hg), fun j x hx => by
    obtain ⟨q, h1, h2⟩ := h.one j x hx
    exact ⟨q, h1, h2.same hs hk hG⟩, h.apart⟩
/-- A store in memory. -/
structure St (F : Nat → Prop) (w : World) (p : Nat) (xs : List Srs) : Prop where
  low : ∀ k, F k → k < w.heap.size
  fp : F p
  row : ∃ v us, w.heap[p]? = some (.cells #[v] 31 (0, 0)) ∧ Row F w v us xs
theorem St.same {F G : Nat → Prop} {w w' : World} {p : Nat} {xs : List Srs} (h : St F w p xs) (hs : w.heap.size ≤ w'.heap.size) (hk : ∀ k, F k → w'.heap[k]? = w.heap[k]?) (hG : ∀ k, F k → G k) (hl : ∀ k, G k → k < w'.heap.size) : St G w' p xs := by
  obtain ⟨v, us, h1, h2⟩ := h.row
  exact ⟨hl, hG _ h.fp, v, us, (hk p h.fp).trans h1, h2.same hs hk hG⟩
theorem St.sep {F G : Nat → Prop} {w w' : World} {p : Nat} {xs : List Srs} (h : St F w p xs) (hs : Sep G w w') (hd : ∀ k, F k → ¬ G k) : St F w' p xs :=
  h.same hs.size (hs.keeps h.low hd) (fun _ h => h) fun k hk => Nat.lt_of_lt_of_le (h.low k hk) hs.size
theorem St.below {F : Nat → Prop} {w w' : World} {p : Nat} {xs : List Srs} (h : St F w p xs) (hb : Below w.heap.size w w') : St F w' p xs :=
  h.sep (G := fun _ => False) (Sep.of_below hb) fun _ _ h => h
theorem St.grow {F : Nat → Prop} {w w' : World} {p : Nat} {xs : List Srs} (h : St F w p xs) (hs : w.heap.size ≤ w'.heap.size) (hk : ∀ k, F k → w'.heap[k]? = w.heap[k]?) : St (Grow F w w') w' p xs :=
  h.same hs hk (fun _ h => .inl h) (grow_low h.low hs)
/-- A store that has nothing. -/
theorem st_nil {F : Nat → Prop} {w : World} {p : Nat} (h : w.heap[p]? = some (.cells #[.slice none 0 0] 31 (0, 0))) (hp : F p) (hl : ∀ k, F k → k < w.heap.size) : St F w p [] :=
  ⟨hl, hp, _, [], h, ⟨rfl, World.ownsRow_nil _ _ _ _, fun g hg => (by cases hg), fun j x hx => by simp at hx, fun i j p q _ hi => by simp at hi⟩⟩

/-- What a store's row reads as. -/
theorem OneS.one {F : Nat → Prop} {w : World} {u v : Value} {x : Srs} (h : OneS F w u v x) (h1 : x.1.length ≤ maxLen) : Ser.OneT w u v x := by
  obtain ⟨⟨oL, cL, e1, h2, h3, h4⟩, h5, h6⟩ := h
  obtain ⟨oP, cP, e2, h7, h8⟩ := Pnt.own_sees h5
  subst e2
  exact ⟨oL, cL, oP, cP, e1, rfl, h2, h7, h1, h8, h3, Ser.typ_own h5⟩
theorem own_shape {w : World} {B e size n : Nat} {v : Value} {xs : List Value} (h : w.ownsRow B e size v n xs) : ∃ o c, v = .slice o n c ∧ n ≤ maxLen := by
  rcases h.2 with ⟨rfl, rfl⟩ | ⟨g', cap, cur, rfl, _, hh, h1, h2, _⟩
  · exact ⟨none, 0, rfl, Nat.zero_le _⟩
  · exact ⟨_, _, rfl, by omega⟩
theorem Row.sees {F : Nat → Prop} {w : World} {v : Value} {us : List (Value × Value)} {xs : List Srs} (h : Row F w v us xs) (hl : ∀ x ∈ xs, x.1.length ≤ maxLen) : ∃ o c, v = .slice o xs.length c ∧ Ser.SeesO w o xs ∧ xs.length ≤ maxLen :=
  Ser.OwnU.sees (B := 0) ⟨h.len, h.own, fun j x hx => by
    obtain ⟨q, h1, h2⟩ := h.one j x hx
    exact ⟨q, h1, h2.one (hl x (List.mem_of_getElem? hx))⟩⟩
end Go.Proofs.Ytmidpekkomhogaa.Sto
end

section
/- Stores, plain: the place of a key, and what stands there. No program in it. -/

namespace Go.Proofs.Ytmidpekkomhogaa.Sto
open Keys
variable {K : Type} [Keys K]

/-- How many keys lie ahead of this one. -/
def rank (k : K) : Store K → Nat
  | [] => 0
  | a :: s => if lt a.1 k then rank k s + 1 else 0
theorem rank_le (k : K) : ∀ s : Store K, rank k s ≤ s.length
  | [] => Nat.le_refl _
  | a :: s => by
    have := rank_le k s
    rw [rank, List.length_cons]
    split <;> omega
theorem rank_lt {k : K} : ∀ {s : Store K} {j : Nat} {a : K × List Pt}, s[j]? = some a → j < rank k s → lt a.1 k = true
  | [], j, a, h, _ => by simp at h
  | b :: s, j, a, h, hj => by
    rw [rank] at hj
    split at hj
    · next hl =>
      cases j with
      | zero => simp at h; subst h; exact hl
      | succ j => exact rank_lt (s := s) (by simpa using h) (by omega)
    · omega
theorem rank_ge {k : K} : ∀ {s : Store K} {j : Nat} {a : K × List Pt}, Rises s → s[j]? = some a → rank k s ≤ j → lt a.1 k = false
  | [], j, a, _, h, _ => by simp at h
  | b :: s, j, a, hr, h, hj => by
    obtain ⟨h1, h2⟩ := List.pairwise_cons.1 hr
    rw [rank] at hj
    split at hj
    · next hl =>
      cases j with
      | zero => omega
      | succ j => exact rank_ge (s := s) h2 (by simpa using h) (by omega)
    · next hl =>
      cases j with
      | zero => simp at h; subst h; simpa using hl
      | succ j =>
        have ha := h1 a (List.mem_of_getElem? (i := j) (by simpa using h))
        cases hlt : lt a.1 k with
        | false => rfl
        | true => exact absurd (trans _ _ _ ha hlt) hl
theorem find_at (k : K) : ∀ {s : Store K} {a : K × List Pt}, s[rank k s]? = some a → (lt k a.1 = false → find k s = some a.2) ∧ (lt k a.1 = true → find k s = none)
  | [], a, h => by simp at h
  | b :: s, a, h => by
    rw [rank] at h
    split at h
    · next hl =>
      obtain ⟨h1, h2⟩ := find_at k (s := s) (a := a) (by simpa using h)
      rw [show b :: s = (b.1, b.2) :: s from rfl, find, if_pos hl]
      exact ⟨h1, h2⟩
    · next hl =>
      simp at h
      subst h
      rw [show b :: s = (b.1, b.2) :: s from rfl, find, if_neg hl]
      exact ⟨fun h => by rw [if_neg (by simp [h])], fun h => by rw [if_pos h]⟩
theorem find_end (k : K) : ∀ {s : Store K}, s[rank k s]? = none → find k s = none
  | [], _ => rfl
  | b :: s, h => by
    rw [rank] at h
    split at h
    · next hl =>
      rw [show b :: s = (b.1, b.2) :: s from rfl, find, if_pos hl]
      exact find_end k (by simpa using h)
    · simp at h
theorem ins_new (k : K) (x : Pt) : ∀ {s : Store K}, find k s = none → ins k x s = s.take (rank k s) ++ (k, [x]) :: s.drop (rank k s)
  | [], _ => rfl
  | b :: s, h => by
    rw [show b :: s = (b.1, b.2) :: s from rfl, find] at h
    rw [show b :: s = (b.1, b.2) :: s from rfl, ins, rank]
    split
    · next hl =>
      rw [if_pos hl] at h
      rw [ins_new k x h, List.take_succ_cons, List.drop_succ_cons]; rfl
    · next hl =>
      rw [if_neg hl] at h
      split
      · rfl
      · next hl2 => rw [if_neg hl2] at h; cases h
theorem ins_old (k : K) (x : Pt) : ∀ {s : Store K} {a : K × List Pt}, s[rank k s]? = some a → lt k a.1 = false → ins k x s = s.set (rank k s) (a.1, a.2 ++ [x])
  | [], a, h, _ => by simp at h
  | b :: s, a, h, hl2 => by
    rw [rank] at h
    rw [show b :: s = (b.1, b.2) :: s from rfl, ins, rank]
    split
    · next hl =>
      rw [if_pos hl] at h
      rw [ins_old k x (a := a) (by simpa using h) hl2]; rfl
    · next hl =>
      rw [if_neg hl] at h
      simp at h
      subst h
      rw [if_neg (by simp [hl2])]; rfl
/-- What a put comes to, by the place of its key. -/
theorem putF_new {k : K} {x : Pt} {s : Store K} (h : s[rank k s]? = none ∨ ∃ a, s[rank k s]? = some a ∧ lt k a.1 = true) : putF s k x = if 40 ≤ s.length then (s, 8) else (s.take (rank k s) ++ (k, [x]) :: s.drop (rank k s), 0) := by
  have hf : find k s = none := by
    rcases h with h | ⟨a, h, hl⟩
    · exact find_end k h
    · exact (find_at k h).2 hl
  unfold putF
  rw [hf]
  dsimp only
  rw [ins_new k x hf]
theorem putF_old {k : K} {x : Pt} {s : Store K} {a : K × List Pt} (h : s[rank k s]? = some a) (hl : lt k a.1 = false) : putF s k x = if x.1 ≤ lastT a.2 then (s, 6) else if 25 ≤ a.2.length then (s, 8) else (s.set (rank k s) (a.1, a.2 ++ [x]), 0) := by
  unfold putF
  rw [(find_at k h).1 hl]
  dsimp only
  rw [ins_old k x h hl]
end Go.Proofs.Ytmidpekkomhogaa.Sto
end

section
/- Points of a while, plain: which points may be, those of a while, how much numbers grow. No program in it. -/

namespace Go.Proofs.Ytmidpekkomhogaa.Win

/-- A point: its time, its number. -/
abbrev Pt := Int × Int
/-- A number that may be, as chapter 4 says. -/
def valP (v : Int) : Prop := -1000000000000 ≤ v ∧ v ≤ 1000000000000
instance (v : Int) : Decidable (valP v) := by unfold valP; infer_instance
def timeP (t : Int) : Prop := 0 ≤ t ∧ t ≤ 1000000000
instance (t : Int) : Decidable (timeP t) := by unfold timeP; infer_instance

end Go.Proofs.Ytmidpekkomhogaa.Win
end

section
/- Functions of points, plain: what each answers, and what holds of the answers. No program in it. -/

namespace Go.Proofs.Ytmidpekkomhogaa.Win

end Go.Proofs.Ytmidpekkomhogaa.Win
end

section
/- Points of a while, plain: the last one; what the functions answer of numbers that are small. No program in it. -/

namespace Go.Proofs.Ytmidpekkomhogaa.Win

end Go.Proofs.Ytmidpekkomhogaa.Win
end

section
/- Points of a while, plain: points looked at one by one; the names of the functions. No program in it. -/

namespace Go.Proofs.Ytmidpekkomhogaa.Win

end Go.Proofs.Ytmidpekkomhogaa.Win
end

section
/- Numbers with a limit, plain: signs, what they reckon, texts that are signs. No program in it. -/

namespace Go.Proofs.Ytmidpekkomhogaa.Fix

/-- A number that may be. -/
def rgt (v : Int) : Prop := -1000000000000 ≤ v ∧ v ≤ 1000000000000
instance (v : Int) : Decidable (rgt v) := by unfold rgt; infer_instance
def rgtB (v : Int) : Bool := decide (rgt v)

def sizeF (v : Int) : Int := if v ≤ -v then -v else v
def timesF (a b : Int) : Int × Int := if b ≠ 0 ∧ 1000000000000 / sizeF b < sizeF a then (0, 4) else (a * b, 0)

/-! ### which texts are signs -/
theorem bytes_ext {a b : ByteArray} (h : a.data.toList = b.data.toList) : a = b := by
  cases a; cases b; congr 1; exact Array.ext' h

end Go.Proofs.Ytmidpekkomhogaa.Fix
end

section
/- Walks: whether a number may be; signs. -/

namespace Go.Proofs.Ytmidpekkomhogaa.Fix
open Go.RowKit

set_option maxHeartbeats 400000 in
theorem right_any (v : Int) (w : World) : Calls Try.prog 17 #[.int .i64 v] w fun e w' => e = .returned (.bool (rgtB v)) ∧ w = w' := by
  by_cases h1 : -1000000000000 ≤ v
  · by_cases h2 : v ≤ 1000000000000
    · have H := Lib.hid (show true = rgtB v by unfold rgtB rgt; simp [h1, h2])
      have t1 : decide (-1000000000000 ≤ v) = true := by simpa using h1
      have t2 : decide (v ≤ 1000000000000) = true := by simpa using h2
      go_enter Try.func17, Try.ntmps17
      go_wp2
      go_ret
      exact ⟨ret_bool H.out, rfl⟩
    · have H := Lib.hid (show false = rgtB v by unfold rgtB rgt; simp [h2])
      have t1 : decide (-1000000000000 ≤ v) = true := by simpa using h1
      have t2 : decide (v ≤ 1000000000000) = false := by simpa using h2
      clear h2
      go_enter Try.func17, Try.ntmps17
      go_wp2
      go_ret
      exact ⟨ret_bool H.out, rfl⟩
  · have H := Lib.hid (show false = rgtB v by unfold rgtB rgt; simp [h1])
    have t1 : decide (-1000000000000 ≤ v) = false := by simpa using h1
    clear h1
    go_enter Try.func17, Try.ntmps17
    go_wp2
    go_ret
    exact ⟨ret_bool H.out, rfl⟩

end Go.Proofs.Ytmidpekkomhogaa.Fix
end

section
/- Walks: times, and which points are right. -/

namespace Go.Proofs.Ytmidpekkomhogaa.Win
open Go.RowKit Go.Lib Fix

end Go.Proofs.Ytmidpekkomhogaa.Win
end

section
/- The store: series told anew; whether labels may be; a series against labels. -/

namespace Go.Proofs.Ytmidpekkomhogaa.Sto
open Go.RowKit

/-- Labels that are few and short. -/
structure Small (l : Labs) : Prop where
  len : l.length ≤ 1000
  sizes : ∀ y ∈ l, y.1.size ≤ 1000 ∧ y.2.size ≤ 1000
theorem Small.big {l : Labs} (h : Small l) : ∀ y ∈ l, y.1.size ≤ 281474976710656 ∧ y.2.size ≤ 281474976710656 := fun y hy => by have := h.sizes y hy; omega
/-- A store's series. -/
structure Fine (xs : List Srs) : Prop where
  few : xs.length ≤ 40
  each : ∀ x ∈ xs, Small x.1 ∧ 0 < x.2.length ∧ x.2.length ≤ 25
  rises : Rises (K := Labs) xs

def metricT : ByteArray := ⟨#[109, 101, 116, 114, 105, 99]⟩
/-- May labels be a series'? -/
def mayB (l : Labs) : Bool := rightB l && !(getL metricT l).toList.isEmpty

set_option maxHeartbeats 2000000 in
set_option maxRecDepth 100000 in
theorem may_any (o : Option Addr) (cap : Nat) (l : Labs) (w : World) (hl : Small l) (hS : SeesO w o l) :
    Calls Try.prog 15 #[.slice o l.length cap] w fun e w' => e = .returned (.bool (mayB l)) ∧ Below w.heap.size w w' := by
  have hm : l.length ≤ maxLen := by have := hl.len; unfold maxLen; omega
  have HR := Lib.hid (fun W (hb : Below w.heap.size w W) => right_any o cap l W hm (hS.below hb))
  have HG := Lib.hid (fun W (hb : Below w.heap.size w W) => get_any o cap l metricT W hm (hS.below hb) (fun x hx => (hl.big x hx).2))
  obtain ⟨n, hn⟩ : ∃ n, l.length = n := ⟨_, rfl⟩
  obtain ⟨m, hm0⟩ : ∃ m, mayB l = m := ⟨_, rfl⟩
  rw [hm0]
  unfold mayB at hm0
  rw [hn] at HR HG ⊢
  clear hl hS hm hn
  cases hr : rightB l with
  | false =>
    rw [hr] at HR hm0
    have HM := Lib.hid (show false = m by rw [← hm0]; rfl)
    clear hm0 hr HG
    go_enter Try.func15, Try.ntmps15
    go_wp2_with (go_at_call 28; refine (HR.out _ (Below.refl _ _)).mono ?_; rintro e w1 ⟨rfl, b1⟩)
    go_ret
    exact ⟨ret_bool HM.out, b1⟩
  | true =>
    rw [hr] at HR hm0
    obtain ⟨g, hg⟩ : ∃ g, getL metricT l = g := ⟨_, rfl⟩
    rw [hg] at HG hm0
    have HM := Lib.hid (show (!g.toList.isEmpty) = m by rw [← hm0]; rfl)
    clear hm0 hr hg
    unfold metricT at HG
    go_enter Try.func15, Try.ntmps15
    go_wp2_with fail
    refine (HR.out _ (Below.refl _ _)).mono ?_
    rintro e w1 ⟨rfl, b1⟩
    have HB1 := Lib.hid b1
    clear b1
    go_wp2_with fail
    refine (HG.out _ HB1.out).mono ?_
    rintro e w2 ⟨rfl, b2⟩
    have HB2 := Lib.hid (HB1.out.trans (b2.mono HB1.out.size))
    clear b2
    go_wp2
    go_ret
    exact ⟨ret_bool (by rw [← HM.out]), HB2.out⟩
theorem inTime_any (t : Int) (w : World) : Calls Try.prog 16 #[.int .i64 t] w fun e w' => e = .returned (.bool (decide (0 ≤ t ∧ t ≤ 1000000000))) ∧ w' = w := by
  by_cases h1 : 0 ≤ t
  · by_cases h2 : t ≤ 1000000000
    · have h3 : decide (0 ≤ t ∧ t ≤ 1000000000) = true := by simp [h1, h2]
      rw [h3]
      clear h3
      go_enter Try.func16, Try.ntmps16
      go_wp2
      go_ret
      exact ⟨rfl, rfl⟩
    · have h3 : decide (0 ≤ t ∧ t ≤ 1000000000) = false := by simp [h2]
      rw [h3]
      clear h3
      go_enter Try.func16, Try.ntmps16
      go_wp2
      go_ret
      exact ⟨rfl, rfl⟩
  · have h3 : decide (0 ≤ t ∧ t ≤ 1000000000) = false := by simp [h1]
    rw [h3]
    clear h3
    go_enter Try.func16, Try.ntmps16
    go_wp2
    go_ret
    exact ⟨rfl, rfl⟩

set_option maxHeartbeats 2000000 in
set_option maxRecDepth 100000 in
/-- A series against labels. -/
theorem compare_one (o1 o2 : Option Addr) (n1 c1 n2 c2 : Nat) (v : Value) (a b : Labs) (w : World) (h1 : a.length = n1) (h2 : b.length = n2) (hm : n1 ≤ maxLen) (hm2 : n2 ≤ maxLen) (hS1 : SeesO w o1 a) (hS2 : SeesO w o2 b) :
    Calls Try.prog 19 #[.agg #[.slice o1 n1 c1, v], .slice o2 n2 c2] w fun e w' => e = .returned (.int .i64 (cmpL a b)) ∧ Below w.heap.size w w' := by
  subst h1 h2
  have HC := Lib.hid (fun W (hb : Below w.heap.size w W) => compare_any o1 o2 c1 c2 a b W hm hm2 (hS1.below hb) (hS2.below hb))
  generalize a.length = n1 at HC ⊢
  generalize b.length = n2 at HC ⊢
  generalize cmpL a b = r at HC ⊢
  clear hm hm2 hS1 hS2
  go_enter Try.func19, Try.ntmps19
  go_wp2_with fail
  refine (HC.out _ ((Below.refl _ _).alloc (Nat.le_refl _) _)).mono ?_
  rintro e w1 ⟨rfl, b1⟩
  go_wp2
  go_ret
  exact ⟨rfl, ((Below.refl _ _).alloc (Nat.le_refl _) _).trans (b1.mono (by simp))⟩

set_option maxHeartbeats 2000000 in
set_option maxRecDepth 100000 in
/-- Points told anew. -/
theorem clonePts_any (b off cap : Nat) (xs : List Pt) (w : World) (h0 : 0 < xs.length) (hx : xs.length ≤ 1000000) (hS : Pnt.Sees w b off xs) :
    Calls Try.prog 35 #[.slice (some ⟨b, off, none⟩) xs.length cap] w fun e w' => (∃ v, e = .returned v ∧ w'.ownsRow w.heap.size 54 2 v xs.length (Pnt.flatL xs)) ∧ Below w.heap.size w w' := by
  obtain ⟨i0, hi, hz0, hz1, hz2⟩ := info_parts Pnt.info38
  obtain ⟨n, hn⟩ : ∃ n, xs.length = n := ⟨_, rfl⟩
  have hl := Pnt.flatL_len xs
  have hall := Pnt.sees_all hS
  have hlow := hS.low
  have hone := Pnt.flatL_cells xs
  rw [hn] at h0 hx hl ⊢
  generalize Pnt.flatL xs = L at hl hall hone ⊢
  clear hS hn
  have hown : (w.alloc (.cells #[] 54)).ownsRow w.heap.size 54 2 (.slice (some ⟨w.heap.size, 0, none⟩) 0 0) 0 [] := World.ownsRow_made w #[] 0 (Nat.le_refl _) (Nat.zero_le _) (by simp)
  have hnews : ∀ j u, L[j]? = some u → (w.alloc (.cells #[] 54)).cell? ((⟨b, off, none⟩ : Addr).add j) = some u := fun j u hj => by
    have := hall j u hj
    rw [← this]
    refine ((Below.refl w.heap.size w).alloc (Nat.le_refl _) _).cell ?_
    unfold Addr.add; split <;> exact hlow
  have q := Lib.run_eql_slice_nil (P := Try.prog) w 50 54 (some ⟨b, off, none⟩) n cap 0 0 Try.underlying50
  go_enter Try.func35, Try.ntmps35
  go_wp2_with (at_builtin; go_must (refine wpList_append_own _ rfl _ _ 50 rfl w.heap.size 54 i0 (.agg #[.int .i64 0, .int .i64 0]) 2 16 Try.underlying50 hi hz0 hz1 hz2 rfl (by decide) _ _ _ rfl hown ⟨b, off, none⟩ n cap L rfl hl hnews hone (by unfold maxLen; omega) (by omega) (by simp) ?_); intro v' w3 hown' hgrow3 hnil3)
  trace_state
  go_ret
  refine ⟨⟨v', rfl, ?_⟩, ?_⟩
  · rw [Nat.zero_add, List.nil_append] at hown'; exact hown'
  · exact Below.grown ((Below.refl _ _).alloc (Nat.le_refl _) _) hgrow3 (by simp) (fun j hj => (hown.lt _ hj).1)

/-- What a series told anew is: two rows of its own. -/
def Told (B : Nat) (w : World) (x : Srs) (u v : Value) : Prop := w.ownsRow B 49 2 u x.1.length (flatL x.1) ∧ w.ownsRow B 54 2 v x.2.length (Pnt.flatL x.2)
theorem Told.below {B : Nat} {w w' : World} {x : Srs} {u v : Value} (h : Told B w x u v) (hb : Below w.heap.size w w') : Told B w' x u v := ⟨own_grown h.1 hb, own_grown h.2 hb⟩
theorem Told.mono {B C : Nat} {w : World} {x : Srs} {u v : Value} (h : Told B w x u v) (hB : C ≤ B) : Told C w x u v := ⟨own_mono h.1 hB, own_mono h.2 hB⟩

/-- Two blocks of a series each: what was handed in; what is made. -/
def Two2 (k : Nat) (a b : Value) (w W : World) : Prop := W.heap[k]? = some (.cells #[a, b] 52 (0, 0)) ∧ W.heap[k + 1]? = some (.cells #[.slice none 0 0, .slice none 0 0] 52 (0, 0)) ∧ Below k w W
theorem Two2.below {k : Nat} {a b : Value} {w W W' : World} (h : Two2 k a b w W) (hb : Below W.heap.size W W') : Two2 k a b w W' := by
  have h1 := (Array.getElem?_eq_some_iff.1 h.1).1
  exact ⟨(hb.block _ h1).trans h.1, (hb.block _ (Array.getElem?_eq_some_iff.1 h.2.1).1).trans h.2.1, h.2.2.trans (hb.mono (by omega))⟩
theorem Two2.reads {k : Nat} {a b : Value} {w W : World} (h : Two2 k a b w W) : W.cell? ⟨k, 0, none⟩ = some a ∧ W.cell? ⟨k, 1, none⟩ = some b ∧ W.cell? ⟨k + 1, 0, none⟩ = some (.slice none 0 0) ∧ W.cell? ⟨k + 1, 1, none⟩ = some (.slice none 0 0) ∧ W.frozen? ⟨k + 1, 0, none⟩ = false ∧ W.frozen? ⟨k + 1, 1, none⟩ = false := by
  obtain ⟨h1, h2, _⟩ := h
  refine ⟨?_, ?_, ?_, ?_, ?_, ?_⟩ <;> simp [World.cell?, World.frozen?, h1, h2]
theorem Two2.made (a b : Value) (w : World) : Two2 w.heap.size a b w ((w.alloc (Obj.cells #[a, b] 52)).alloc (Obj.cells #[.slice none 0 0, .slice none 0 0] 52)) := by
  refine ⟨?_, ?_, ((Below.refl _ _).alloc (Nat.le_refl _) _).alloc (by simp) _⟩
  · rw [Below.heap_alloc _ _ _ (by rw [World.size_alloc]; omega)]; exact Array.getElem?_push_size
  · have e : (w.alloc (Obj.cells #[a, b] 52)).heap.size = w.heap.size + 1 := World.size_alloc _ _
    rw [← e]; exact Array.getElem?_push_size
theorem own_set_other {w : World} {B e size n k i : Nat} {v u : Value} {xs : List Value} {cs : Array Value} {t : TypeId} (h : w.ownsRow B e size v n xs) (hk : w.heap[k]? = some (.cells cs t (0, 0))) (hne : e ≠ t) : (w.setCell ⟨k, i, none⟩ u).ownsRow B e size v n xs :=
  own_same h fun g hg => Below.heap_setCell _ _ _ _ (by
    obtain ⟨cs2, m2, h2⟩ := own_typ h hg
    rintro rfl
    rw [hk] at h2
    cases h2
    exact hne rfl)

set_option maxHeartbeats 4000000 in
set_option maxRecDepth 100000 in
theorem clone_ser (oL : Option Addr) (nL cL b off nP cP : Nat) (x : Srs) (w : World) (h1 : x.1.length = nL) (h2 : x.2.length = nP) (hs : Small x.1) (h0 : 0 < nP) (hx : nP ≤ 1000000) (hL : SeesO w oL x.1) (hP : Pnt.Sees w b off x.2) :
    Calls Try.prog 24 #[.agg #[.slice oL nL cL, .slice (some ⟨b, off, none⟩) nP cP]] w fun e w' => (∃ u v, e = .returned (.agg #[u, v]) ∧ Told w.heap.size w' x u v) ∧ Below w.heap.size w w' := by
  have HL := Lib.hid (fun W (hb : Below w.heap.size w W) => (show Calls Try.prog 34 #[.slice oL nL cL, .slice none 0 0] W fun e w' => (∃ u, e = .returned u ∧ w'.ownsRow w.heap.size 49 2 u x.1.length (flatL x.1)) ∧ Below W.heap.size W w' by
    rw [← h1]
    exact (without_none oL cL x.1 W (by have := hs.len; omega) (hL.below hb) hs.big).mono fun e w' q => ⟨by obtain ⟨u, e1, e2⟩ := q.1; exact ⟨u, e1, own_mono e2 hb.size⟩, q.2⟩))
  have HP := Lib.hid (fun W (hb : Below w.heap.size w W) => (show Calls Try.prog 35 #[.slice (some ⟨b, off, none⟩) nP cP] W fun e w' => (∃ v, e = .returned v ∧ w'.ownsRow w.heap.size 54 2 v x.2.length (Pnt.flatL x.2)) ∧ Below W.heap.size W w' by
    rw [← h2]
    exact (clonePts_any b off cP x.2 W (by omega) (by omega) (hP.below hb)).mono fun e w' q => ⟨by obtain ⟨u, e1, e2⟩ := q.1; exact ⟨u, e1, own_mono e2 hb.size⟩, q.2⟩))
  clear hs h0 hx hL hP h1 h2
  unfold Told
  generalize flatL x.1 = A at HL ⊢
  generalize Pnt.flatL x.2 = B at HP ⊢
  generalize x.1.length = mA at HL ⊢
  generalize x.2.length = mB at HP ⊢
  have HB0 := Lib.hid (fun W (h : Hid (Two2 w.heap.size (.slice oL nL cL) (.slice (some ⟨b, off, none⟩) nP cP) w W)) => h.out.2.2)
  have HL2 := Lib.hid (fun W (h : Hid (Two2 w.heap.size (.slice oL nL cL) (.slice (some ⟨b, off, none⟩) nP cP) w W)) => (HL.out W (HB0.out W h)).mono (fun e w' q => show (∃ o c, e = .returned (.slice o mA c) ∧ w'.cell? ⟨w.heap.size, 0, none⟩ = some (.slice oL nL cL) ∧ w'.cell? ⟨w.heap.size, 1, none⟩ = some (.slice (some ⟨b, off, none⟩) nP cP) ∧ w'.cell? ⟨w.heap.size + 1, 0, none⟩ = some (.slice none 0 0) ∧ w'.cell? ⟨w.heap.size + 1, 1, none⟩ = some (.slice none 0 0) ∧ w'.frozen? ⟨w.heap.size + 1, 0, none⟩ = false ∧ w'.frozen? ⟨w.heap.size + 1, 1, none⟩ = false ∧ Hid (Two2 w.heap.size (.slice oL nL cL) (.slice (some ⟨b, off, none⟩) nP cP) w w') ∧ Hid (w'.ownsRow w.heap.size 49 2 (.slice o mA c) mA A)) from by
    obtain ⟨⟨u, e1, e2⟩, hb⟩ := q
    obtain ⟨o, c, rfl, _⟩ := own_shape e2
    have h2 := h.out.below hb
    obtain ⟨g1, g2, g3, g4, g5, g6⟩ := h2.reads
    exact ⟨o, c, e1, g1, g2, g3, g4, g5, g6, h2, e2⟩))
  have HP2 := Lib.hid (fun W u (h : Hid (Two2 w.heap.size (.slice oL nL cL) (.slice (some ⟨b, off, none⟩) nP cP) w W)) (hu : Hid (W.ownsRow w.heap.size 49 2 u mA A)) => (HP.out W (HB0.out W h)).mono (fun e w' q => show (∃ o c, e = .returned (.slice o mB c) ∧ w'.cell? ⟨w.heap.size, 0, none⟩ = some (.slice oL nL cL) ∧ w'.cell? ⟨w.heap.size, 1, none⟩ = some (.slice (some ⟨b, off, none⟩) nP cP) ∧ w'.cell? ⟨w.heap.size + 1, 0, none⟩ = some (.slice none 0 0) ∧ w'.cell? ⟨w.heap.size + 1, 1, none⟩ = some (.slice none 0 0) ∧ w'.frozen? ⟨w.heap.size + 1, 0, none⟩ = false ∧ w'.frozen? ⟨w.heap.size + 1, 1, none⟩ = false ∧ Hid (Two2 w.heap.size (.slice oL nL cL) (.slice (some ⟨b, off, none⟩) nP cP) w w') ∧ Hid (w'.ownsRow w.heap.size 49 2 u mA A) ∧ Hid (w'.ownsRow w.heap.size 54 2 (.slice o mB c) mB B)) from by
    obtain ⟨⟨u1, e1, e2⟩, hb⟩ := q
    obtain ⟨o, c, rfl, _⟩ := own_shape e2
    have h2 := h.out.below hb
    obtain ⟨g1, g2, g3, g4, g5, g6⟩ := h2.reads
    exact ⟨o, c, e1, g1, g2, g3, g4, g5, g6, h2, own_grown hu.out hb, e2⟩))
  clear HL HP HB0
  go_enter Try.func24, Try.ntmps24
  go_wp2_with fail
  obtain ⟨W, hW⟩ : ∃ W, (w.alloc (Obj.cells #[.slice oL nL cL, .slice (some ⟨b, off, none⟩) nP cP] 52)).alloc (Obj.cells #[.slice none 0 0, .slice none 0 0] 52) = W := ⟨_, rfl⟩
  have h2 : Two2 w.heap.size (.slice oL nL cL) (.slice (some ⟨b, off, none⟩) nP cP) w W := by
    subst hW
    exact Two2.made _ _ _
  rw [hW]
  obtain ⟨r1, r2, r3, r4, r5, r6⟩ := h2.reads
  have H2 := Lib.hid (show Two2 w.heap.size (.slice oL nL cL) (.slice (some ⟨b, off, none⟩) nP cP) w W.drew from ⟨h2.1, h2.2.1, h2.2.2.drew⟩)
  clear h2 hW
  go_region_with (first | (go_at_call 34; refine (HL2.out _ H2).mono ?_; rintro e wq ⟨oA, cA, rfl, s1, s2, s3, s4, s5, s6, s7, s8⟩) | (go_at_call 35; refine (HP2.out _ _ s7 s8).mono ?_; rintro e wq ⟨oB, cB, rfl, s1, s2, s3, s4, s5, s6, s7, s8, s9⟩))
  all_goals
    go_wp2
    refine bodyPost_ret (v := .agg #[.slice oA mA cA, .slice oB mB cB]) (by simp [results, Try.results24, go_sem, s3, s4]) rfl ?_
    have hT := s7.out.2.1
    obtain ⟨W1, hW1⟩ : ∃ W1, wq.setCell ⟨w.heap.size + 1, 0, none⟩ (.slice oA mA cA) = W1 := ⟨_, rfl⟩
    have hT1 := heap_setCell_same wq (w.heap.size + 1) 0 _ 52 (.slice oA mA cA) hT
    refine ⟨⟨_, _, rfl, own_set_other (own_set_other s8.out hT (by decide)) hT1 (by decide), own_set_other (own_set_other s9.out hT (by decide)) hT1 (by decide)⟩, (s7.out.2.2.setCell (by simp) _).setCell (by simp) _⟩
end Go.Proofs.Ytmidpekkomhogaa.Sto
end
