/- Plain: kinds of parts, how deep they are, and their metrics (kind). No program in it. -/
import Derived.Test.YtddglepimbfdkaaGreatDoorNy
namespace Go.Proofs.YtddglepimbfdkaaGreatDoor.Knd
open Go.Lib
open Go.Proofs.YtddglepimbfdkaaGreatDoor.Par

def tQuantile : ByteArray := ⟨#[113, 117, 97, 110, 116, 105, 108, 101]⟩
def tTopk : ByteArray := ⟨#[116, 111, 112, 107]⟩
/-- May an aggregation have that number? -/
def fitsN (name : ByteArray) (n : Nat) : Bool := if name = tQuantile then decide (n ≤ 100) else if name = tTopk then decide (1 ≤ n ∧ n ≤ 2000) else true
/-- A sum's kind: of its parts' kinds. -/
def twoK (mode a b : Nat) : Nat := if a = 0 ∨ a = 3 ∨ b = 0 ∨ b = 3 then 0 else if a = 2 ∧ b = 2 then 2 else if mode ≠ 0 then 0 else if a = 1 ∧ b = 1 then 1 else 2
/-- A part's kind: 0, if it may not be. -/
def kindE : Ex → Nat
  | .num _ => 1
  | .neg x => if kindE x = 3 then 0 else kindE x
  | .bin _ m _ l r => twoK m (kindE l) (kindE r)
  | .agg name n _ _ x => if kindE x = 2 ∧ fitsN name n = true then 2 else 0
  | .fn _ x => if kindE x = 3 then 2 else 0
  | .sel _ n _ => if 0 < n then 3 else 2
theorem twoK_le (m a b : Nat) : twoK m a b ≤ 3 := by unfold twoK; split <;> (try split) <;> (try split) <;> (try split) <;> omega
theorem kindE_le : ∀ x : Ex, kindE x ≤ 3
  | .num _ => by simp [kindE]
  | .neg x => by have := kindE_le x; rw [kindE]; split <;> omega
  | .bin _ _ _ _ _ => twoK_le _ _ _
  | .agg _ _ _ _ _ => by rw [kindE]; split <;> omega
  | .fn _ _ => by rw [kindE]; split <;> omega
  | .sel _ _ _ => by rw [kindE]; split <;> omega

/-- How deep a part is. -/
def deepE : Ex → Nat
  | .num _ => 1
  | .neg x => 1 + deepE x
  | .bin _ _ _ l r => 1 + max (deepE l) (deepE r)
  | .agg _ _ _ _ x => 1 + deepE x
  | .fn _ x => 1 + deepE x
  | .sel _ _ _ => 1
/-- The greatest of a list's, from a number on. -/
def maxL (m : Nat) (l : List Ex) : Nat := l.foldl (fun m x => max m (deepE x)) m
theorem deepE_eq (x : Ex) : deepE x = 1 + maxL 0 (kidsE x) := by
  cases x <;> simp [deepE, maxL, kidsE]
theorem maxL_cons (m : Nat) (x : Ex) (l : List Ex) : maxL m (x :: l) = maxL (max m (deepE x)) l := rfl
theorem deepE_le : ∀ x : Ex, deepE x ≤ countE x
  | .num _ => Nat.le_refl _
  | .neg x => by have := deepE_le x; simp only [deepE, countE]; omega
  | .bin _ _ _ l r => by have := deepE_le l; have := deepE_le r; simp only [deepE, countE]; omega
  | .agg _ _ _ _ x => by have := deepE_le x; simp only [deepE, countE]; omega
  | .fn _ x => by have := deepE_le x; simp only [deepE, countE]; omega
  | .sel _ _ _ => Nat.le_refl _
theorem deepE_pos (x : Ex) : 1 ≤ deepE x := by rw [deepE_eq]; omega

/-- The metrics that a part names, from the left to the right. -/
def selsE : Ex → List ByteArray
  | .num _ => []
  | .neg x => selsE x
  | .bin _ _ _ l r => selsE l ++ selsE r
  | .agg _ _ _ _ x => selsE x
  | .fn _ x => selsE x
  | .sel m _ _ => if m.size = 0 then [] else [m]
/-- A part's own. -/
def ownE : Ex → List ByteArray
  | .sel m _ _ => if m.size = 0 then [] else [m]
  | _ => []
def selsL (l : List Ex) : List ByteArray := l.flatMap selsE
theorem selsE_eq (x : Ex) : selsE x = ownE x ++ selsL (kidsE x) := by
  cases x <;> simp [selsE, ownE, selsL, kidsE]
theorem selsL_cons (x : Ex) (l : List Ex) : selsL (x :: l) = selsE x ++ selsL l := by simp [selsL]
theorem selsE_len : ∀ x : Ex, (selsE x).length ≤ countE x
  | .num _ => by simp [selsE]
  | .neg x => by have := selsE_len x; simp only [selsE, countE]; omega
  | .bin _ _ _ l r => by have := selsE_len l; have := selsE_len r; simp only [selsE, countE, List.length_append]; omega
  | .agg _ _ _ _ x => by have := selsE_len x; simp only [selsE, countE]; omega
  | .fn _ x => by have := selsE_len x; simp only [selsE, countE]; omega
  | .sel m _ _ => by simp only [selsE, countE]; split <;> simp
theorem good_sels : ∀ x : Ex, Par.Good x → ∀ s ∈ selsE x, s.size ≤ 1000
  | .num _, _, s, h => by simp [selsE] at h
  | .neg x, g, s, h => good_sels x g s h
  | .bin _ _ _ l r, g, s, h => by
    obtain ⟨_, _, g1, g2⟩ := g
    rcases List.mem_append.1 h with h | h
    · exact good_sels l g1 s h
    · exact good_sels r g2 s h
  | .agg _ _ _ _ x, g, s, h => good_sels x g.2.2.2.2 s h
  | .fn _ x, g, s, h => good_sels x g.2 s h
  | .sel m _ _, g, s, h => by
    rw [selsE] at h
    split at h
    · cases h
    · obtain rfl := List.mem_singleton.1 h
      rcases g.1 with e | e
      · rw [Lib.size_eq, e]; exact Nat.zero_le _
      · have := e.1.2; rw [← Lib.size_eq] at this; exact this
instance decMem (s : ByteArray) (acc : List ByteArray) : Decidable (s ∈ acc) := decidable_of_iff (acc.any (fun x => decide (x = s)) = true) (by
  rw [List.any_eq_true]
  constructor
  · rintro ⟨x, hx, e⟩; rw [← of_decide_eq_true e]; exact hx
  · intro h; exact ⟨s, h, decide_eq_true rfl⟩)
/-- One more, if it is not there yet. -/
def add1 (acc : List ByteArray) (s : ByteArray) : List ByteArray := if s ∈ acc then acc else acc ++ [s]
def addAll (acc l : List ByteArray) : List ByteArray := l.foldl add1 acc
/-- The metrics, each once. -/
def metE (x : Ex) : List ByteArray := addAll [] (selsE x)
theorem addAll_nil (acc : List ByteArray) : addAll acc [] = acc := rfl
theorem addAll_cons (acc : List ByteArray) (s : ByteArray) (l : List ByteArray) : addAll acc (s :: l) = addAll (add1 acc s) l := rfl
theorem addAll_append (acc l m : List ByteArray) : addAll acc (l ++ m) = addAll (addAll acc l) m := by unfold addAll; rw [List.foldl_append]
theorem mem_add1 {acc : List ByteArray} {s t : ByteArray} : t ∈ add1 acc s ↔ t ∈ acc ∨ t = s := by
  unfold add1
  split
  · rename_i h
    exact ⟨.inl, fun g => g.elim id fun e => e ▸ h⟩
  · rw [List.mem_append, List.mem_singleton]
theorem mem_addAll {l : List ByteArray} : ∀ {acc : List ByteArray} {t : ByteArray}, t ∈ addAll acc l ↔ t ∈ acc ∨ t ∈ l := by
  induction l with
  | nil => intro acc t; simp [addAll]
  | cons s l ih =>
    intro acc t
    rw [addAll_cons, ih, mem_add1, List.mem_cons]
    constructor
    · rintro ((h | h) | h)
      · exact .inl h
      · exact .inr (.inl h)
      · exact .inr (.inr h)
    · rintro (h | h | h)
      · exact .inl (.inl h)
      · exact .inl (.inr h)
      · exact .inr h
/-- What is in a list is not added once more. -/
theorem add1_in {acc : List ByteArray} {s : ByteArray} (h : s ∈ acc) : add1 acc s = acc := by unfold add1; rw [if_pos h]
theorem add1_out {acc : List ByteArray} {s : ByteArray} (h : s ∉ acc) : add1 acc s = acc ++ [s] := by unfold add1; rw [if_neg h]
/-- A list each of which is there once has the same ones added. -/
theorem addAll_met (l : List ByteArray) : ∀ (base acc : List ByteArray), addAll acc (addAll base l) = addAll (addAll acc base) l := by
  induction l with
  | nil => intro base acc; rfl
  | cons s l ih =>
    intro base acc
    rw [addAll_cons, addAll_cons, ih]
    congr 1
    by_cases h : s ∈ base
    · rw [add1_in h, add1_in (mem_addAll.2 (.inr h))]
    · rw [add1_out h, addAll_append]; rfl
theorem addAll_metE (acc : List ByteArray) (x : Ex) : addAll acc (metE x) = addAll acc (selsE x) := by
  unfold metE; rw [addAll_met]; rfl
theorem add1_len (acc : List ByteArray) (s : ByteArray) : (add1 acc s).length ≤ acc.length + 1 := by
  unfold add1; split <;> simp
theorem addAll_len (l : List ByteArray) : ∀ acc : List ByteArray, (addAll acc l).length ≤ acc.length + l.length := by
  induction l with
  | nil => intro acc; simp [addAll]
  | cons s l ih =>
    intro acc
    have h1 := ih (add1 acc s)
    have h2 := add1_len acc s
    rw [addAll_cons, List.length_cons]; omega
/-- What is there stays ahead. -/
theorem addAll_pre (l : List ByteArray) : ∀ acc : List ByteArray, acc <+: addAll acc l := by
  induction l with
  | nil => intro acc; exact List.prefix_refl _
  | cons s l ih =>
    intro acc
    refine List.IsPrefix.trans ?_ (ih (add1 acc s))
    unfold add1
    split
    · exact List.prefix_refl _
    · exact List.prefix_append _ _
theorem metE_len (x : Ex) : (metE x).length ≤ countE x := by
  have h1 := addAll_len (selsE x) []
  have h2 := selsE_len x
  unfold metE; simp at h1; omega
theorem met_sels {x : Ex} {s : ByteArray} (h : s ∈ metE x) : s ∈ selsE x := by
  unfold metE at h
  rcases mem_addAll.1 h with h | h
  · cases h
  · exact h
end Go.Proofs.YtddglepimbfdkaaGreatDoor.Knd
