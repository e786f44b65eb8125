/- Patterns, plain: a text is held against a graph. No program in it. -/
import Derived.Test.YtfpdhmecomgbdaaQb
namespace Go.Proofs.Ytfpdhmecomgbdaa

def hasF (xs : List (Int × Int)) (r : Int) : Bool := xs.any fun x => decide (x.1 ≤ r) && decide (r ≤ x.2)
def fitsF : Pt → Int → Bool
  | .only o, r => o == r
  | .cls n xs, r => hasF xs r != n
  | .dot, _ => true
  | _, _ => false
def hitTo (l : List Pt) (op : Nat) (r : Int) : Nat → Nat
  | 0 => 0
  | k + 1 => if op.testBit k && fitsF (l.getD k (.choice [])) r then hitTo l op r k ||| 2 ^ k else hitTo l op r k
def hitF (g : Gr) (op : Nat) (r : Int) : Nat := hitTo g.atoms op r g.atoms.length
def behTo (t : List Nat) (h : Nat) : Nat → Nat
  | 0 => 0
  | k + 1 => if h.testBit k then behTo t h k ||| t.getD k 0 else behTo t h k
def behF (g : Gr) (h : Nat) : Nat := behTo g.thn h g.thn.length
def begGo (g : Gr) (last : Nat) : Nat → Nat → Int → List Int → Int
  | _, _, most, [] => most
  | op, n, most, r :: rs => if hitF g op r = 0 then most else begGo g last (behF g (hitF g op r)) (n + 1) (if hitF g op r &&& last = 0 then most else ((n + 1 : Nat) : Int)) rs
def begF (p : Eg × Gr) (rs : List Int) : Int := begGo p.2 p.1.last p.1.first 0 (if p.1.none then 0 else -1) rs

theorem hitTo_lt (l : List Pt) (op : Nat) (r : Int) : ∀ k, hitTo l op r k < 2 ^ k
  | 0 => by simp [hitTo]
  | k + 1 => by
    have h := pow_mono (hitTo_lt l op r k) (Nat.le_succ k)
    have hp : 2 ^ k < 2 ^ (k + 1) := Nat.pow_lt_pow_right (by omega) (by omega)
    rw [hitTo]
    split
    · exact pow_or h hp
    · exact h
theorem behTo_lt (t : List Nat) (h n : Nat) (hs : ∀ x ∈ t, x < 2 ^ n) : ∀ k, behTo t h k < 2 ^ n
  | 0 => by rw [behTo]; exact Nat.two_pow_pos _
  | k + 1 => by
    have ih := behTo_lt t h n hs k
    rw [behTo]
    split
    · refine pow_or ih ?_
      rw [List.getD_eq_getElem?_getD]
      cases hk : t[k]? with
      | none => simp; exact Nat.two_pow_pos _
      | some x => exact hs x (List.mem_of_getElem? hk)
    · exact ih
theorem hitF_lt (g : Gr) (op : Nat) (r : Int) : hitF g op r < 2 ^ g.atoms.length := hitTo_lt _ _ _ _
theorem behF_lt (g : Gr) (h : GrOk g) (x : Nat) : behF g x < 2 ^ g.atoms.length := behTo_lt _ _ _ h.small _
end Go.Proofs.Ytfpdhmecomgbdaa
