/- Patterns, plain: parts laid into a graph of atoms. No program in it. -/
import Derived.Test.YtfpdhmecomgbdaaQa
namespace Go.Proofs.Ytfpdhmecomgbdaa

/-- How one comes into a part, and out of it. -/
structure Eg where
  none : Bool
  first : Nat
  last : Nat
/-- The atoms, and which ones may be right behind each. -/
structure Gr where
  atoms : List Pt
  thn : List Nat

def linkF (thn : List Nat) (a b : Nat) : List Nat := thn.mapIdx fun i t => if a.testBit i then t ||| b else t
def layAtomF (x : Pt) (g : Gr) : Eg × Gr := (⟨false, 2 ^ g.atoms.length, 2 ^ g.atoms.length⟩, ⟨g.atoms ++ [x], g.thn ++ [0]⟩)
def altF (e e1 : Eg) : Eg := ⟨e.none || e1.none, e.first ||| e1.first, e.last ||| e1.last⟩
def seqF (e e1 : Eg) : Eg := ⟨e.none && e1.none, if e.none then e.first ||| e1.first else e.first, if e1.none then e.last ||| e1.last else e1.last⟩
def timesG (a b : Bool) (p : Eg × Gr) : Eg × Gr := (⟨p.1.none || a, p.1.first, p.1.last⟩, if b then ⟨p.2.atoms, linkF p.2.thn p.1.last p.1.first⟩ else p.2)
mutual
def layF : Pt → Gr → Eg × Gr
  | .choice l, g => layAlts l ⟨false, 0, 0⟩ g
  | .chain l, g => laySeq l ⟨true, 0, 0⟩ g
  | .times x a b, g => timesG a b (layF x g)
  | .only r, g => layAtomF (.only r) g
  | .cls n xs, g => layAtomF (.cls n xs) g
  | .dot, g => layAtomF .dot g
def layAlts : List Pt → Eg → Gr → Eg × Gr
  | [], e, g => (e, g)
  | x :: xs, e, g => layAlts xs (altF e (layF x g).1) (layF x g).2
def laySeq : List Pt → Eg → Gr → Eg × Gr
  | [], e, g => (e, g)
  | x :: xs, e, g => laySeq xs (seqF e (layF x g).1) ⟨(layF x g).2.atoms, linkF (layF x g).2.thn e.last (layF x g).1.first⟩
end

theorem linkF_len (t : List Nat) (a b : Nat) : (linkF t a b).length = t.length := by simp [linkF]
theorem pow_or {a b n : Nat} (ha : a < 2 ^ n) (hb : b < 2 ^ n) : a ||| b < 2 ^ n := Nat.or_lt_two_pow ha hb
theorem pow_mono {a n m : Nat} (ha : a < 2 ^ n) (h : n ≤ m) : a < 2 ^ m := Nat.lt_of_lt_of_le ha (Nat.pow_le_pow_right (by omega) h)

/-- Sizes: as many links as atoms; every mask speaks of atoms that are there. -/
structure GrOk (g : Gr) : Prop where
  len : g.thn.length = g.atoms.length
  small : ∀ t ∈ g.thn, t < 2 ^ g.atoms.length
theorem linkF_small {t : List Nat} {a b n : Nat} (h : ∀ x ∈ t, x < 2 ^ n) (hb : b < 2 ^ n) : ∀ x ∈ linkF t a b, x < 2 ^ n := by
  intro x hx
  unfold linkF at hx
  obtain ⟨i, hi, rfl⟩ := List.mem_mapIdx.1 hx
  split
  · exact pow_or (h _ (List.getElem_mem _)) hb
  · exact h _ (List.getElem_mem _)
theorem layAtomF_ok (x : Pt) (hx : x.size = 1) (g : Gr) (h : GrOk g) : GrOk (layAtomF x g).2 ∧ (layAtomF x g).2.atoms.length = g.atoms.length + x.size ∧ (layAtomF x g).1.first < 2 ^ (g.atoms.length + x.size) ∧ (layAtomF x g).1.last < 2 ^ (g.atoms.length + x.size) := by
  unfold layAtomF
  rw [hx]
  have hp : 2 ^ g.atoms.length < 2 ^ (g.atoms.length + 1) := Nat.pow_lt_pow_right (by omega) (by omega)
  refine ⟨⟨by simp [h.len], fun t ht => ?_⟩, by simp, hp, hp⟩
  rw [List.length_append]
  rcases List.mem_append.1 ht with ht | ht
  · exact pow_mono (h.small t ht) (by simp)
  · simp at ht; subst ht; exact Nat.two_pow_pos _
mutual
theorem layF_ok : ∀ (x : Pt) (g : Gr), GrOk g → GrOk (layF x g).2 ∧ (layF x g).2.atoms.length = g.atoms.length + x.size ∧ (layF x g).1.first < 2 ^ (g.atoms.length + x.size) ∧ (layF x g).1.last < 2 ^ (g.atoms.length + x.size)
  | .choice l, g, h => by
    rw [layF]
    exact layAlts_ok l ⟨false, 0, 0⟩ g h (Nat.two_pow_pos _) (Nat.two_pow_pos _)
  | .chain l, g, h => by
    rw [layF]
    exact laySeq_ok l ⟨true, 0, 0⟩ g h (Nat.two_pow_pos _) (Nat.two_pow_pos _)
  | .times x a b, g, h => by
    rw [layF]
    obtain ⟨h1, h2, h3, h4⟩ := layF_ok x g h
    unfold timesG
    refine ⟨?_, ?_, h3, h4⟩
    · cases b with
      | false => exact h1
      | true =>
        rw [if_pos rfl]
        exact ⟨by rw [linkF_len]; exact h1.len, linkF_small h1.small (by rw [h2]; exact h3)⟩
    · cases b with
      | false => exact h2
      | true => exact h2
  | .only r, g, h => by rw [layF]; exact layAtomF_ok _ rfl g h
  | .cls n xs, g, h => by rw [layF]; exact layAtomF_ok _ rfl g h
  | .dot, g, h => by rw [layF]; exact layAtomF_ok _ rfl g h
theorem layAlts_ok : ∀ (l : List Pt) (e : Eg) (g : Gr), GrOk g → e.first < 2 ^ g.atoms.length → e.last < 2 ^ g.atoms.length → GrOk (layAlts l e g).2 ∧ (layAlts l e g).2.atoms.length = g.atoms.length + sizes l ∧ (layAlts l e g).1.first < 2 ^ (g.atoms.length + sizes l) ∧ (layAlts l e g).1.last < 2 ^ (g.atoms.length + sizes l)
  | [], e, g, h, h1, h2 => ⟨h, by simp [layAlts, sizes], by simpa [layAlts, sizes] using h1, by simpa [layAlts, sizes] using h2⟩
  | x :: xs, e, g, h, h1, h2 => by
    rw [layAlts]
    obtain ⟨k1, k2, k3, k4⟩ := layF_ok x g h
    have := layAlts_ok xs (altF e (layF x g).1) (layF x g).2 k1 (by rw [k2]; exact pow_or (pow_mono h1 (by omega)) k3) (by rw [k2]; exact pow_or (pow_mono h2 (by omega)) k4)
    rw [k2] at this
    simpa [sizes, Nat.add_assoc] using this
theorem laySeq_ok : ∀ (l : List Pt) (e : Eg) (g : Gr), GrOk g → e.first < 2 ^ g.atoms.length → e.last < 2 ^ g.atoms.length → GrOk (laySeq l e g).2 ∧ (laySeq l e g).2.atoms.length = g.atoms.length + sizes l ∧ (laySeq l e g).1.first < 2 ^ (g.atoms.length + sizes l) ∧ (laySeq l e g).1.last < 2 ^ (g.atoms.length + sizes l)
  | [], e, g, h, h1, h2 => ⟨h, by simp [laySeq, sizes], by simpa [laySeq, sizes] using h1, by simpa [laySeq, sizes] using h2⟩
  | x :: xs, e, g, h, h1, h2 => by
    rw [laySeq]
    obtain ⟨k1, k2, k3, k4⟩ := layF_ok x g h
    have ok : GrOk ⟨(layF x g).2.atoms, linkF (layF x g).2.thn e.last (layF x g).1.first⟩ := ⟨by rw [linkF_len]; exact k1.len, linkF_small k1.small (by rw [k2]; exact k3)⟩
    have f1 : (seqF e (layF x g).1).first < 2 ^ (layF x g).2.atoms.length := by
      rw [k2]; unfold seqF; dsimp only; split
      · exact pow_or (pow_mono h1 (by omega)) k3
      · exact pow_mono h1 (by omega)
    have f2 : (seqF e (layF x g).1).last < 2 ^ (layF x g).2.atoms.length := by
      rw [k2]; unfold seqF; dsimp only; split
      · exact pow_or (pow_mono h2 (by omega)) k4
      · exact k4
    have := laySeq_ok xs (seqF e (layF x g).1) ⟨(layF x g).2.atoms, linkF (layF x g).2.thn e.last (layF x g).1.first⟩ ok f1 f2
    dsimp only at this
    rw [k2] at this
    simpa [sizes, Nat.add_assoc] using this
end
end Go.Proofs.Ytfpdhmecomgbdaa
