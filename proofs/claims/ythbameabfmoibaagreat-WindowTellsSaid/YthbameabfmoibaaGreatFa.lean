/- Numbers with a limit, plain: signs, what they reckon, texts that are signs. No program in it. -/
import Derived.Test.YthbameabfmoibaaGreatMath
namespace Go.Proofs.YthbameabfmoibaaGreat

/-- A number that may be. -/
def rgt (v : Int) : Prop := -1000000000000 ≤ v ∧ v ≤ 1000000000000
instance (v : Int) : Decidable (rgt v) := by unfold rgt; infer_instance
def rgtB (v : Int) : Bool := decide (rgt v)

def reckB (f : Int) (q : Bool) : Bool := (f == 43 || f == 45 || f == 42 || f == 47 || f == 37) && !q
def cmpB (f : Int) (q : Bool) : Bool := if f = 61 ∨ f = 33 then q else f == 60 || f == 62
/-- What is read of runes: the first one, whether an equality sign stands behind it, whether it is a sign. -/
def readF : List Int → Int × Bool × Bool
  | [] => (0, false, false)
  | [f] => (f, false, reckB f false || cmpB f false)
  | [f, g] => if g = 61 then (f, true, reckB f true || cmpB f true) else (0, false, false)
  | _ => (0, false, false)

/-- Which sign a text is: its first rune, and whether an equality sign stands behind it. -/
def signOf (s : ByteArray) : Option (Int × Bool) :=
  if (readF (spell s.data.toList)).2.2 then some ((readF (spell s.data.toList)).1, (readF (spell s.data.toList)).2.1) else none

def holdsF (f : Int) (q : Bool) (a b : Int) : Bool :=
  if f = 60 then decide (a < b) || (q && a == b) else if f = 62 then decide (b < a) || (q && a == b) else if f = 61 then a == b else !(a == b)
def withinF (v : Int) : Int × Int := if rgt v then (v, 0) else (0, 4)
def sizeF (v : Int) : Int := if v ≤ -v then -v else v
def timesF (a b : Int) : Int × Int := if b ≠ 0 ∧ 1000000000000 / sizeF b < sizeF a then (0, 4) else (a * b, 0)
def reckF (f : Int) (a b : Int) : Int × Int :=
  if f = 43 then withinF (a + b) else if f = 45 then withinF (a - b) else if f = 42 then timesF a b else
  if b = 0 then (0, 5) else if f = 47 then (a.tdiv b, 0) else (a.tmod b, 0)
def doF (s : ByteArray) (a b : Int) : Int × Int :=
  match signOf s with
  | none => (0, 1)
  | some x => if rgt a ∧ rgt b then (if cmpB x.1 x.2 then (if holdsF x.1 x.2 a b then (1, 0) else (0, 0)) else reckF x.1 a b) else (0, 1)
def comparesF (s : ByteArray) : Bool :=
  match signOf s with
  | none => false
  | some x => cmpB x.1 x.2

/-! ### which texts are signs -/
theorem bytes_ext {a b : ByteArray} (h : a.data.toList = b.data.toList) : a = b := by
  cases a; cases b; congr 1; exact Array.ext' h
theorem spell_nil : spell [] = [] := rfl
theorem spell_step (l : List UInt8) (hne : l ≠ []) : spell l = rune l :: spell (l.drop (Go.Lib.decodeL l).2) := by
  unfold spell; rw [sufs_step l hne, List.map_cons]
theorem ascii_cons (c : UInt8) (hc : c.toNat < 128) (l : List UInt8) : spell (c :: l) = (c.toNat : Int) :: spell l := by
  have hd : Go.Lib.decodeL (c :: l) = (c.toNat, 1) := by
    rw [Go.Lib.decodeL_N]
    unfold Go.Lib.decodeN
    rw [if_pos (by simpa using hc)]; rfl
  rw [spell_step _ (by simp)]
  unfold rune
  rw [hd]; rfl
/-- A rune below 128 is its one byte. -/
theorem ascii_head (l : List UInt8) (hne : l ≠ []) (h : rune l < 128) : ∃ c t, l = c :: t ∧ c.toNat < 128 ∧ rune l = c.toNat ∧ spell l = (c.toNat : Int) :: spell t := by
  cases l with
  | nil => exact absurd rfl hne
  | cons c t =>
    have hc : c.toNat < 128 := by
      unfold rune at h
      rw [Go.Lib.decodeL_N] at h
      have h0 : ((c :: t).getD 0 0) = c := rfl
      rw [h0] at h
      rcases Go.Lib.decodeN_shape (c :: t).length c.toNat ((c :: t).getD 1 0).toNat ((c :: t).getD 2 0).toNat ((c :: t).getD 3 0).toNat with ⟨k, e⟩ | ⟨c1, c2, c3, cv, e⟩ | ⟨c1, c2, c3, c4, cv, cs, e⟩ | ⟨c1, c2, c3, c4, c5, cv, cw, e⟩ | e
      · omega
      all_goals (rw [e] at h; dsimp only at h; omega)
    have e := ascii_cons c hc t
    refine ⟨c, t, rfl, hc, ?_, e⟩
    have := spell_step (c :: t) (by simp)
    rw [e] at this
    exact (List.cons.inj this).1.symm
theorem spell_one {l : List UInt8} {f : Int} (h : spell l = [f]) (hf : f < 128) : l = [f.toNat.toUInt8] := by
  have hne : l ≠ [] := fun e => by rw [e] at h; simp [spell_nil] at h
  have h2 := spell_step l hne
  rw [h] at h2
  obtain ⟨c, t, rfl, hc, hr, e⟩ := ascii_head l hne (by rw [← (List.cons.inj h2).1]; exact hf)
  rw [h] at e
  obtain ⟨e1, e2⟩ := List.cons.inj e
  have ht : t = [] := by
    cases t with
    | nil => rfl
    | cons x y => rw [spell_step _ (by simp)] at e2; simp at e2
  subst ht
  rw [e1]; simp
theorem spell_two {l : List UInt8} {f g : Int} (h : spell l = [f, g]) (hf : f < 128) (hg : g < 128) : l = [f.toNat.toUInt8, g.toNat.toUInt8] := by
  have hne : l ≠ [] := fun e => by rw [e] at h; simp [spell_nil] at h
  have h2 := spell_step l hne
  rw [h] at h2
  obtain ⟨c, t, rfl, hc, hr, e⟩ := ascii_head l hne (by rw [← (List.cons.inj h2).1]; exact hf)
  rw [h] at e
  obtain ⟨e1, e2⟩ := List.cons.inj e
  rw [spell_one e2.symm hg, e1]; simp

theorem readF_cases {l : List Int} (h : (readF l).2.2 = true) :
    l = [43] ∨ l = [45] ∨ l = [42] ∨ l = [47] ∨ l = [37] ∨ l = [61, 61] ∨ l = [33, 61] ∨ l = [60] ∨ l = [60, 61] ∨ l = [62] ∨ l = [62, 61] := by
  match l, h with
  | [], h => simp [readF] at h
  | [f], h =>
    simp only [readF, reckB, cmpB] at h
    by_cases h1 : f = 61 ∨ f = 33
    · rw [if_pos h1] at h
      rcases h1 with rfl | rfl <;> simp at h
    · rw [if_neg h1] at h
      simp at h
      rcases h with ((((rfl | rfl) | rfl) | rfl) | rfl) | rfl | rfl <;> simp
  | [f, g], h =>
    by_cases hg : g = 61
    · subst hg
      simp only [readF, if_true, reckB, cmpB] at h
      by_cases h1 : f = 61 ∨ f = 33
      · rcases h1 with rfl | rfl <;> simp
      · rw [if_neg h1] at h
        simp at h
        rcases h with rfl | rfl <;> simp
    · simp [readF, hg] at h
  | f :: g :: k :: t, h => simp [readF] at h

/-- The eleven signs, as texts. -/
def signs : List ByteArray := [⟨#[43]⟩, ⟨#[45]⟩, ⟨#[42]⟩, ⟨#[47]⟩, ⟨#[37]⟩, ⟨#[61, 61]⟩, ⟨#[33, 61]⟩, ⟨#[60]⟩, ⟨#[60, 61]⟩, ⟨#[62]⟩, ⟨#[62, 61]⟩]
theorem sign_of_read {s : ByteArray} (h : (readF (spell s.data.toList)).2.2 = true) : s ∈ signs := by
  have one : ∀ f : Int, f < 128 → spell s.data.toList = [f] → s = ⟨#[f.toNat.toUInt8]⟩ := fun f hf e => bytes_ext (spell_one e hf)
  have two : ∀ f g : Int, f < 128 → g < 128 → spell s.data.toList = [f, g] → s = ⟨#[f.toNat.toUInt8, g.toNat.toUInt8]⟩ := fun f g hf hg e => bytes_ext (spell_two e hf hg)
  unfold signs
  rcases readF_cases h with e | e | e | e | e | e | e | e | e | e | e
  · rw [one _ (by decide) e]; exact List.mem_of_getElem? (i := 0) rfl
  · rw [one _ (by decide) e]; exact List.mem_of_getElem? (i := 1) rfl
  · rw [one _ (by decide) e]; exact List.mem_of_getElem? (i := 2) rfl
  · rw [one _ (by decide) e]; exact List.mem_of_getElem? (i := 3) rfl
  · rw [one _ (by decide) e]; exact List.mem_of_getElem? (i := 4) rfl
  · rw [two _ _ (by decide) (by decide) e]; exact List.mem_of_getElem? (i := 5) rfl
  · rw [two _ _ (by decide) (by decide) e]; exact List.mem_of_getElem? (i := 6) rfl
  · rw [one _ (by decide) e]; exact List.mem_of_getElem? (i := 7) rfl
  · rw [two _ _ (by decide) (by decide) e]; exact List.mem_of_getElem? (i := 8) rfl
  · rw [one _ (by decide) e]; exact List.mem_of_getElem? (i := 9) rfl
  · rw [two _ _ (by decide) (by decide) e]; exact List.mem_of_getElem? (i := 10) rfl
theorem signOf_none {s : ByteArray} (h : s ∉ signs) : signOf s = none := by
  unfold signOf
  rw [if_neg (fun h2 => h (sign_of_read h2))]
theorem sign_add : signOf ⟨#[43]⟩ = some (43, false) := by decide +kernel
theorem sign_sub : signOf ⟨#[45]⟩ = some (45, false) := by decide +kernel
theorem sign_mul : signOf ⟨#[42]⟩ = some (42, false) := by decide +kernel
theorem sign_div : signOf ⟨#[47]⟩ = some (47, false) := by decide +kernel
theorem sign_mod : signOf ⟨#[37]⟩ = some (37, false) := by decide +kernel
theorem sign_eq : signOf ⟨#[61, 61]⟩ = some (61, true) := by decide +kernel
theorem sign_ne : signOf ⟨#[33, 61]⟩ = some (33, true) := by decide +kernel
theorem sign_lt : signOf ⟨#[60]⟩ = some (60, false) := by decide +kernel
theorem sign_le : signOf ⟨#[60, 61]⟩ = some (60, true) := by decide +kernel
theorem sign_gt : signOf ⟨#[62]⟩ = some (62, false) := by decide +kernel
theorem sign_ge : signOf ⟨#[62, 61]⟩ = some (62, true) := by decide +kernel
end Go.Proofs.YthbameabfmoibaaGreat
