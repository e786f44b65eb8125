import Derived.Test.YtleldfhfdgjfmaaMg08
import Derived.Test.YtleldfhfdgjfmaaMg03
import Derived.WalkLawsBesides
import Derived.Test.YtleldfhfdgjfmaaMg06
import Derived.Laws.OwnMore
import Derived.Deep.DeepMust
import Derived.BigQuiet
import Derived.Deep.QuietTactic
section
/- Patterns, plain: what a text is that a pattern says; the graph takes just that. No program in it. -/

namespace Go.Proofs.Ytleldfhfdgjfmaa.Pat

inductive Plus (P : List Int → Prop) : List Int → Prop where
  | one {s : List Int} (h : P s) : Plus P s
  | more {u v : List Int} (h : P u) (k : Plus P v) : Plus P (u ++ v)
mutual
/-- The texts that a part says. -/
def Lang : Pt → List Int → Prop
  | .choice l, s => LangAny l s
  | .chain l, s => LangSeq l s
  | .times x a b, s => (a = true ∧ s = []) ∨ Lang x s ∨ (b = true ∧ Plus (fun t => Lang x t) s)
  | .only o, s => ∃ r, s = [r] ∧ fitsF (.only o) r = true
  | .cls n xs, s => ∃ r, s = [r] ∧ fitsF (.cls n xs) r = true
  | .dot, s => ∃ r, s = [r] ∧ fitsF .dot r = true
def LangAny : List Pt → List Int → Prop
  | [], _ => False
  | x :: xs, s => Lang x s ∨ LangAny xs s
def LangSeq : List Pt → List Int → Prop
  | [], s => s = []
  | x :: xs, s => ∃ u v, s = u ++ v ∧ Lang x u ∧ LangSeq xs v
end

/-- A road over atoms, a rune at each. -/
inductive Path (F : Nat → Int → Prop) (D : Nat → Nat → Prop) : Nat → List Int → Nat → Prop where
  | one {i : Nat} {r : Int} (h : F i r) : Path F D i [r] i
  | more {i j k : Nat} {r : Int} {s : List Int} (h : F i r) (d : D i j) (p : Path F D j s k) : Path F D i (r :: s) k
theorem Path.ne {F : Nat → Int → Prop} {D : Nat → Nat → Prop} {i k : Nat} {s : List Int} (h : Path F D i s k) : s ≠ [] := by
  cases h <;> simp
theorem Path.mono {F F' : Nat → Int → Prop} {D D' : Nat → Nat → Prop} (A : Nat → Prop) (hF : ∀ i r, A i → F i r → F' i r) (hD : ∀ i j, A i → D i j → D' i j ∧ A j) {i k : Nat} {s : List Int} (h : Path F D i s k) (hA : A i) : Path F' D' i s k ∧ A k := by
  induction h with
  | one h => exact ⟨.one (hF _ _ hA h), hA⟩
  | more h d p ih =>
    obtain ⟨d', hj⟩ := hD _ _ hA d
    obtain ⟨p', hk⟩ := ih hj
    exact ⟨.more (hF _ _ hA h) d' p', hk⟩
theorem Path.append {F : Nat → Int → Prop} {D : Nat → Nat → Prop} {i a b k : Nat} {s t : List Int} (h : Path F D i s a) (d : D a b) (h2 : Path F D b t k) : Path F D i (s ++ t) k := by
  induction h with
  | one h => exact .more h d h2
  | more h d' p ih => exact .more h d' (ih d)
/-- A road that leaves the first region leaves it once. -/
theorem Path.split {F : Nat → Int → Prop} {D D1 D2 : Nat → Nat → Prop} (A B : Nat → Prop) (l f : Nat → Prop) (h1 : ∀ i j, A i → D i j → (D1 i j ∧ A j) ∨ (l i ∧ f j ∧ B j)) (h2 : ∀ i j, B i → D i j → D2 i j ∧ B j)
    {i k : Nat} {s : List Int} (h : Path F D i s k) (hA : A i) : (A k ∧ Path F D1 i s k) ∨ (B k ∧ ∃ u v a b, s = u ++ v ∧ Path F D1 i u a ∧ l a ∧ f b ∧ Path F D2 b v k) := by
  induction h with
  | one h => exact .inl ⟨hA, .one h⟩
  | more h d p ih =>
    rcases h1 _ _ hA d with ⟨d1, hj⟩ | ⟨hl, hf, hB⟩
    · rcases ih hj with ⟨hk, p1⟩ | ⟨hk, u, v, a, b, e, q1, q2, q3, q4⟩
      · exact .inl ⟨hk, .more h d1 p1⟩
      · exact .inr ⟨hk, _ :: u, v, a, b, by rw [e]; rfl, .more h d1 q1, q2, q3, q4⟩
    · obtain ⟨p2, hk⟩ := p.mono B (fun _ _ _ hh => hh) h2 hB
      exact .inr ⟨hk, [_], _, _, _, rfl, .one h, hl, hf, p2⟩
/-- A road with turns back is one road behind the other. -/
theorem Path.loops {F : Nat → Int → Prop} {D D1 : Nat → Nat → Prop} (l f : Nat → Prop) (h1 : ∀ i j, D i j → D1 i j ∨ (l i ∧ f j)) {i k : Nat} {s : List Int} (h : Path F D i s k) (hk : l k) :
    ∃ u a, Path F D1 i u a ∧ l a ∧ (s = u ∨ ∃ v, s = u ++ v ∧ Plus (fun t => ∃ b c, f b ∧ l c ∧ Path F D1 b t c) v) := by
  induction h with
  | one h => exact ⟨_, _, .one h, hk, .inl rfl⟩
  | more h d p ih =>
    obtain ⟨u, a, p1, ha, hs⟩ := ih hk
    rcases h1 _ _ d with d1 | ⟨hl, hf⟩
    · refine ⟨_ :: u, a, .more h d1 p1, ha, ?_⟩
      rcases hs with rfl | ⟨v, rfl, hv⟩
      · exact .inl rfl
      · exact .inr ⟨v, rfl, hv⟩
    · refine ⟨[_], _, .one h, hl, .inr ⟨_, rfl, ?_⟩⟩
      rcases hs with rfl | ⟨v, rfl, hv⟩
      · exact .one ⟨_, _, hf, ha, p1⟩
      · exact .more ⟨_, _, hf, ha, p1⟩ hv

def Fit (g : Gr) (i : Nat) (r : Int) : Prop := ∃ x, g.atoms[i]? = some x ∧ fitsF x r = true
def Ed (g : Gr) (i j : Nat) : Prop := ∃ t, g.thn[i]? = some t ∧ t.testBit j = true
theorem bit_lt {x n i : Nat} (h : x < 2 ^ n) (hb : x.testBit i = true) : i < n := by
  apply Classical.byContradiction
  intro hn
  have := Nat.testBit_lt_two_pow (Nat.lt_of_lt_of_le h (Nat.pow_le_pow_right (by omega) (by omega : n ≤ i)))
  rw [this] at hb; cases hb
theorem Ed.lt {g : Gr} (h : GrOk g) {i j : Nat} (he : Ed g i j) : i < g.atoms.length ∧ j < g.atoms.length := by
  obtain ⟨t, h1, h2⟩ := he
  exact ⟨by rw [← h.len]; exact (List.getElem?_eq_some_iff.1 h1).1, bit_lt (h.small t (List.mem_of_getElem? h1)) h2⟩
/-- What is below n is what it was. -/
structure Frame (n : Nat) (g g' : Gr) : Prop where
  atoms : ∀ i, i < n → g'.atoms[i]? = g.atoms[i]?
  thn : ∀ i, i < n → g'.thn[i]? = g.thn[i]?
theorem Frame.trans {n : Nat} {a b c : Gr} (h : Frame n a b) (k : Frame n b c) : Frame n a c := ⟨fun i hi => (k.atoms i hi).trans (h.atoms i hi), fun i hi => (k.thn i hi).trans (h.thn i hi)⟩
theorem Frame.mono {n m : Nat} {a b : Gr} (h : Frame n a b) (hm : m ≤ n) : Frame m a b := ⟨fun i hi => h.atoms i (by omega), fun i hi => h.thn i (by omega)⟩
theorem Frame.fit {n : Nat} {g g' : Gr} (h : Frame n g g') {i : Nat} (hi : i < n) (r : Int) : Fit g' i r ↔ Fit g i r := by unfold Fit; rw [h.atoms i hi]
theorem Frame.ed {n : Nat} {g g' : Gr} (h : Frame n g g') {i : Nat} (hi : i < n) (j : Nat) : Ed g' i j ↔ Ed g i j := by unfold Ed; rw [h.thn i hi]

/-- The region from n on takes just P. -/
structure Lays (n : Nat) (g : Gr) (e : Eg) (P : List Int → Prop) : Prop where
  first : ∀ i, e.first.testBit i = true → n ≤ i ∧ i < g.atoms.length
  last : ∀ i, e.last.testBit i = true → n ≤ i ∧ i < g.atoms.length
  closed : ∀ i j, n ≤ i → Ed g i j → n ≤ j
  lang : ∀ s, P s ↔ (s = [] ∧ e.none = true) ∨ ∃ i k, e.first.testBit i = true ∧ e.last.testBit k = true ∧ Path (Fit g) (Ed g) i s k
theorem Lays.congr {n : Nat} {g : Gr} {e : Eg} {P Q : List Int → Prop} (h : Lays n g e P) (hq : ∀ s, Q s ↔ P s) : Lays n g e Q := ⟨h.first, h.last, h.closed, fun s => (hq s).trans (h.lang s)⟩

theorem testBit_or (a b i : Nat) : (a ||| b).testBit i = true ↔ a.testBit i = true ∨ b.testBit i = true := by rw [Nat.testBit_or, Bool.or_eq_true]

/-- One alternative more. -/
theorem Lays.alt {n : Nat} {g G : Gr} {e E : Eg} {P Q : List Int → Prop} (hok : GrOk g) (hn : n ≤ g.atoms.length) (h : Lays n g e P) (hf : Frame g.atoms.length g G) (hlen : g.atoms.length ≤ G.atoms.length) (h2 : Lays g.atoms.length G E Q) : Lays n G (altF e E) (fun s => P s ∨ Q s) := by
  obtain ⟨c, hc⟩ : ∃ c, g.atoms.length = c := ⟨_, rfl⟩
  have hclt : ∀ i j, i < c → Ed G i j → Ed g i j ∧ j < c := fun i j hi he => by
    have := (hf.ed (by rw [hc]; exact hi) j).1 he
    exact ⟨this, by rw [← hc]; exact (this.lt hok).2⟩
  have h2c := h2
  rw [hc] at h2c hn
  refine ⟨fun i hi => ?_, fun i hi => ?_, fun i j hi he => ?_, fun s => ?_⟩
  · rcases (testBit_or _ _ _).1 hi with hi | hi
    · have := h.first i hi; omega
    · have := h2c.first i hi; omega
  · rcases (testBit_or _ _ _).1 hi with hi | hi
    · have := h.last i hi; omega
    · have := h2c.last i hi; omega
  · by_cases hic : i < c
    · exact h.closed i j hi (hclt i j hic he).1
    · have := h2c.closed i j (by omega) he; omega
  · rw [h.lang s, h2.lang s]
    constructor
    · rintro ((⟨rfl, hn1⟩ | ⟨i, k, hi, hk, hp⟩) | (⟨rfl, hn1⟩ | ⟨i, k, hi, hk, hp⟩))
      · exact .inl ⟨rfl, by simp [altF, hn1]⟩
      · refine .inr ⟨i, k, (testBit_or _ _ _).2 (.inl hi), (testBit_or _ _ _).2 (.inl hk), ?_⟩
        have := h.first i hi
        exact (hp.mono (fun i => i < c) (fun i r hic hh => (hf.fit (by rw [hc]; exact hic) r).2 hh) (fun i j hic he => ⟨(hf.ed (by rw [hc]; exact hic) j).2 he, by rw [← hc]; exact (he.lt hok).2⟩) (by omega)).1
      · exact .inl ⟨rfl, by simp [altF, hn1]⟩
      · exact .inr ⟨i, k, (testBit_or _ _ _).2 (.inr hi), (testBit_or _ _ _).2 (.inr hk), hp⟩
    · rintro (⟨rfl, hn1⟩ | ⟨i, k, hi, hk, hp⟩)
      · simp only [altF, Bool.or_eq_true] at hn1
        rcases hn1 with hn1 | hn1
        · exact .inl (.inl ⟨rfl, hn1⟩)
        · exact .inr (.inl ⟨rfl, hn1⟩)
      · rcases (testBit_or _ _ _).1 hi with hi | hi
        · have hil := h.first i hi
          obtain ⟨p1, hkc⟩ := hp.mono (F' := Fit g) (D' := Ed g) (fun i => i < c) (fun i r hic hh => (hf.fit (by rw [hc]; exact hic) r).1 hh) (fun i j hic he => hclt i j hic he) (by omega)
          rcases (testBit_or _ _ _).1 hk with hk | hk
          · exact .inl (.inr ⟨i, k, hi, hk, p1⟩)
          · have := h2c.last k hk; omega
        · have hil := h2c.first i hi
          obtain ⟨_, hkc⟩ := hp.mono (F' := Fit G) (D' := Ed G) (fun i => c ≤ i) (fun _ _ _ hh => hh) (fun i j hic he => ⟨he, h2c.closed i j hic he⟩) hil.1
          rcases (testBit_or _ _ _).1 hk with hk | hk
          · have := h.last k hk; omega
          · exact .inr (.inr ⟨i, k, hi, hk, hp⟩)

theorem linkF_ed {g : Gr} {a b i j : Nat} : Ed ⟨g.atoms, linkF g.thn a b⟩ i j ↔ Ed g i j ∨ (i < g.thn.length ∧ a.testBit i = true ∧ b.testBit j = true) := by
  unfold Ed
  dsimp only
  by_cases hi : i < g.thn.length
  · have e1 : (linkF g.thn a b)[i]? = some (if a.testBit i then g.thn[i] ||| b else g.thn[i]) := by
      unfold linkF
      rw [List.getElem?_mapIdx, List.getElem?_eq_getElem hi]; rfl
    rw [e1, List.getElem?_eq_getElem hi]
    constructor
    · rintro ⟨t, ht, hb⟩
      injection ht with ht
      subst ht
      split at hb
      · rename_i ha
        rcases (testBit_or _ _ _).1 hb with hb | hb
        · exact .inl ⟨_, rfl, hb⟩
        · exact .inr ⟨hi, ha, hb⟩
      · exact .inl ⟨_, rfl, hb⟩
    · rintro (⟨t, ht, hb⟩ | ⟨_, ha, hb⟩)
      · injection ht with ht
        subst ht
        refine ⟨_, rfl, ?_⟩
        split
        · exact (testBit_or _ _ _).2 (.inl hb)
        · exact hb
      · refine ⟨_, rfl, ?_⟩
        rw [if_pos ha]
        exact (testBit_or _ _ _).2 (.inr hb)
  · have e1 : (linkF g.thn a b)[i]? = none := List.getElem?_eq_none (by rw [linkF_len]; omega)
    rw [e1, List.getElem?_eq_none (by omega)]
    simp [hi]
theorem fit_link {g : Gr} {t : List Nat} {i : Nat} {r : Int} : Fit ⟨g.atoms, t⟩ i r ↔ Fit g i r := Iff.rfl

/-- One part more behind. -/
theorem Lays.seq {n : Nat} {g G : Gr} {e E : Eg} {P Q : List Int → Prop} (hok : GrOk g) (hok2 : GrOk G) (hn : n ≤ g.atoms.length) (h : Lays n g e P) (hf : Frame g.atoms.length g G) (hlen : g.atoms.length ≤ G.atoms.length) (h2 : Lays g.atoms.length G E Q) :
    Lays n ⟨G.atoms, linkF G.thn e.last E.first⟩ (seqF e E) (fun s => ∃ u v, s = u ++ v ∧ P u ∧ Q v) := by
  obtain ⟨c, hc⟩ : ∃ c, g.atoms.length = c := ⟨_, rfl⟩
  have hclt : ∀ i j, i < c → Ed G i j → Ed g i j ∧ j < c := fun i j hi he => by
    have := (hf.ed (by rw [hc]; exact hi) j).1 he
    exact ⟨this, by rw [← hc]; exact (this.lt hok).2⟩
  have h2c := h2
  rw [hc] at h2c hn hlen
  have hL : ∀ i, e.last.testBit i = true → i < G.thn.length := fun i hi => by have := h.last i hi; rw [hok2.len]; omega
  -- the edges by region
  have hA : ∀ i j, i < c → Ed ⟨G.atoms, linkF G.thn e.last E.first⟩ i j → (Ed g i j ∧ j < c) ∨ (e.last.testBit i = true ∧ E.first.testBit j = true ∧ c ≤ j) := fun i j hi he => by
    rcases linkF_ed.1 he with he | ⟨_, ha, hb⟩
    · exact .inl (hclt i j hi he)
    · exact .inr ⟨ha, hb, (h2c.first j hb).1⟩
  have hB : ∀ i j, c ≤ i → Ed ⟨G.atoms, linkF G.thn e.last E.first⟩ i j → Ed G i j ∧ c ≤ j := fun i j hi he => by
    rcases linkF_ed.1 he with he | ⟨_, ha, hb⟩
    · exact ⟨he, h2c.closed i j hi he⟩
    · have := h.last i ha; omega
  have hup : ∀ {i k : Nat} {s : List Int}, i < c → Path (Fit g) (Ed g) i s k → Path (Fit ⟨G.atoms, linkF G.thn e.last E.first⟩) (Ed ⟨G.atoms, linkF G.thn e.last E.first⟩) i s k := fun hi hp =>
    (hp.mono (fun i => i < c) (fun i r hic hh => fit_link.2 ((hf.fit (by rw [hc]; exact hic) r).2 hh)) (fun i j hic he => ⟨linkF_ed.2 (.inl ((hf.ed (by rw [hc]; exact hic) j).2 he)), by rw [← hc]; exact (he.lt hok).2⟩) hi).1
  have hup2 : ∀ {i k : Nat} {s : List Int}, Path (Fit G) (Ed G) i s k → Path (Fit ⟨G.atoms, linkF G.thn e.last E.first⟩) (Ed ⟨G.atoms, linkF G.thn e.last E.first⟩) i s k := fun hp =>
    (hp.mono (fun _ => True) (fun i r _ hh => fit_link.2 hh) (fun i j _ he => ⟨linkF_ed.2 (.inl he), trivial⟩) trivial).1
  have hdn : ∀ {i k : Nat} {s : List Int}, i < c → Path (Fit ⟨G.atoms, linkF G.thn e.last E.first⟩) (fun a b => Ed g a b) i s k → Path (Fit g) (Ed g) i s k := fun hi hp =>
    (hp.mono (fun i => i < c) (fun i r hic hh => (hf.fit (by rw [hc]; exact hic) r).1 hh) (fun i j hic he => ⟨he, by rw [← hc]; exact (he.lt hok).2⟩) hi).1
  have fE : ∀ i, (seqF e E).first.testBit i = true ↔ e.first.testBit i = true ∨ (e.none = true ∧ E.first.testBit i = true) := fun i => by
    unfold seqF; dsimp only
    split
    · rename_i h0; rw [testBit_or]; simp [h0]
    · rename_i h0; simp [h0]
  have lE : ∀ i, (seqF e E).last.testBit i = true ↔ E.last.testBit i = true ∨ (E.none = true ∧ e.last.testBit i = true) := fun i => by
    unfold seqF; dsimp only
    split
    · rename_i h0; rw [testBit_or]; simp [h0]; exact Or.comm
    · rename_i h0; simp [h0]
  refine ⟨fun i hi => ?_, fun i hi => ?_, fun i j hi he => ?_, fun s => ?_⟩
  · rcases (fE i).1 hi with hi | ⟨_, hi⟩
    · have := h.first i hi; dsimp only; omega
    · have := h2c.first i hi; dsimp only; omega
  · rcases (lE i).1 hi with hi | ⟨_, hi⟩
    · have := h2c.last i hi; dsimp only; omega
    · have := h.last i hi; dsimp only; omega
  · by_cases hic : i < c
    · rcases hA i j hic he with ⟨he, _⟩ | ⟨_, _, hj⟩
      · exact h.closed i j hi he
      · omega
    · have := (hB i j (by omega) he).2; omega
  · constructor
    · rintro ⟨u, v, rfl, hu, hv⟩
      rcases (h.lang u).1 hu with ⟨rfl, hn1⟩ | ⟨i, a, hi, ha, p1⟩
      · rcases (h2.lang v).1 hv with ⟨rfl, hn2⟩ | ⟨b, k, hb, hk, p2⟩
        · exact .inl ⟨rfl, by simp [seqF, hn1, hn2]⟩
        · exact .inr ⟨b, k, (fE b).2 (.inr ⟨hn1, hb⟩), (lE k).2 (.inl hk), by simpa using hup2 p2⟩
      · have hil := h.first i hi
        rcases (h2.lang v).1 hv with ⟨rfl, hn2⟩ | ⟨b, k, hb, hk, p2⟩
        · exact .inr ⟨i, a, (fE i).2 (.inl hi), (lE a).2 (.inr ⟨hn2, ha⟩), by simpa using hup (by omega) p1⟩
        · exact .inr ⟨i, k, (fE i).2 (.inl hi), (lE k).2 (.inl hk), (hup (by omega) p1).append (linkF_ed.2 (.inr ⟨hL a ha, ha, hb⟩)) (hup2 p2)⟩
    · rintro (⟨rfl, hn1⟩ | ⟨i, k, hi, hk, hp⟩)
      · simp only [seqF, Bool.and_eq_true] at hn1
        exact ⟨[], [], rfl, (h.lang []).2 (.inl ⟨rfl, hn1.1⟩), (h2.lang []).2 (.inl ⟨rfl, hn1.2⟩)⟩
      · rcases (fE i).1 hi with hi | ⟨hn1, hi⟩
        · have hil := h.first i hi
          rcases hp.split (D1 := fun a b => Ed g a b) (D2 := fun a b => Ed G a b) (fun i => i < c) (fun i => c ≤ i) (fun i => e.last.testBit i = true) (fun i => E.first.testBit i = true) hA hB (by omega) with ⟨hkc, p1⟩ | ⟨hkc, u, v, a, b, rfl, p1, ha, hb, p2⟩
          · rcases (lE k).1 hk with hk | ⟨hn2, hk⟩
            · have := h2c.last k hk; omega
            · exact ⟨s, [], by simp, (h.lang s).2 (.inr ⟨i, k, hi, hk, hdn (by omega) p1⟩), (h2.lang []).2 (.inl ⟨rfl, hn2⟩)⟩
          · rcases (lE k).1 hk with hk | ⟨_, hk⟩
            · exact ⟨u, v, rfl, (h.lang u).2 (.inr ⟨i, a, hi, ha, hdn (by omega) p1⟩), (h2.lang v).2 (.inr ⟨b, k, hb, hk, p2⟩)⟩
            · have := h.last k hk; omega
        · have hil := h2c.first i hi
          obtain ⟨p2, hkc⟩ := hp.mono (F' := Fit G) (D' := Ed G) (fun i => c ≤ i) (fun _ _ _ hh => hh) hB hil.1
          rcases (lE k).1 hk with hk | ⟨_, hk⟩
          · exact ⟨[], s, rfl, (h.lang []).2 (.inl ⟨rfl, hn1⟩), (h2.lang s).2 (.inr ⟨i, k, hi, hk, p2⟩)⟩
          · have := h.last k hk; omega

/-- Again and again; or not at all. -/
theorem Lays.times {n : Nat} {g : Gr} {e : Eg} {P : List Int → Prop} (hok : GrOk g) (h : Lays n g e P) (a b : Bool) : Lays n (timesG a b (e, g)).2 (timesG a b (e, g)).1 (fun s => (a = true ∧ s = []) ∨ P s ∨ (b = true ∧ Plus P s)) := by
  unfold timesG
  dsimp only
  cases b with
  | false =>
    simp only [Bool.false_eq_true, if_false]
    refine ⟨h.first, h.last, h.closed, fun s => ?_⟩
    rw [h.lang s]
    simp only [Bool.or_eq_true]
    constructor
    · rintro (⟨ha, rfl⟩ | (⟨rfl, h1⟩ | h1) | ⟨h0, _⟩)
      · exact .inl ⟨rfl, .inr ha⟩
      · exact .inl ⟨rfl, .inl h1⟩
      · exact .inr h1
      · exact absurd h0 (by simp)
    · rintro (⟨rfl, h1 | ha⟩ | h1)
      · exact .inr (.inl (.inl ⟨rfl, h1⟩))
      · exact .inl ⟨ha, rfl⟩
      · exact .inr (.inl (.inr h1))
  | true =>
    simp only [if_true]
    have hL : ∀ i, e.last.testBit i = true → i < g.thn.length := fun i hi => by have := h.last i hi; rw [hok.len]; omega
    have hup : ∀ {i k : Nat} {s : List Int}, Path (Fit g) (Ed g) i s k → Path (Fit ⟨g.atoms, linkF g.thn e.last e.first⟩) (Ed ⟨g.atoms, linkF g.thn e.last e.first⟩) i s k := fun hp =>
      (hp.mono (fun _ => True) (fun i r _ hh => fit_link.2 hh) (fun i j _ he => ⟨linkF_ed.2 (.inl he), trivial⟩) trivial).1
    have hplus : ∀ s, Plus P s → (s = [] ∧ e.none = true) ∨ ∃ i k, e.first.testBit i = true ∧ e.last.testBit k = true ∧ Path (Fit ⟨g.atoms, linkF g.thn e.last e.first⟩) (Ed ⟨g.atoms, linkF g.thn e.last e.first⟩) i s k := by
      intro s hs
      induction hs with
      | one hp =>
        rcases (h.lang _).1 hp with h1 | ⟨i, k, hi, hk, p⟩
        · exact .inl h1
        · exact .inr ⟨i, k, hi, hk, hup p⟩
      | more hp _ ih =>
        rcases (h.lang _).1 hp with ⟨rfl, h1⟩ | ⟨i, k, hi, hk, p⟩
        · simpa using ih
        · rcases ih with ⟨rfl, _⟩ | ⟨i2, k2, hi2, hk2, p2⟩
          · exact .inr ⟨i, k, hi, hk, by simpa using hup p⟩
          · exact .inr ⟨i, k2, hi, hk2, (hup p).append (linkF_ed.2 (.inr ⟨hL k hk, hk, hi2⟩)) p2⟩
    refine ⟨h.first, h.last, fun i j hi he => ?_, fun s => ?_⟩
    · rcases linkF_ed.1 he with he | ⟨_, _, hb⟩
      · exact h.closed i j hi he
      · exact (h.first j hb).1
    · simp only [Bool.or_eq_true]
      constructor
      · rintro (⟨ha, rfl⟩ | hp | ⟨_, hp⟩)
        · exact .inl ⟨rfl, .inr ha⟩
        · rcases hplus s (.one hp) with ⟨rfl, h1⟩ | h1
          · exact .inl ⟨rfl, .inl h1⟩
          · exact .inr h1
        · rcases hplus s hp with ⟨rfl, h1⟩ | h1
          · exact .inl ⟨rfl, .inl h1⟩
          · exact .inr h1
      · rintro (⟨rfl, h1 | ha⟩ | ⟨i, k, hi, hk, hp⟩)
        · exact .inr (.inl ((h.lang []).2 (.inl ⟨rfl, h1⟩)))
        · exact .inl ⟨ha, rfl⟩
        · obtain ⟨u, a2, p1, ha2, hs⟩ := hp.loops (D1 := Ed g) (fun i => e.last.testBit i = true) (fun i => e.first.testBit i = true) (fun i j he => by
            rcases linkF_ed.1 he with he | ⟨_, x, y⟩
            · exact .inl he
            · exact .inr ⟨x, y⟩) hk
          have toP : ∀ t, (∃ b c, e.first.testBit b = true ∧ e.last.testBit c = true ∧ Path (Fit ⟨g.atoms, linkF g.thn e.last e.first⟩) (Ed g) b t c) → P t := fun t ⟨b, c, hb, hc, p⟩ => (h.lang t).2 (.inr ⟨b, c, hb, hc, (p.mono (fun _ => True) (fun _ _ _ hh => fit_link.1 hh) (fun _ _ _ he => ⟨he, trivial⟩) trivial).1⟩)
          have hPu : P u := toP u ⟨i, a2, hi, ha2, p1⟩
          rcases hs with rfl | ⟨v, rfl, hv⟩
          · exact .inr (.inl hPu)
          · refine .inr (.inr ⟨by simp, .more hPu ?_⟩)
            clear hp
            induction hv with
            | one h0 => exact .one (toP _ h0)
            | more h0 _ ih => exact .more (toP _ h0) ih

theorem Lays.atom (x : Pt) (g : Gr) (hok : GrOk g) : Lays g.atoms.length (layAtomF x g).2 (layAtomF x g).1 (fun s => ∃ r, s = [r] ∧ fitsF x r = true) ∧ Frame g.atoms.length g (layAtomF x g).2 := by
  obtain ⟨n, hn⟩ : ∃ n, g.atoms.length = n := ⟨_, rfl⟩
  have hn2 : g.thn.length = n := by rw [hok.len]; exact hn
  unfold layAtomF
  rw [hn]
  have hb : ∀ i, (2 ^ n).testBit i = true ↔ i = n := fun i => by rw [Nat.testBit_two_pow]; simp [eq_comm]
  have hfit : ∀ r, Fit ⟨g.atoms ++ [x], g.thn ++ [0]⟩ n r ↔ fitsF x r = true := fun r => by
    unfold Fit
    dsimp only
    rw [List.getElem?_append_right (by omega), hn, Nat.sub_self]
    simp
  have hed : ∀ j, ¬ Ed ⟨g.atoms ++ [x], g.thn ++ [0]⟩ n j := fun j => by
    unfold Ed
    dsimp only
    rw [List.getElem?_append_right (by omega), hn2, Nat.sub_self]
    simp
  refine ⟨⟨fun i hi => ?_, fun i hi => ?_, fun i j hi he => ?_, fun s => ?_⟩, ⟨fun i hi => ?_, fun i hi => ?_⟩⟩
  · have := (hb i).1 hi; subst this; simp; omega
  · have := (hb i).1 hi; subst this; simp; omega
  · by_cases h0 : i = n
    · subst h0; exact absurd he (hed j)
    · obtain ⟨t, ht, _⟩ := he
      have := (List.getElem?_eq_some_iff.1 ht).1
      simp at this
      omega
  · constructor
    · rintro ⟨r, rfl, hr⟩
      exact .inr ⟨n, n, (hb n).2 rfl, (hb n).2 rfl, .one ((hfit r).2 hr)⟩
    · rintro (⟨_, h0⟩ | ⟨i, k, hi, hk, hp⟩)
      · exact absurd h0 (by simp)
      · have e1 := (hb i).1 hi
        subst e1
        cases hp with
        | one h => exact ⟨_, rfl, (hfit _).1 h⟩
        | more h d p => exact absurd d (hed _)
  · exact List.getElem?_append_left (by omega)
  · exact List.getElem?_append_left (by omega)
mutual
theorem layF_lays : ∀ (x : Pt) (g : Gr), GrOk g → Lays g.atoms.length (layF x g).2 (layF x g).1 (Lang x) ∧ Frame g.atoms.length g (layF x g).2
  | .choice l, g, h => by
    rw [layF]
    have e0 : Lays g.atoms.length g ⟨false, 0, 0⟩ (fun _ => False) := ⟨fun i hi => by simp at hi, fun i hi => by simp at hi, fun i j hi he => by have := he.lt h; omega, fun s => by simp⟩
    have := layAlts_lays l ⟨false, 0, 0⟩ g g.atoms.length (fun _ => False) h (Nat.le_refl _) e0
    exact ⟨this.1.congr fun s => by rw [Lang]; exact ⟨.inr, fun h => h.elim False.elim id⟩, this.2⟩
  | .chain l, g, h => by
    rw [layF]
    have e0 : Lays g.atoms.length g ⟨true, 0, 0⟩ (fun s => s = []) := ⟨fun i hi => by simp at hi, fun i hi => by simp at hi, fun i j hi he => by have := he.lt h; omega, fun s => by simp⟩
    have := laySeq_lays l ⟨true, 0, 0⟩ g g.atoms.length (fun s => s = []) h (Nat.le_refl _) e0
    exact ⟨this.1.congr fun s => by rw [Lang]; exact ⟨fun h => ⟨[], s, rfl, rfl, h⟩, fun ⟨u, v, e, hu, hv⟩ => by subst hu; rw [e]; exact hv⟩, this.2⟩
  | .times x a b, g, h => by
    rw [layF]
    obtain ⟨h1, h2⟩ := layF_lays x g h
    have hok := layF_ok x g h
    have ht := h1.times hok.1 a b
    refine ⟨ht.congr fun s => by rw [Lang], ?_⟩
    unfold timesG
    cases b with
    | false => exact h2
    | true =>
      refine ⟨h2.atoms, fun i hi => ?_⟩
      rw [if_pos rfl]
      dsimp only
      have hil : i < (layF x g).2.thn.length := by rw [hok.1.len, hok.2.1]; omega
      have e1 : (linkF (layF x g).2.thn (layF x g).1.last (layF x g).1.first)[i]? = some (if (layF x g).1.last.testBit i then (layF x g).2.thn[i] ||| (layF x g).1.first else (layF x g).2.thn[i]) := by
        unfold linkF
        rw [List.getElem?_mapIdx, List.getElem?_eq_getElem hil]; rfl
      have hnb : (layF x g).1.last.testBit i = false := by
        cases hc : (layF x g).1.last.testBit i with
        | false => rfl
        | true => have := h1.last i hc; omega
      rw [e1, hnb, ← h2.thn i hi, List.getElem?_eq_getElem hil]
      rfl
  | .only r, g, h => by rw [layF]; have := Lays.atom (.only r) g h; exact ⟨this.1.congr fun s => by rw [Lang], this.2⟩
  | .cls n xs, g, h => by rw [layF]; have := Lays.atom (.cls n xs) g h; exact ⟨this.1.congr fun s => by rw [Lang], this.2⟩
  | .dot, g, h => by rw [layF]; have := Lays.atom .dot g h; exact ⟨this.1.congr fun s => by rw [Lang], this.2⟩
theorem layAlts_lays : ∀ (l : List Pt) (e : Eg) (g : Gr) (n : Nat) (P : List Int → Prop), GrOk g → n ≤ g.atoms.length → Lays n g e P → Lays n (layAlts l e g).2 (layAlts l e g).1 (fun s => P s ∨ LangAny l s) ∧ Frame n g (layAlts l e g).2
  | [], e, g, n, P, _, _, h => by
    rw [layAlts]
    exact ⟨h.congr fun s => by simp [LangAny], ⟨fun _ _ => rfl, fun _ _ => rfl⟩⟩
  | x :: xs, e, g, n, P, hok, hn, h => by
    rw [layAlts]
    obtain ⟨h1, h2⟩ := layF_lays x g hok
    have ok := layF_ok x g hok
    have ha := h.alt hok hn h2 (by rw [ok.2.1]; omega) h1
    have := layAlts_lays xs (altF e (layF x g).1) (layF x g).2 n (fun s => P s ∨ Lang x s) ok.1 (by rw [ok.2.1]; omega) ha
    exact ⟨this.1.congr fun s => by rw [LangAny]; exact (or_assoc).symm, (h2.mono hn).trans this.2⟩
theorem laySeq_lays : ∀ (l : List Pt) (e : Eg) (g : Gr) (n : Nat) (P : List Int → Prop), GrOk g → n ≤ g.atoms.length → Lays n g e P → Lays n (laySeq l e g).2 (laySeq l e g).1 (fun s => ∃ u v, s = u ++ v ∧ P u ∧ LangSeq l v) ∧ Frame n g (laySeq l e g).2
  | [], e, g, n, P, _, _, h => by
    rw [laySeq]
    refine ⟨h.congr fun s => ?_, ⟨fun _ _ => rfl, fun _ _ => rfl⟩⟩
    simp only [LangSeq]
    constructor
    · rintro ⟨u, v, rfl, hu, rfl⟩; simpa using hu
    · intro hs; exact ⟨s, [], by simp, hs, rfl⟩
  | x :: xs, e, g, n, P, hok, hn, h => by
    rw [laySeq]
    obtain ⟨h1, h2⟩ := layF_lays x g hok
    have ok := layF_ok x g hok
    have ok2 : GrOk ⟨(layF x g).2.atoms, linkF (layF x g).2.thn e.last (layF x g).1.first⟩ := ⟨by rw [linkF_len]; exact ok.1.len, linkF_small ok.1.small (by rw [ok.2.1]; exact ok.2.2.1)⟩
    have ha := h.seq hok ok.1 hn h2 (by rw [ok.2.1]; omega) h1
    have := laySeq_lays xs (seqF e (layF x g).1) ⟨(layF x g).2.atoms, linkF (layF x g).2.thn e.last (layF x g).1.first⟩ n _ ok2 (by dsimp only; rw [ok.2.1]; omega) ha
    refine ⟨this.1.congr fun s => ?_, Frame.trans (b := ⟨(layF x g).2.atoms, linkF (layF x g).2.thn e.last (layF x g).1.first⟩) ⟨fun i hi => (h2.mono hn).atoms i hi, fun i hi => ?_⟩ this.2⟩
    · simp only [LangSeq]
      constructor
      · rintro ⟨u, v, rfl, hu, a, b, rfl, ha, hb⟩
        exact ⟨u ++ a, b, by simp, ⟨u, a, rfl, hu, ha⟩, hb⟩
      · rintro ⟨_, b, rfl, ⟨u, a, rfl, hu, ha⟩, hb⟩
        exact ⟨u, a ++ b, by simp, hu, a, b, rfl, ha, hb⟩
    · dsimp only
      have hil : i < (layF x g).2.thn.length := by rw [ok.1.len, ok.2.1]; omega
      have e1 : (linkF (layF x g).2.thn e.last (layF x g).1.first)[i]? = some (if e.last.testBit i then (layF x g).2.thn[i] ||| (layF x g).1.first else (layF x g).2.thn[i]) := by
        unfold linkF
        rw [List.getElem?_mapIdx, List.getElem?_eq_getElem hil]; rfl
      have hnb : e.last.testBit i = false := by
        cases hc : e.last.testBit i with
        | false => rfl
        | true => have := h.last i hc; omega
      rw [e1, hnb, ← h2.thn i (by omega), List.getElem?_eq_getElem hil]
      rfl
end

/-! ### the walk over the runes -/
theorem hitTo_bit (l : List Pt) (op : Nat) (r : Int) : ∀ (k i : Nat), (hitTo l op r k).testBit i = true ↔ i < k ∧ op.testBit i = true ∧ fitsF (l.getD i (.choice [])) r = true
  | 0, i => by simp [hitTo]
  | k + 1, i => by
    have ih := hitTo_bit l op r k i
    rw [hitTo]
    by_cases hc : (op.testBit k && fitsF (l.getD k (.choice [])) r) = true
    · rw [if_pos hc, testBit_or, ih]
      have hb : (2 ^ k).testBit i = true ↔ i = k := by rw [Nat.testBit_two_pow]; simp [eq_comm]
      rw [hb]
      rw [Bool.and_eq_true] at hc
      constructor
      · rintro (⟨h1, h2⟩ | rfl)
        · exact ⟨by omega, h2⟩
        · exact ⟨by omega, hc⟩
      · rintro ⟨h1, h2⟩
        by_cases h0 : i = k
        · exact .inr h0
        · exact .inl ⟨by omega, h2⟩
    · rw [if_neg hc, ih]
      rw [Bool.and_eq_true] at hc
      constructor
      · rintro ⟨h1, h2⟩; exact ⟨by omega, h2⟩
      · rintro ⟨h1, h2⟩
        by_cases h0 : i = k
        · subst h0; exact absurd h2 hc
        · exact ⟨by omega, h2⟩
theorem hitF_bit (g : Gr) (op : Nat) (r : Int) (i : Nat) : (hitF g op r).testBit i = true ↔ op.testBit i = true ∧ Fit g i r := by
  unfold hitF Fit
  rw [hitTo_bit]
  constructor
  · rintro ⟨h1, h2, h3⟩
    rw [List.getD_eq_getElem?_getD, List.getElem?_eq_getElem h1] at h3
    exact ⟨h2, _, List.getElem?_eq_getElem h1, h3⟩
  · rintro ⟨h2, x, hx, h3⟩
    refine ⟨(List.getElem?_eq_some_iff.1 hx).1, h2, ?_⟩
    rw [List.getD_eq_getElem?_getD, hx]; exact h3
theorem behTo_bit (t : List Nat) (h : Nat) : ∀ (k j : Nat), (behTo t h k).testBit j = true ↔ ∃ i, i < k ∧ h.testBit i = true ∧ (t.getD i 0).testBit j = true
  | 0, j => by simp [behTo]
  | k + 1, j => by
    have ih := behTo_bit t h k j
    rw [behTo]
    by_cases hc : h.testBit k = true
    · rw [if_pos hc, testBit_or, ih]
      constructor
      · rintro (⟨i, h1, h2⟩ | h0)
        · exact ⟨i, by omega, h2⟩
        · exact ⟨k, by omega, hc, h0⟩
      · rintro ⟨i, h1, h2, h3⟩
        by_cases h0 : i = k
        · subst h0; exact .inr h3
        · exact .inl ⟨i, by omega, h2, h3⟩
    · rw [if_neg hc, ih]
      constructor
      · rintro ⟨i, h1, h2⟩; exact ⟨i, by omega, h2⟩
      · rintro ⟨i, h1, h2, h3⟩
        by_cases h0 : i = k
        · subst h0; exact absurd h2 hc
        · exact ⟨i, by omega, h2, h3⟩
theorem behF_bit (g : Gr) (h j : Nat) : (behF g h).testBit j = true ↔ ∃ i, h.testBit i = true ∧ Ed g i j := by
  unfold behF Ed
  rw [behTo_bit]
  constructor
  · rintro ⟨i, h1, h2, h3⟩
    rw [List.getD_eq_getElem?_getD, List.getElem?_eq_getElem h1] at h3
    exact ⟨i, h2, _, List.getElem?_eq_getElem h1, h3⟩
  · rintro ⟨i, h2, t, ht, h3⟩
    refine ⟨i, (List.getElem?_eq_some_iff.1 ht).1, h2, ?_⟩
    rw [List.getD_eq_getElem?_getD, ht]; exact h3
theorem zero_bits {x : Nat} : x = 0 ↔ ∀ i, ¬ x.testBit i = true := by
  constructor
  · rintro rfl i; simp
  · intro h
    apply Nat.eq_of_testBit_eq
    intro i
    rw [Nat.zero_testBit]
    cases hx : x.testBit i with
    | false => rfl
    | true => exact absurd hx (h i)
theorem and_zero {x y : Nat} : ¬ x &&& y = 0 ↔ ∃ i, x.testBit i = true ∧ y.testBit i = true := by
  rw [zero_bits]
  constructor
  · intro h
    apply Classical.byContradiction
    intro hn
    apply h
    intro i hi
    rw [Nat.testBit_and, Bool.and_eq_true] at hi
    exact hn ⟨i, hi⟩
  · rintro ⟨i, h1, h2⟩ h
    exact h i (by rw [Nat.testBit_and, h1, h2]; rfl)
/-- All runes are taken just where a road goes that far. -/
theorem begGo_all (g : Gr) (last : Nat) : ∀ (rs : List Int) (op c : Nat) (m : Int), m ≤ c → (begGo g last op c m rs = (c + rs.length : Nat) ↔ (rs = [] ∧ m = c) ∨ ∃ i k, op.testBit i = true ∧ last.testBit k = true ∧ Path (Fit g) (Ed g) i rs k)
  | [], op, c, m, h => by
    simp only [begGo, List.length_nil, Nat.add_zero]
    constructor
    · intro e; exact .inl ⟨by trivial, e⟩
    · rintro (⟨_, e⟩ | ⟨i, k, _, _, hp⟩)
      · exact e
      · exact absurd rfl hp.ne
  | r :: rs, op, c, m, h => by
    rw [begGo]
    by_cases h0 : hitF g op r = 0
    · rw [if_pos h0]
      have hz := zero_bits.1 h0
      constructor
      · intro e; simp only [List.length_cons] at e; omega
      · rintro (⟨e, _⟩ | ⟨i, k, hi, hk, hp⟩)
        · cases e
        · exfalso
          cases hp with
          | one hf => exact hz i ((hitF_bit g op r i).2 ⟨hi, hf⟩)
          | more hf _ _ => exact hz i ((hitF_bit g op r i).2 ⟨hi, hf⟩)
    · rw [if_neg h0]
      have e1 : c + (r :: rs).length = c + 1 + rs.length := by simp only [List.length_cons]; omega
      rw [e1]
      have key : ∀ m2 : Int, m2 ≤ ((c + 1 : Nat) : Int) → (m2 = ((c + 1 : Nat) : Int) ↔ ∃ i, (hitF g op r).testBit i = true ∧ last.testBit i = true) →
          (begGo g last (behF g (hitF g op r)) (c + 1) m2 rs = (c + 1 + rs.length : Nat) ↔ (r :: rs = [] ∧ m = c) ∨ ∃ i k, op.testBit i = true ∧ last.testBit k = true ∧ Path (Fit g) (Ed g) i (r :: rs) k) := by
        intro m2 hm2 hm3
        rw [begGo_all g last rs (behF g (hitF g op r)) (c + 1) m2 hm2, hm3]
        constructor
        · rintro (⟨rfl, i, h1, h2⟩ | ⟨j, k, hj, hk, hp⟩)
          · obtain ⟨a, b⟩ := (hitF_bit g op r i).1 h1
            exact .inr ⟨i, i, a, h2, .one b⟩
          · obtain ⟨i, hi, he⟩ := (behF_bit g _ j).1 hj
            obtain ⟨a, b⟩ := (hitF_bit g op r i).1 hi
            exact .inr ⟨i, k, a, hk, .more b he hp⟩
        · rintro (⟨e, _⟩ | ⟨i, k, hi, hk, hp⟩)
          · cases e
          · cases hp with
            | one hf => exact .inl ⟨by simp, i, (hitF_bit g op r i).2 ⟨hi, hf⟩, hk⟩
            | more hf d p => exact .inr ⟨_, k, (behF_bit g _ _).2 ⟨i, (hitF_bit g op r i).2 ⟨hi, hf⟩, d⟩, hk, p⟩
      by_cases h1 : hitF g op r &&& last = 0
      · rw [if_pos h1]
        refine key m (by omega) ⟨fun e => by omega, fun e => absurd h1 (and_zero.2 e)⟩
      · rw [if_neg h1]
        exact key _ (Int.le_refl _) ⟨fun _ => and_zero.1 h1, fun _ => rfl⟩
/-- A graph takes just the texts that its part says. -/
theorem whole_lang (x : Pt) (rs : List Int) : wholeF (layF x ⟨[], []⟩) rs = true ↔ Lang x rs := by
  obtain ⟨h1, _⟩ := layF_lays x ⟨[], []⟩ ⟨rfl, fun t ht => by simp at ht⟩
  rw [h1.lang rs]
  unfold wholeF begF
  rw [beq_iff_eq]
  have := begGo_all (layF x ⟨[], []⟩).2 (layF x ⟨[], []⟩).1.last rs (layF x ⟨[], []⟩).1.first 0 (if (layF x ⟨[], []⟩).1.none then (0 : Int) else -1) (by split <;> simp)
  rw [Nat.zero_add] at this
  rw [this]
  have e : ((if (layF x ⟨[], []⟩).1.none = true then (0 : Int) else -1) = ((0 : Nat) : Int)) ↔ (layF x ⟨[], []⟩).1.none = true := by
    split <;> simp_all
  rw [e]
end Go.Proofs.Ytleldfhfdgjfmaa.Pat
end

section
/- Patterns, plain: patterns put together are read as their parts are; dots, classes, texts behind backslashes. No program in it. -/

namespace Go.Proofs.Ytleldfhfdgjfmaa.Pat

theorem atB_app {l : List Sg} (h : l ≠ []) (m : List Sg) (r : Int) : atB (l ++ m) r = atB l r := by
  cases l with
  | nil => exact absurd rfl h
  | cons s t => rfl
theorem atB_ne {l : List Sg} {r : Int} (h : atB l r = true) : l ≠ [] := by
  rintro rfl; simp [atB] at h
theorem tail_app {l : List Sg} (h : l ≠ []) (m : List Sg) : (l ++ m).tail = l.tail ++ m := by
  cases l with
  | nil => exact absurd rfl h
  | cons s t => rfl
theorem itemF_app {s : Sg} {t m : List Sg} (h : t = [] ∨ atB t 45 = false ∨ 2 ≤ t.length) : itemF (s :: t ++ m) = ((itemF (s :: t)).1, (itemF (s :: t)).2 ++ m) ∨ t = [] := by
  rcases h with h | h | h
  · exact .inr h
  · by_cases h0 : t = []
    · exact .inr h0
    · refine .inl ?_
      show itemF (s :: (t ++ m)) = _
      unfold itemF
      dsimp only
      rw [atB_app h0, h]
      rfl
  · refine .inl ?_
    have h0 : t ≠ [] := by rintro rfl; simp at h
    have h1 : t.tail ≠ [] := by
      cases t with
      | nil => simp at h
      | cons a b => cases b with
        | nil => simp at h
        | cons c d => simp
    show itemF (s :: (t ++ m)) = _
    unfold itemF
    dsimp only
    rw [atB_app h0, tail_app h0, atB_app h1, tail_app h1]
    have hl : decide (2 ≤ (t ++ m).length) = decide (2 ≤ t.length) := by simp; omega
    have hh : (t.tail ++ m).headD (0, false) = t.tail.headD (0, false) := by
      cases ht : t.tail with
      | nil => exact absurd ht h1
      | cons a b => rfl
    rw [hl, hh]
    split <;> rfl
theorem itemsP_app (m : List Sg) : ∀ (n : Nat) (l : List Sg) (acc xs : List (Int × Int)) (k : List Sg), l.length ≤ n → itemsP l acc = some (xs, k) → atB k 93 = true → itemsP (l ++ m) acc = some (xs, k ++ m)
  | 0, l, acc, xs, k, hl, h, hk => by
    have : l = [] := List.eq_nil_of_length_eq_zero (by omega)
    subst this
    rw [itemsP_eq] at h
    simp at h
    obtain ⟨_, rfl⟩ := h
    simp [atB] at hk
  | n + 1, l, acc, xs, k, hl, h, hk => by
    cases l with
    | nil =>
      rw [itemsP_eq] at h
      simp at h
      obtain ⟨_, rfl⟩ := h
      simp [atB] at hk
    | cons s t =>
      rw [itemsP_eq] at h
      by_cases h93 : atB (s :: t) 93 = true
      · rw [h93] at h
        simp at h
        obtain ⟨rfl, rfl⟩ := h
        rw [itemsP_eq, atB_app (by simp), h93]
        simp
      · have h93' : atB (s :: t) 93 = false := by simpa using h93
        rw [h93'] at h
        simp only [List.isEmpty_cons, Bool.or_false, Bool.false_eq_true, if_false] at h
        split at h
        · cases h
        · rename_i hlt
          have hne : ∀ u : List Sg, itemsP u (acc ++ [(itemF (s :: t)).1]) = some (xs, k) → u ≠ [] := by
            rintro u hu rfl
            rw [itemsP_eq] at hu
            simp at hu
            obtain ⟨_, rfl⟩ := hu
            simp [atB] at hk
          have hrest := hne _ h
          have hcase : t = [] ∨ atB t 45 = false ∨ 2 ≤ t.length := by
            by_cases h0 : t = []
            · exact .inl h0
            · by_cases h45 : atB t 45 = true
              · refine .inr (.inr ?_)
                apply Classical.byContradiction
                intro hc
                have hlen : t.length = 1 := by
                  have : 0 < t.length := List.length_pos_iff.2 h0
                  omega
                obtain ⟨q, rfl⟩ := List.length_eq_one_iff.1 hlen
                have e1 : itemF [s, q] = ((s.1, s.1), [q]) := by unfold itemF; simp
                rw [e1] at h
                rw [itemsP_eq] at h
                have hq : q.1 = 45 := by simp [atB] at h45; exact h45.1
                have h9 : atB [q] 93 = false := by simp [atB, hq]
                rw [h9] at h
                simp only [List.isEmpty_cons, Bool.or_false, Bool.false_eq_true, if_false] at h
                have e2 : itemF [q] = ((q.1, q.1), []) := by unfold itemF; simp [atB]
                rw [e2] at h
                simp only [Int.lt_irrefl, if_false] at h
                rw [itemsP_eq] at h
                simp at h
                obtain ⟨_, rfl⟩ := h
                simp [atB] at hk
              · exact .inr (.inl (by simpa using h45))
          rcases itemF_app (m := m) hcase with e | e
          · rw [itemsP_eq, atB_app (by simp), h93', e]
            simp only [List.cons_append, List.isEmpty_cons, Bool.or_false, Bool.false_eq_true, if_false, if_neg hlt]
            exact itemsP_app m n _ _ _ _ (by have := itemF_lt (s :: t) (by simp); simp at hl this; omega) h hk
          · subst e
            exact absurd (by unfold itemF; simp [atB]) hrest
theorem classP_app {l m : List Sg} {x : Pt} {k : List Sg} (h : classP l = some (x, k)) : classP (l ++ m) = some (x, k ++ m) := by
  have hne : l ≠ [] := by
    rintro rfl
    unfold classP takeB at h
    simp only [atB, Bool.false_eq_true, if_false] at h
    rw [itemsP_eq] at h
    simp [atB] at h
  unfold classP at h ⊢
  have ht : takeB (l ++ m) 94 = takeB l 94 ++ m := by
    unfold takeB
    rw [atB_app hne, tail_app hne]
    split <;> rfl
  rw [ht, atB_app hne]
  split at h
  · cases h
  · rename_i items q hq
    split at h
    · rename_i hc
      rw [Bool.and_eq_true] at hc
      injection h with h
      injection h with h1 h2
      subst h1; subst h2
      rw [itemsP_app m _ _ _ _ _ (Nat.le_refl _) hq hc.1]
      dsimp only
      rw [atB_app (atB_ne hc.1), hc.1, tail_app (atB_ne hc.1), if_pos (by simpa using hc.2)]
    · cases h

/-- A suffix that begins with a bare bracket. -/
def Shut (m : List Sg) : Prop := ∀ r, atB m r = (r == 41)
theorem shut_cons (m : List Sg) : Shut ((41, true) :: m) := by
  intro r
  unfold atB
  simp only [Bool.and_true]
  rw [Bool.eq_iff_iff, beq_iff_eq, beq_iff_eq]
  exact eq_comm
theorem Shut.at_app {m : List Sg} (hm : Shut m) (l : List Sg) {r : Int} (hr : (r == 41) = false) : atB (l ++ m) r = atB l r := by
  cases l with
  | nil => rw [List.nil_append, hm r, hr]; rfl
  | cons s t => rfl
theorem Shut.timesR {m : List Sg} (hm : Shut m) (l : List Sg) : timesR (l ++ m) = timesR l ++ m := by
  unfold Go.Proofs.Ytleldfhfdgjfmaa.Pat.timesR
  rw [hm.at_app l (by decide), hm.at_app l (by decide), hm.at_app l (by decide)]
  split
  · rename_i h
    have hne : l ≠ [] := by rintro rfl; simp [atB] at h
    exact tail_app hne m
  · rfl
theorem Shut.timesF {m : List Sg} (hm : Shut m) (x : Pt) (l : List Sg) : timesF x (l ++ m) = timesF x l := by
  unfold Go.Proofs.Ytleldfhfdgjfmaa.Pat.timesF
  rw [hm.at_app l (by decide), hm.at_app l (by decide), hm.at_app l (by decide)]
theorem Shut.stop {m : List Sg} (hm : Shut m) (_hne : m ≠ []) {l : List Sg} : stopB (l ++ m) = stopB l := by
  cases l with
  | nil =>
    unfold stopB
    rw [List.nil_append, hm 124, hm 41]
    simp
  | cons s t => rfl
theorem go_app (m : List Sg) (hm : Shut m) (hne : m ≠ []) : ∀ (n : Nat),
    (∀ (l : List Sg) (acc c : List Pt) (k : List Sg), choiceGo n l acc = some (c, k) → choiceGo n (l ++ m) acc = some (c, k ++ m)) ∧
    (∀ (l : List Sg) (acc c : List Pt) (k : List Sg), chainGo n l acc = some (c, k) → chainGo n (l ++ m) acc = some (c, k ++ m)) ∧
    (∀ (l : List Sg) (x : Pt) (k : List Sg), atomGo n l = some (x, k) → atomGo n (l ++ m) = some (x, k ++ m))
  | 0 => ⟨fun _ _ _ _ h => by simp [choiceGo] at h, fun _ _ _ _ h => by simp [chainGo] at h, fun _ _ _ h => by simp [atomGo] at h⟩
  | n + 1 => by
    obtain ⟨i1, i2, i3⟩ := go_app m hm hne n
    refine ⟨?_, ?_, ?_⟩
    · intro l acc c k h
      rw [choiceGo] at h ⊢
      cases hd : chainGo n l [] with
      | none => rw [hd] at h; cases h
      | some p =>
        obtain ⟨d, q⟩ := p
        rw [hd] at h
        rw [i2 _ _ _ _ hd]
        dsimp only at h ⊢
        rw [hm.at_app q (by decide)]
        by_cases hb : atB q 124 = true
        · rw [if_pos hb] at h ⊢
          rw [tail_app (atB_ne hb)]
          exact i1 _ _ _ _ h
        · rw [if_neg hb] at h ⊢
          injection h with h
          injection h with h1 h2
          subst h1; subst h2
          rfl
    · intro l acc c k h
      rw [chainGo] at h ⊢
      rw [hm.stop hne]
      by_cases hs : stopB l = true
      · rw [if_pos hs] at h ⊢
        injection h with h
        injection h with h1 h2
        subst h1; subst h2
        rfl
      · rw [if_neg hs] at h ⊢
        cases hd : atomGo n l with
        | none => rw [hd] at h; cases h
        | some p =>
          obtain ⟨x, q⟩ := p
          rw [hd] at h
          rw [i3 _ _ _ hd]
          dsimp only at h ⊢
          rw [hm.timesR, hm.timesF]
          exact i2 _ _ _ _ h
    · intro l x k h
      rw [atomGo] at h ⊢
      by_cases h0 : l = []
      · subst h0
        simp [atB, litP] at h
      rw [atB_app h0, atB_app h0, atB_app h0, tail_app h0]
      by_cases h40 : atB l 40 = true
      · rw [if_pos h40] at h ⊢
        cases hd : choiceGo n l.tail [] with
        | none => rw [hd] at h; cases h
        | some p =>
          obtain ⟨d, q⟩ := p
          rw [hd] at h
          rw [i1 _ _ _ _ hd]
          dsimp only at h ⊢
          by_cases hb : atB q 41 = true
          · rw [if_pos hb] at h
            rw [atB_app (atB_ne hb), if_pos hb, tail_app (atB_ne hb)]
            injection h with h
            injection h with h1 h2
            subst h1; subst h2
            rfl
          · rw [if_neg hb] at h; cases h
      · rw [if_neg h40] at h ⊢
        by_cases h91 : atB l 91 = true
        · rw [if_pos h91] at h ⊢
          exact classP_app h
        · rw [if_neg h91] at h ⊢
          by_cases h46 : atB l 46 = true
          · rw [if_pos h46] at h ⊢
            injection h with h
            injection h with h1 h2
            subst h1; subst h2
            rfl
          · rw [if_neg h46] at h ⊢
            cases l with
            | nil => exact absurd rfl h0
            | cons s t =>
              unfold litP at h ⊢
              dsimp only [List.cons_append] at h ⊢
              split at h
              · cases h
              · rename_i hc
                rw [if_neg hc]
                injection h with h
                injection h with h1 h2
                subst h1; subst h2
                rfl
/-- A pattern in brackets, with something behind. -/
theorem choiceP_app {l m : List Sg} {c : List Pt} {k : List Sg} (h : choiceP l [] = some (c, k)) (hm : Shut m) (hne : m ≠ []) : choiceP (l ++ m) [] = some (c, k ++ m) := by
  have := (go_app m hm hne (3 * l.length + 3)).1 l [] c k h
  have h2 : choiceP (l ++ m) [] = choiceGo (3 * (l ++ m).length + 3) (l ++ m) [] := rfl
  rw [h2]
  -- more fuel gives the same
  have mono : ∀ (n : Nat), (∀ (l : List Sg) (acc : List Pt) (r : List Pt × List Sg), choiceGo n l acc = some r → choiceGo (n + 1) l acc = some r) ∧ (∀ (l : List Sg) (acc : List Pt) (r : List Pt × List Sg), chainGo n l acc = some r → chainGo (n + 1) l acc = some r) ∧ (∀ (l : List Sg) (r : Pt × List Sg), atomGo n l = some r → atomGo (n + 1) l = some r) := by
    intro n
    induction n with
    | zero => exact ⟨fun _ _ _ h => by simp [choiceGo] at h, fun _ _ _ h => by simp [chainGo] at h, fun _ _ h => by simp [atomGo] at h⟩
    | succ n ih =>
      obtain ⟨i1, i2, i3⟩ := ih
      refine ⟨?_, ?_, ?_⟩
      · intro l acc r h
        rw [choiceGo] at h
        rw [choiceGo]
        cases hd : chainGo n l [] with
        | none => rw [hd] at h; cases h
        | some p =>
          rw [hd] at h
          rw [i2 _ _ _ hd]
          obtain ⟨d, q⟩ := p
          dsimp only at h ⊢
          split at h
          · rename_i hb; rw [if_pos hb]; exact i1 _ _ _ h
          · rename_i hb; rw [if_neg hb]; exact h
      · intro l acc r h
        rw [chainGo] at h
        rw [chainGo]
        split at h
        · rename_i hb; rw [if_pos hb]; exact h
        · rename_i hb
          rw [if_neg hb]
          cases hd : atomGo n l with
          | none => rw [hd] at h; cases h
          | some p =>
            rw [hd] at h
            rw [i3 _ _ hd]
            obtain ⟨d, q⟩ := p
            exact i2 _ _ _ h
      · intro l r h
        rw [atomGo] at h
        rw [atomGo]
        split at h
        · rename_i hb
          rw [if_pos hb]
          cases hd : choiceGo n l.tail [] with
          | none => rw [hd] at h; cases h
          | some p => rw [hd] at h; rw [i1 _ _ _ hd]; exact h
        · rename_i hb; rw [if_neg hb]; exact h
  have up : ∀ (d n : Nat) (l : List Sg) (r : List Pt × List Sg), choiceGo n l [] = some r → choiceGo (n + d) l [] = some r := by
    intro d
    induction d with
    | zero => intro n l r h; exact h
    | succ d ih => intro n l r h; exact (mono (n + d)).1 l [] r (ih n l r h)
  have e : 3 * (l ++ m).length + 3 = (3 * l.length + 3) + 3 * m.length := by rw [List.length_append]; omega
  rw [e]
  exact up _ _ _ _ this

/-! ### signs of texts put together -/
theorem signs_app : ∀ (b : Bool) (l1 l2 : List Int), signsGo b (l1 ++ l2) = signsGo b l1 ++ signsGo (endsGo b l1) l2
  | b, [], l2 => by simp [signsGo, endsGo]
  | b, r :: l1, l2 => by
    rw [List.cons_append, signsGo, signsGo, endsGo]
    by_cases h : (r == 92 && !b) = true
    · rw [if_pos h, if_pos h, if_pos h]; exact signs_app true l1 l2
    · rw [if_neg h, if_neg h, if_neg h, signs_app false l1 l2]; rfl
theorem ends_app : ∀ (b : Bool) (l1 l2 : List Int), endsGo b (l1 ++ l2) = endsGo (endsGo b l1) l2
  | b, [], l2 => by simp [endsGo]
  | b, r :: l1, l2 => by
    rw [List.cons_append, endsGo, endsGo]
    split
    · exact ends_app true l1 l2
    · exact ends_app false l1 l2
/-- What a pattern's own parts are. -/
theorem readP_open {rs : List Int} {x : Pt} (h : readP rs = some x) : ∃ c, x = .choice c ∧ endsGo false rs = false ∧ choiceP (signsGo false rs) [] = some (c, []) := by
  unfold readP at h
  split at h
  · cases h
  · rename_i he
    split at h
    · cases h
    · rename_i c m hm
      split at h
      · rename_i hmm
        injection h with h
        have : m = [] := by simpa using hmm
        subst this
        exact ⟨c, h.symm, by simpa using he, hm⟩
      · cases h
theorem readP_make {rs : List Int} {c : List Pt} (he : endsGo false rs = false) (hc : choiceP (signsGo false rs) [] = some (c, [])) : readP rs = some (.choice c) := by
  unfold readP
  rw [he, hc]
  rfl
theorem sign_one {r : Int} (hr : r ≠ 92) (l : List Int) : signsGo false (r :: l) = (r, true) :: signsGo false l := by
  rw [signsGo, if_neg (by simp; exact hr)]; rfl
theorem end_one {r : Int} (hr : r ≠ 92) (l : List Int) : endsGo false (r :: l) = endsGo false l := by
  rw [endsGo, if_neg (by simp; exact hr)]
theorem at_cons (r q : Int) (m : List Sg) : atB ((r, true) :: m) q = (r == q) := by unfold atB; simp
/-- A group: '(' the pattern ')', and what stands behind. -/
theorem atom_group {l m : List Sg} {c : List Pt} (h : choiceP l [] = some (c, [])) : atomP ((40, true) :: l ++ (41, true) :: m) = some (.choice c, m) := by
  rw [atomP_eq]
  rw [List.cons_append, at_cons]
  simp only [beq_self_eq_true, if_true, List.tail_cons]
  rw [choiceP_app h (shut_cons m) (by simp)]
  simp only [List.nil_append]
  rw [at_cons]
  rfl
theorem group_stop (l : List Sg) : stopB ((40, true) :: l) = false := by
  unfold stopB
  rw [at_cons, at_cons]
  rfl
theorem timesR_none {m : List Sg} (h : atB m 42 = false ∧ atB m 43 = false ∧ atB m 63 = false) : timesR m = m := by unfold timesR; rw [h.1, h.2.1, h.2.2]; rfl
theorem timesF_none {m : List Sg} (x : Pt) (h : atB m 42 = false ∧ atB m 43 = false ∧ atB m 63 = false) : timesF x m = x := by unfold timesF; rw [h.1, h.2.1, h.2.2]; rfl
theorem chain_nil (acc : List Pt) : chainP [] acc = some (acc, []) := by rw [chainP_eq]; rfl
theorem choice_chain {l : List Sg} {c : List Pt} (acc : List Pt) (h : chainP l [] = some (c, [])) : choiceP l acc = some (acc ++ [.chain c], []) := by
  rw [choiceP_eq, h]; rfl
/-- '(p)(q)' -/
theorem read_both {rp rq : List Int} {a b : List Pt} (hp : readP rp = some (.choice a)) (hq : readP rq = some (.choice b)) : readP (40 :: rp ++ (41 :: 40 :: rq ++ [41])) = some (.choice [.chain [.choice a, .choice b]]) := by
  obtain ⟨c, e, p1, p2⟩ := readP_open hp
  injection e with e; subst e
  obtain ⟨d, e, q1, q2⟩ := readP_open hq
  injection e with e; subst e
  refine readP_make ?_ ?_
  · rw [List.cons_append, end_one (by decide), ends_app, p1, List.cons_append, end_one (by decide), List.cons_append, end_one (by decide), ends_app, q1, end_one (by decide)]; rfl
  · rw [List.cons_append, sign_one (by decide), signs_app, p1, List.cons_append, sign_one (by decide), List.cons_append, sign_one (by decide), signs_app, q1, sign_one (by decide)]
    have h2 : chainP ((40, true) :: (signsGo false rq ++ (41, true) :: signsGo false [])) ([] ++ [.choice a]) = some ([] ++ [.choice a] ++ [.choice b], []) := by
      rw [chainP_eq, group_stop]
      have := atom_group (m := []) q2
      rw [List.cons_append] at this
      simp only [signsGo, Bool.false_eq_true, if_false]
      rw [this]
      dsimp only
      rw [timesR_none (by simp [atB]), timesF_none _ (by simp [atB]), chain_nil]
    refine choice_chain [] ?_
    rw [chainP_eq, group_stop]
    have := atom_group (m := (40, true) :: (signsGo false rq ++ (41, true) :: signsGo false [])) p2
    rw [List.cons_append] at this
    simp only [Bool.false_eq_true, if_false]
    rw [this]
    dsimp only
    rw [timesR_none (by simp [atB]), timesF_none _ (by simp [atB]), h2]
    rfl
/-- '(p)|(q)' -/
theorem read_either {rp rq : List Int} {a b : List Pt} (hp : readP rp = some (.choice a)) (hq : readP rq = some (.choice b)) : readP (40 :: rp ++ (41 :: 124 :: 40 :: rq ++ [41])) = some (.choice [.chain [.choice a], .chain [.choice b]]) := by
  obtain ⟨c, e, p1, p2⟩ := readP_open hp
  injection e with e; subst e
  obtain ⟨d, e, q1, q2⟩ := readP_open hq
  injection e with e; subst e
  refine readP_make ?_ ?_
  · rw [List.cons_append, end_one (by decide), ends_app, p1, List.cons_append, end_one (by decide), List.cons_append, end_one (by decide), List.cons_append, end_one (by decide), ends_app, q1, end_one (by decide)]; rfl
  · rw [List.cons_append, sign_one (by decide), signs_app, p1, List.cons_append, sign_one (by decide), List.cons_append, sign_one (by decide), List.cons_append, sign_one (by decide), signs_app, q1, sign_one (by decide)]
    have h2 : chainP ((40, true) :: (signsGo false rq ++ (41, true) :: signsGo false [])) [] = some ([.choice b], []) := by
      rw [chainP_eq, group_stop]
      have := atom_group (m := []) q2
      rw [List.cons_append] at this
      simp only [signsGo, Bool.false_eq_true, if_false]
      rw [this]
      dsimp only
      rw [timesR_none (by simp [atB]), timesF_none _ (by simp [atB]), chain_nil]
      rfl
    have h1 : chainP ((40, true) :: (signsGo false rp ++ (41, true) :: (124, true) :: (40, true) :: (signsGo false rq ++ (41, true) :: signsGo false []))) [] = some ([.choice a], (124, true) :: (40, true) :: (signsGo false rq ++ (41, true) :: signsGo false [])) := by
      rw [chainP_eq, group_stop]
      have := atom_group (m := (124, true) :: (40, true) :: (signsGo false rq ++ (41, true) :: signsGo false [])) p2
      rw [List.cons_append] at this
      simp only [Bool.false_eq_true, if_false]
      rw [this]
      dsimp only
      rw [timesR_none (by simp [atB]), timesF_none _ (by simp [atB]), chainP_eq]
      have : stopB ((124, true) :: (40, true) :: (signsGo false rq ++ (41, true) :: signsGo false [])) = true := by unfold stopB; rw [at_cons]; rfl
      rw [this]
      rfl
    rw [choiceP_eq, h1]
    dsimp only
    rw [at_cons]
    simp only [beq_self_eq_true, if_true, List.tail_cons]
    exact choice_chain _ h2
/-- '(p)' and a sign of how often. -/
theorem read_often {rp : List Int} {a : List Pt} (hp : readP rp = some (.choice a)) (q : Int) (u v : Bool) (hq : (q = 42 ∧ u = true ∧ v = true) ∨ (q = 43 ∧ u = false ∧ v = true) ∨ (q = 63 ∧ u = true ∧ v = false)) : readP (40 :: rp ++ [41, q]) = some (.choice [.chain [.times (.choice a) u v]]) := by
  obtain ⟨c, e, p1, p2⟩ := readP_open hp
  injection e with e; subst e
  have hq92 : q ≠ 92 := by rcases hq with ⟨rfl, _⟩ | ⟨rfl, _⟩ | ⟨rfl, _⟩ <;> decide
  refine readP_make ?_ ?_
  · rw [List.cons_append, end_one (by decide), ends_app, p1, end_one (by decide), end_one hq92]; rfl
  · rw [List.cons_append, sign_one (by decide), signs_app, p1, sign_one (by decide), sign_one hq92]
    refine choice_chain [] ?_
    rw [chainP_eq, group_stop]
    have := atom_group (m := (q, true) :: signsGo false []) p2
    rw [List.cons_append] at this
    simp only [Bool.false_eq_true, if_false]
    rw [this]
    dsimp only
    have e1 : timesR ((q, true) :: signsGo false []) = [] := by
      unfold timesR; rw [at_cons, at_cons, at_cons]
      rcases hq with ⟨rfl, _⟩ | ⟨rfl, _⟩ | ⟨rfl, _⟩ <;> rfl
    have e2 : timesF (.choice a) ((q, true) :: signsGo false []) = .times (.choice a) u v := by
      unfold timesF; rw [at_cons, at_cons, at_cons]
      rcases hq with ⟨rfl, rfl, rfl⟩ | ⟨rfl, rfl, rfl⟩ | ⟨rfl, rfl, rfl⟩ <;> rfl
    rw [e1, e2, chain_nil]
    rfl

/-! ### what they say -/
theorem lang_one {x : Pt} {s : List Int} : Lang (.choice [.chain [x]]) s ↔ Lang x s := by
  simp only [Lang, LangAny, LangSeq, or_false]
  constructor
  · rintro ⟨u, v, rfl, h, rfl⟩; simpa using h
  · intro h; exact ⟨s, [], by simp, h, rfl⟩
theorem lang_both {x y : Pt} {s : List Int} : Lang (.choice [.chain [x, y]]) s ↔ ∃ u v, s = u ++ v ∧ Lang x u ∧ Lang y v := by
  simp only [Lang, LangAny, LangSeq, or_false]
  constructor
  · rintro ⟨u, v, rfl, h, a, b, rfl, k, rfl⟩; exact ⟨u, a, by simp, h, k⟩
  · rintro ⟨u, v, rfl, h, k⟩; exact ⟨u, v, rfl, h, v, [], by simp, k, rfl⟩
theorem lang_either {x y : Pt} {s : List Int} : Lang (.choice [.chain [x], .chain [y]]) s ↔ Lang x s ∨ Lang y s := by
  simp only [Lang, LangAny, LangSeq, or_false]
  constructor
  · rintro (⟨u, v, rfl, h, rfl⟩ | ⟨u, v, rfl, h, rfl⟩)
    · exact .inl (by simpa using h)
    · exact .inr (by simpa using h)
  · rintro (h | h)
    · exact .inl ⟨s, [], by simp, h, rfl⟩
    · exact .inr ⟨s, [], by simp, h, rfl⟩
theorem lang_star {x : Pt} {s : List Int} : Lang (.choice [.chain [.times x true true]]) s ↔ s = [] ∨ Plus (Lang x) s := by
  rw [lang_one]
  simp only [Lang]
  constructor
  · rintro (⟨_, rfl⟩ | h | ⟨_, h⟩)
    · exact .inl rfl
    · exact .inr (.one h)
    · exact .inr h
  · rintro (rfl | h)
    · exact .inl ⟨trivial, rfl⟩
    · exact .inr (.inr ⟨trivial, h⟩)
theorem lang_plus {x : Pt} {s : List Int} : Lang (.choice [.chain [.times x false true]]) s ↔ Plus (Lang x) s := by
  rw [lang_one]
  simp only [Lang]
  constructor
  · rintro (⟨h, _⟩ | h | ⟨_, h⟩)
    · cases h
    · exact .one h
    · exact h
  · intro h
    exact .inr (.inr ⟨trivial, h⟩)
theorem lang_maybe {x : Pt} {s : List Int} : Lang (.choice [.chain [.times x true false]]) s ↔ s = [] ∨ Lang x s := by
  rw [lang_one]
  simp only [Lang]
  constructor
  · rintro (⟨_, rfl⟩ | h | ⟨h, _⟩)
    · exact .inl rfl
    · exact .inr h
    · cases h
  · rintro (rfl | h)
    · exact .inl ⟨trivial, rfl⟩
    · exact .inr (.inl h)
theorem plus_nil {P : List Int → Prop} : Plus P [] ↔ P [] := by
  constructor
  · intro h
    have : ∀ s, Plus P s → s = [] → P [] := by
      intro s hs
      induction hs with
      | one h => intro e; exact e ▸ h
      | more h _ _ => intro e; have := (List.append_eq_nil_iff.1 e).1; exact this ▸ h
    exact this [] h rfl
  · exact .one

/-! ### dots, runes behind backslashes, a class -/
theorem dots_sign (n : Nat) : signsGo false (List.replicate n 46) = List.replicate n (46, true) ∧ endsGo false (List.replicate n 46) = false := by
  induction n with
  | zero => exact ⟨rfl, rfl⟩
  | succ n ih => rw [List.replicate_succ, List.replicate_succ, sign_one (by decide), end_one (by decide), ih.1]; exact ⟨rfl, ih.2⟩
theorem dots_chain : ∀ (n : Nat) (acc : List Pt), chainP (List.replicate n (46, true)) acc = some (acc ++ List.replicate n .dot, [])
  | 0, acc => by rw [List.replicate_zero, chain_nil]; simp
  | n + 1, acc => by
    rw [List.replicate_succ, chainP_eq]
    have hs : stopB ((46, true) :: List.replicate n (46, true)) = false := by unfold stopB; rw [at_cons, at_cons]; rfl
    have ha : atomP ((46, true) :: List.replicate n (46, true)) = some (.dot, List.replicate n (46, true)) := by
      rw [atomP_eq, at_cons, at_cons, at_cons]; rfl
    rw [hs, ha]
    simp only [Bool.false_eq_true, if_false]
    have hn : ∀ q, (46 == q) = false → atB (List.replicate n (46, true)) q = false := by
      intro q hq
      cases n with
      | zero => rfl
      | succ k => rw [List.replicate_succ, at_cons]; exact hq
    have h3 : atB (List.replicate n (46, true)) 42 = false ∧ atB (List.replicate n (46, true)) 43 = false ∧ atB (List.replicate n (46, true)) 63 = false := ⟨hn 42 (by decide), hn 43 (by decide), hn 63 (by decide)⟩
    rw [timesR_none h3, timesF_none _ h3, dots_chain n]
    simp [List.replicate_succ]
theorem read_dots (n : Nat) : readP (List.replicate n 46) = some (.choice [.chain (List.replicate n .dot)]) := by
  obtain ⟨h1, h2⟩ := dots_sign n
  refine readP_make h2 ?_
  rw [h1]
  have := choice_chain [] (dots_chain n [])
  simpa using this
theorem lang_dots (n : Nat) (s : List Int) : Lang (.choice [.chain (List.replicate n .dot)]) s ↔ s.length = n := by
  simp only [Lang, LangAny, or_false]
  induction n generalizing s with
  | zero => simp [LangSeq]
  | succ n ih =>
    rw [List.replicate_succ, LangSeq]
    constructor
    · rintro ⟨u, v, rfl, hu, hv⟩
      rw [Lang] at hu
      obtain ⟨r, rfl, _⟩ := hu
      have := (ih v).1 hv
      simp; omega
    · intro h
      cases s with
      | nil => simp at h
      | cons r t => exact ⟨[r], t, rfl, by rw [Lang]; exact ⟨r, rfl, rfl⟩, (ih t).2 (by simpa using h)⟩
theorem beg_of {x : Pt} {rs : List Int} {n : Nat} (h : ∀ k, k ≤ rs.length → (Lang x (rs.take k) ↔ k = n)) : begF (layF x ⟨[], []⟩) rs = if n ≤ rs.length then (n : Int) else -1 := by
  obtain ⟨h1, h2, h3⟩ := beg_law (layF x ⟨[], []⟩) rs
  by_cases hn : n ≤ rs.length
  · rw [if_pos hn]
    have hw := (h3 n hn).1 ((whole_lang x _).2 ((h n hn).2 rfl))
    obtain ⟨k, hk⟩ := Int.eq_ofNat_of_zero_le (show (0 : Int) ≤ begF (layF x ⟨[], []⟩) rs by omega)
    have := (h k (by omega)).1 ((whole_lang x _).1 ((h3 k (by omega)).2 hk))
    omega
  · rw [if_neg hn]
    apply Classical.byContradiction
    intro hc
    obtain ⟨k, hk⟩ := Int.eq_ofNat_of_zero_le (show (0 : Int) ≤ begF (layF x ⟨[], []⟩) rs by omega)
    have := (h k (by omega)).1 ((whole_lang x _).1 ((h3 k (by omega)).2 hk))
    omega
theorem esc_sign : ∀ (l : List Int), signsGo false (l.flatMap fun r => [92, r]) = l.map (fun r => (r, false)) ∧ endsGo false (l.flatMap fun r => [92, r]) = false
  | [] => ⟨rfl, rfl⟩
  | r :: l => by
    obtain ⟨h1, h2⟩ := esc_sign l
    rw [List.flatMap_cons, List.map_cons]
    constructor
    · show signsGo false (92 :: r :: _) = _
      rw [signsGo, if_pos (by decide), signsGo, if_neg (by simp)]
      show (r, !true) :: signsGo false (l.flatMap fun r => [92, r]) = _
      rw [h1]; rfl
    · show endsGo false (92 :: r :: _) = _
      rw [endsGo, if_pos (by decide), endsGo, if_neg (by simp)]
      exact h2
theorem at_esc (l : List Int) (q : Int) : atB (l.map (fun r => (r, false))) q = false := by
  cases l with
  | nil => rfl
  | cons r l => simp [atB]
theorem esc_chain : ∀ (l : List Int) (acc : List Pt), chainP (l.map (fun r => (r, false))) acc = some (acc ++ l.map Pt.only, [])
  | [], acc => by rw [List.map_nil, chain_nil]; simp
  | r :: l, acc => by
    rw [chainP_eq]
    have hs : stopB ((r :: l).map (fun r => (r, false))) = false := by unfold stopB; rw [at_esc, at_esc]; rfl
    have ha : atomP ((r :: l).map (fun r => (r, false))) = some (.only r, l.map (fun r => (r, false))) := by
      rw [atomP_eq, at_esc, at_esc, at_esc]; rfl
    rw [hs, ha]
    simp only [Bool.false_eq_true, if_false]
    have h3 := (⟨at_esc l 42, at_esc l 43, at_esc l 63⟩ : atB (l.map (fun r => (r, false))) 42 = false ∧ atB (l.map (fun r => (r, false))) 43 = false ∧ atB (l.map (fun r => (r, false))) 63 = false)
    rw [timesR_none h3, timesF_none _ h3, esc_chain l]
    simp
theorem read_esc (l : List Int) : readP (l.flatMap fun r => [92, r]) = some (.choice [.chain (l.map Pt.only)]) := by
  obtain ⟨h1, h2⟩ := esc_sign l
  refine readP_make h2 ?_
  rw [h1]
  have := choice_chain [] (esc_chain l [])
  simpa using this
theorem lang_esc (l s : List Int) : Lang (.choice [.chain (l.map Pt.only)]) s ↔ s = l := by
  simp only [Lang, LangAny, or_false]
  induction l generalizing s with
  | nil => simp [LangSeq]
  | cons r l ih =>
    rw [List.map_cons, LangSeq]
    constructor
    · rintro ⟨u, v, rfl, hu, hv⟩
      rw [Lang] at hu
      obtain ⟨q, rfl, hq⟩ := hu
      simp only [fitsF, beq_iff_eq] at hq
      rw [(ih v).1 hv, hq]; rfl
    · rintro rfl
      exact ⟨[r], l, rfl, by rw [Lang]; exact ⟨r, rfl, by simp [fitsF]⟩, (ih l).2 rfl⟩
theorem read_class (lo hi : Int) (neg : Bool) (h1 : 97 ≤ lo) (h2 : lo ≤ hi) : readP (91 :: (if neg then [94] else []) ++ [lo, 45, hi, 93]) = some (.choice [.chain [.cls neg [(lo, hi)]]]) := by
  have hl : lo ≠ 92 := by omega
  have hh : hi ≠ 92 := by omega
  have core : ∀ acc, itemsP [(lo, true), (45, true), (hi, true), (93, true)] acc = some (acc ++ [(lo, hi)], [(93, true)]) := by
    intro acc
    rw [itemsP_eq, at_cons]
    have e1 : (lo == 93) = false := beq_eq_false_iff_ne.2 (by omega)
    have e2 : itemF [(lo, true), (45, true), (hi, true), (93, true)] = ((lo, hi), [(93, true)]) := by
      unfold itemF
      have e3 : (hi == 93) = false := beq_eq_false_iff_ne.2 (by omega)
      simp [at_cons, e3]
    rw [e1, e2]
    simp only [List.isEmpty_cons, Bool.or_false, Bool.false_eq_true, if_false]
    rw [if_neg (by omega), itemsP_eq, at_cons]
    rfl
  have hcls : ∀ l, takeB l 94 = [(lo, true), (45, true), (hi, true), (93, true)] → classP l = some (.cls (atB l 94) [(lo, hi)], []) := by
    intro l hl
    unfold classP
    rw [hl, core []]
    dsimp only
    rw [at_cons]
    rfl
  have hsig : signsGo false (91 :: (if neg then [94] else []) ++ [lo, 45, hi, 93]) = (91, true) :: ((if neg then [(94, true)] else []) ++ [(lo, true), (45, true), (hi, true), (93, true)]) := by
    cases neg
    · simp only [Bool.false_eq_true, if_false, List.nil_append, List.cons_append]
      rw [sign_one (by decide), sign_one hl, sign_one (by decide), sign_one hh, sign_one (by decide)]; rfl
    · simp only [if_true, List.cons_append, List.nil_append]
      rw [sign_one (by decide), sign_one (by decide), sign_one hl, sign_one (by decide), sign_one hh, sign_one (by decide)]; rfl
  have hend : endsGo false (91 :: (if neg then [94] else []) ++ [lo, 45, hi, 93]) = false := by
    cases neg
    · simp only [Bool.false_eq_true, if_false, List.nil_append, List.cons_append]
      rw [end_one (by decide), end_one hl, end_one (by decide), end_one hh, end_one (by decide)]; rfl
    · simp only [if_true, List.cons_append, List.nil_append]
      rw [end_one (by decide), end_one (by decide), end_one hl, end_one (by decide), end_one hh, end_one (by decide)]; rfl
  have hc : classP ((if neg then [(94, true)] else []) ++ [(lo, true), (45, true), (hi, true), (93, true)]) = some (.cls neg [(lo, hi)], []) := by
    cases neg
    · have e : (lo == 94) = false := beq_eq_false_iff_ne.2 (by omega)
      simp only [Bool.false_eq_true, if_false, List.nil_append]
      have h9 : atB [(lo, true), (45, true), (hi, true), (93, true)] 94 = false := by rw [at_cons]; exact e
      rw [hcls _ (by unfold takeB; rw [h9]; rfl), h9]
    · simp only [if_true, List.cons_append, List.nil_append]
      have h9 : atB [(94, true), (lo, true), (45, true), (hi, true), (93, true)] 94 = true := by rw [at_cons]; rfl
      rw [hcls _ (by unfold takeB; rw [h9]; rfl), h9]
  refine readP_make hend ?_
  rw [hsig]
  refine choice_chain [] ?_
  rw [chainP_eq]
  have hs : stopB ((91, true) :: ((if neg then [(94, true)] else []) ++ [(lo, true), (45, true), (hi, true), (93, true)])) = false := by unfold stopB; rw [at_cons, at_cons]; rfl
  have ha : atomP ((91, true) :: ((if neg then [(94, true)] else []) ++ [(lo, true), (45, true), (hi, true), (93, true)])) = some (.cls neg [(lo, hi)], []) := by
    rw [atomP_eq, at_cons, at_cons]
    simp only [List.tail_cons]
    rw [hc]; rfl
  rw [hs, ha]
  simp only [Bool.false_eq_true, if_false]
  rw [timesR_none (by simp [atB]), timesF_none _ (by simp [atB]), chain_nil]
  rfl
theorem lang_class (neg : Bool) (lo hi : Int) (s : List Int) : Lang (.choice [.chain [.cls neg [(lo, hi)]]]) s ↔ ∃ r, s = [r] ∧ (decide (lo ≤ r ∧ r ≤ hi) != neg) = true := by
  rw [lang_one, Lang]
  have e : ∀ r, fitsF (.cls neg [(lo, hi)]) r = (decide (lo ≤ r ∧ r ≤ hi) != neg) := by
    intro r
    unfold fitsF hasF
    simp only [List.any_cons, List.any_nil, Bool.or_false, Bool.decide_and]
  simp only [e]
end Go.Proofs.Ytleldfhfdgjfmaa.Pat
end

section
/- Labels: brought into order, plain. -/


namespace Go.Proofs.Ytleldfhfdgjfmaa
open Go.RowKit Go.Lib Go.Sort

abbrev nm (x : Lab) : List UInt8 := x.1.data.toList
def leN (a b : Lab) : Bool := !decide (nm b < nm a)
def sortL (xs : List Lab) : List Lab := xs.mergeSort leN
def tidyB (xs : List Lab) : Bool := rightB (sortL xs)
theorem leN_trans (a b c : Lab) (h1 : leN a b = true) (h2 : leN b c = true) : leN a c = true := by
  simp only [leN, Bool.not_eq_true', decide_eq_false_iff_not] at *
  intro h
  by_cases e : nm c = nm b
  · rw [e] at h; exact h1 h
  · exact h1 (lt_trans' (lt_of_not h2 e) h)
theorem leN_total (a b : Lab) : (leN a b || leN b a) = true := by
  simp only [leN, Bool.or_eq_true, Bool.not_eq_true', decide_eq_false_iff_not]
  by_cases h : nm b < nm a
  · exact .inr (lt_asymm' h)
  · exact .inl h
theorem sortL_perm (xs : List Lab) : (sortL xs).Perm xs := List.mergeSort_perm _ _
theorem sortL_sorted (xs : List Lab) : (sortL xs).Pairwise (fun a b => leN a b = true) := List.pairwise_mergeSort leN_trans leN_total xs
theorem rises_some : ∀ (xs : List Lab) (n : ByteArray), risesB (some n) xs = true → (∀ x ∈ xs, n.data.toList < nm x) ∧ xs.Pairwise (fun a b => nm a < nm b) ∧ ∀ x ∈ xs, fitsB x.1 x.2 = true
  | [], n, _ => by simp
  | x :: xs, n, h => by
    simp only [risesB, Bool.and_eq_true, bytesLess_eq, decide_eq_true_eq, ByteArray.toList_eq] at h
    obtain ⟨⟨h1, h2⟩, h3⟩ := h
    obtain ⟨a1, a2, a3⟩ := rises_some xs x.1 h3
    refine ⟨?_, List.pairwise_cons.2 ⟨a1, a2⟩, ?_⟩
    · intro y hy
      rcases List.mem_cons.1 hy with rfl | hy
      · exact h2
      · exact lt_trans' h2 (a1 y hy)
    · intro y hy
      rcases List.mem_cons.1 hy with rfl | hy
      · exact h1
      · exact a3 y hy
theorem rises_none : ∀ (xs : List Lab), risesB none xs = true → xs.Pairwise (fun a b => nm a < nm b) ∧ ∀ x ∈ xs, fitsB x.1 x.2 = true
  | [], _ => by simp
  | x :: xs, h => by
    simp only [risesB, Bool.and_eq_true] at h
    obtain ⟨a1, a2, a3⟩ := rises_some xs x.1 h.2
    refine ⟨List.pairwise_cons.2 ⟨a1, a2⟩, ?_⟩
    intro y hy
    rcases List.mem_cons.1 hy with rfl | hy
    · exact h.1
    · exact a3 y hy
theorem rises_mk : ∀ (xs : List Lab) (n : Option ByteArray), (∀ m, n = some m → ∀ x ∈ xs, m.data.toList < nm x) → xs.Pairwise (fun a b => nm a < nm b) → (∀ x ∈ xs, fitsB x.1 x.2 = true) → risesB n xs = true
  | [], n, _, _, _ => by cases n <;> rfl
  | x :: xs, n, h1, h2, h3 => by
    have h2' := List.pairwise_cons.1 h2
    have ih := rises_mk xs (some x.1) (fun m e y hy => by cases e; exact h2'.1 y hy) h2'.2 (fun y hy => h3 y (List.mem_cons_of_mem _ hy))
    have hf := h3 x List.mem_cons_self
    cases n with
    | none => simp only [risesB, hf, ih, Bool.and_true]
    | some m =>
      have := h1 m rfl x List.mem_cons_self
      simp only [risesB, hf, ih, Bool.and_true, Bool.true_and, bytesLess_eq, decide_eq_true_eq, ByteArray.toList_eq]
      exact this
/-- Just the tidy lists are right. -/
theorem right_iff (xs : List Lab) : rightB xs = true ↔ xs.length ≤ 8 ∧ xs.Pairwise (fun a b => nm a < nm b) ∧ ∀ x ∈ xs, fitsB x.1 x.2 = true := by
  unfold rightB
  rw [Bool.and_eq_true, decide_eq_true_eq]
  exact ⟨fun ⟨h1, h2⟩ => ⟨h1, rises_none xs h2⟩, fun ⟨h1, h2, h3⟩ => ⟨h1, rises_mk xs none (fun m e => by cases e) h2 h3⟩⟩
theorem same_name {xs : List Lab} (h : xs.Pairwise (fun a b => nm a ≠ nm b)) : ∀ a ∈ xs, ∀ b ∈ xs, nm a = nm b → a = b := by
  induction xs with
  | nil => intro a ha; simp at ha
  | cons x xs ih =>
    obtain ⟨h1, h2⟩ := List.pairwise_cons.1 h
    intro a ha b hb e
    rcases List.mem_cons.1 ha with e1 | ha2 <;> rcases List.mem_cons.1 hb with e2 | hb2
    · rw [e1, e2]
    · exact absurd (by rw [← e1]; exact e) (h1 b hb2)
    · exact absurd (by rw [← e2]; exact e.symm) (h1 a ha2)
    · exact ih h2 a ha2 b hb2 e
/-- Lists in order, of the same labels, one of which is right, are the same. -/
theorem sorted_same {s t : List Lab} (hp : s.Perm t) (h1 : s.Pairwise (fun a b => leN a b = true)) (h2 : t.Pairwise (fun a b => leN a b = true)) (hr : rightB s = true) : s = t := by
  obtain ⟨_, hs, _⟩ := (right_iff s).1 hr
  have hd : s.Pairwise (fun a b => nm a ≠ nm b) := hs.imp fun {a b} h e => by rw [e] at h; exact lt_asymm' h h
  refine List.Perm.eq_of_pairwise (le := fun a b => leN a b = true) (fun a b ha hb hab hba => ?_) h1 h2 hp
  refine same_name hd a ha b (hp.mem_iff.2 hb) ?_
  simp only [leN, Bool.not_eq_true', decide_eq_false_iff_not] at hab hba
  exact Classical.byContradiction fun e => hba (lt_of_not hab (fun h => e h.symm))
theorem right_sorted {s : List Lab} (hr : rightB s = true) : s.Pairwise (fun a b => leN a b = true) :=
  ((right_iff s).1 hr).2.1.imp fun {a b} h => by simp only [leN, Bool.not_eq_true', decide_eq_false_iff_not]; exact lt_asymm' h
theorem sorted_right {s xs : List Lab} (hp : s.Perm xs) (h1 : s.Pairwise (fun a b => leN a b = true)) : (rightB s = true → s = sortL xs) ∧ rightB s = tidyB xs := by
  have hps : s.Perm (sortL xs) := hp.trans (sortL_perm xs).symm
  have e1 : rightB s = true → s = sortL xs := sorted_same hps h1 (sortL_sorted xs)
  refine ⟨e1, ?_⟩
  unfold tidyB
  cases hs : rightB s with
  | true => rw [← e1 hs, hs]
  | false =>
    cases ht : rightB (sortL xs) with
    | false => rfl
    | true => have := sorted_same hps.symm (sortL_sorted xs) h1 ht; rw [this, hs] at ht; cases ht
theorem tidy_len {xs : List Lab} (h : 8 < xs.length) : tidyB xs = false := by
  cases ht : tidyB xs with
  | false => rfl
  | true =>
    have h2 := ((right_iff _).1 ht).1
    have h3 := (sortL_perm xs).length_eq
    omega
end Go.Proofs.Ytleldfhfdgjfmaa
end

section
/- Walks: the document's own Get and Compare. -/



namespace Go.Proofs.Ytleldfhfdgjfmaa
open Go.RowKit Go.Lib

theorem cmpB_range (a b : List UInt8) : compareBytes a b = -1 ∨ compareBytes a b = 0 ∨ compareBytes a b = 1 := by
  induction a generalizing b with
  | nil => cases b <;> simp [compareBytes]
  | cons x xs ih =>
    cases b with
    | nil => simp [compareBytes]
    | cons y ys =>
      simp only [compareBytes]
      by_cases h1 : x < y
      · simp [h1]
      · by_cases h2 : y < x
        · simp [h1, h2]
        · simp only [h1, h2, if_false]; exact ih ys

set_option maxHeartbeats 1000000 in
set_option maxRecDepth 100000 in
theorem texts_any (a b : ByteArray) (w : World) : Calls Try.prog 28 #[.string a, .string b] w fun e w' => e = .returned (.int .i64 (compareBytes a.data.toList b.data.toList)) ∧ w = w' := by
  have hs := cmpB_spec a.data.toList b.data.toList
  have hr := cmpB_range a.data.toList b.data.toList
  by_cases h1 : a.data.toList < b.data.toList
  · have e : compareBytes a.data.toList b.data.toList = -1 := by have := hs.1.2 h1; omega
    have t1 : Op.bytesLess a.toList b.toList = true := by
      rw [bytesLess_eq, ByteArray.toList_eq, ByteArray.toList_eq]; exact decide_eq_true h1
    rw [e]
    clear hs hr h1 e
    go_enter Try.func28, Try.ntmps28
    go_wp2
    go_ret
    exact ⟨rfl, rfl⟩
  have t1 : Op.bytesLess a.toList b.toList = false := by
    rw [bytesLess_eq, ByteArray.toList_eq, ByteArray.toList_eq]; exact decide_eq_false h1
  by_cases h2 : b.data.toList < a.data.toList
  · have e : compareBytes a.data.toList b.data.toList = 1 := by have := hs.2.2.2 h2; omega
    have t2 : Op.bytesLess b.toList a.toList = true := by
      rw [bytesLess_eq, ByteArray.toList_eq, ByteArray.toList_eq]; exact decide_eq_true h2
    have t3 : (a.toList == b.toList) = false := by
      rw [ByteArray.toList_eq, ByteArray.toList_eq]
      refine beq_eq_false_iff_ne.2 fun hh => ?_
      rw [hh] at h2
      exact absurd h2 (List.lt_irrefl _)
    rw [e]
    clear hs hr h1 h2 e
    go_enter Try.func28, Try.ntmps28
    go_wp2
    go_ret
    exact ⟨rfl, rfl⟩
  · have t2 : Op.bytesLess b.toList a.toList = false := by
      rw [bytesLess_eq, ByteArray.toList_eq, ByteArray.toList_eq]; exact decide_eq_false h2
    have e : compareBytes a.data.toList b.data.toList = 0 := by
      rcases hr with h | h | h
      · exact absurd (hs.1.1 (by omega)) h1
      · exact h
      · exact absurd (hs.2.2.1 (by omega)) h2
    have t3 : (a.toList == b.toList) = true := by
      rw [ByteArray.toList_eq, ByteArray.toList_eq, hs.2.1.1 e]
      exact beq_self_eq_true _
    rw [e]
    clear hs hr h1 h2 e
    go_enter Try.func28, Try.ntmps28
    go_wp2
    go_ret
    exact ⟨rfl, rfl⟩

set_option maxHeartbeats 2000000 in
set_option maxRecDepth 100000 in
theorem rget_any (o : Option Addr) (cap : Nat) (xs : List Lab) (name : ByteArray) (w : World) (hm : xs.length ≤ maxLen) (hS : SeesO w o xs) :
    Calls Try.prog 12 #[.slice o xs.length cap, .string name] w fun e w' => e = .returned (.string (getL name xs)) ∧ w = w' := by
  obtain ⟨n, hn⟩ : ∃ n, xs.length = n := ⟨_, rfl⟩
  have HN := Lib.hid hn
  rw [hn] at hm ⊢
  clear hn
  unfold maxLen at hm
  have HSO := Lib.hid hS
  clear hS
  go_enter Try.func12, Try.ntmps12
  go_wp2
  go_loop [5] (fun v5 => ∃ k : Nat, v5 = .int .i64 k ∧ k ≤ n ∧ Hid (getL name (xs.drop k) = getL name xs)) (fun v5 => n - (RowKit.intOf v5).toNat)
  case atStart => exact ⟨0, rfl, Nat.zero_le _, rfl⟩
  case round =>
    obtain ⟨k, rfl, hk, H⟩ := hrel
    by_cases hkn : k < n
    · have j1 : (k : Int) < n := by omega
      obtain ⟨x, hx⟩ := get_lt HN.out hkn
      obtain ⟨b, off, rfl, hS⟩ := HSO.out.at hx
      have c0 := hS.at0 k x hx
      have c1 := hS.at1 k x hx
      have hdr := Lib.hid (drop_at hx)
      clear hS hx
      by_cases he : x.1.toList = name.toList
      · have H2 := Lib.hid (show x.2 = getL name xs by rw [← H.out, hdr.out, getL, if_pos he])
        have t1 : (x.1.toList == name.toList) = true := by rw [he]; exact beq_self_eq_true _
        go_wp2
        go_ret
        exact ⟨ret_s H2.out, rfl⟩
      · have H2 := Lib.hid (show getL name (xs.drop (k + 1)) = getL name xs by rw [← H.out, hdr.out, getL, if_neg he])
        have t1 : (x.1.toList == name.toList) = false := beq_eq_false_iff_ne.2 he
        go_wp2
        go_round
        case rel => exact ⟨k + 1, by go_num, by omega, H2⟩
        case measure => simp [RowKit.intOf]; omega
    · have j1 : (n : Int) ≤ k := by omega
      have H2 := Lib.hid (show (⟨#[]⟩ : ByteArray) = getL name xs by rw [← H.out, List.drop_eq_nil_of_le (by rw [HN.out]; omega), getL])
      go_wp2
      go_ret
      exact ⟨ret_s H2.out, rfl⟩

theorem cmp2_range (x y : Lab) : -1 ≤ cmp2 x y ∧ cmp2 x y ≤ 1 := by
  unfold cmp2 cmpN cmpV
  have h1 := cmpB_range x.1.data.toList y.1.data.toList
  have h2 := cmpB_range x.2.data.toList y.2.data.toList
  split <;> omega

set_option maxHeartbeats 4000000 in
set_option maxRecDepth 100000 in
theorem rcompare_any (o1 o2 : Option Addr) (c1 c2 : Nat) (xs ys : List Lab) (w : World) (hm : xs.length ≤ maxLen) (_hm2 : ys.length ≤ maxLen) (h1 : SeesO w o1 xs) (h2 : SeesO w o2 ys) :
    Calls Try.prog 14 #[.slice o1 xs.length c1, .slice o2 ys.length c2] w fun e w' => e = .returned (.int .i64 (cmpL xs ys)) ∧ Below w.heap.size w w' := by
  obtain ⟨n, hn⟩ : ∃ n, xs.length = n := ⟨_, rfl⟩
  obtain ⟨m, hm'⟩ : ∃ m, ys.length = m := ⟨_, rfl⟩
  have HN := Lib.hid hn
  have HM := Lib.hid hm'
  rw [hn] at hm ⊢
  rw [hm'] at _hm2 ⊢
  clear hn hm'
  unfold maxLen at hm _hm2
  have HS1 := Lib.hid h1
  have HS2 := Lib.hid h2
  clear h1 h2
  go_enter Try.func14, Try.ntmps14
  go_wp2
  go_loopw [5] (fun v5 wr => ∃ k : Nat, v5 = .int .i64 k ∧ k ≤ n ∧ k ≤ m ∧ Hid (Below w.heap.size w wr) ∧ Hid (cmpL (xs.drop k) (ys.drop k) = cmpL xs ys)) (fun v5 _ => n - (RowKit.intOf v5).toNat)
  case atStart => exact ⟨0, rfl, Nat.zero_le _, Nat.zero_le _, Lib.hid (Below.refl _ _), Lib.hid rfl⟩
  case round =>
    obtain ⟨k, rfl, hk, hk2, HB, H⟩ := hrel
    by_cases hkn : k < n
    · have j1 : (k : Int) < n := by omega
      by_cases hkm : k < m
      · have j2 : (k : Int) < m := by omega
        obtain ⟨x, hx⟩ := get_lt HN.out hkn
        obtain ⟨y, hy⟩ := get_lt HM.out hkm
        obtain ⟨b, off, rfl, hS⟩ := (HS1.out.below HB.out).at hx
        obtain ⟨b2, off2, rfl, hS2⟩ := (HS2.out.below HB.out).at hy
        have a0 := hS.at0 k x hx
        have a1 := hS.at1 k x hx
        have d0 := hS2.at0 k y hy
        have d1 := hS2.at1 k y hy
        have b1 := hS.low
        have b2' := hS2.low
        have HX := Lib.hid (drop_at hx)
        have HY := Lib.hid (drop_at hy)
        have HT1 := Lib.hid (fun W => (show Calls Try.prog 28 #[.string x.1, .string y.1] W fun e w' => e = .returned (.int .i64 (cmpN x y)) ∧ w' = W from (texts_any x.1 y.1 W).mono fun e w' h => ⟨h.1, h.2.symm⟩))
        have HT2 := Lib.hid (fun W => (show Calls Try.prog 28 #[.string x.2, .string y.2] W fun e w' => e = .returned (.int .i64 (cmpV x y)) ∧ w' = W from (texts_any x.2 y.2 W).mono fun e w' h => ⟨h.1, h.2.symm⟩))
        have hz : cmpL (xs.drop k) (ys.drop k) = if cmp2 x y = 0 then cmpL (xs.drop (k + 1)) (ys.drop (k + 1)) else cmp2 x y := by rw [HX.out, HY.out, cmpL]
        have HZ := Lib.hid (H.out.symm.trans hz)
        clear hS hS2 hx hy hz
        obtain ⟨c, hc⟩ : ∃ c, cmpN x y = c := ⟨_, rfl⟩
        obtain ⟨d, hd⟩ : ∃ d, cmpV x y = d := ⟨_, rfl⟩
        have HC2 := Lib.hid (show cmp2 x y = if c = 0 then d else c by unfold cmp2; rw [hc, hd])
        rw [hc] at HT1
        rw [hd] at HT2
        clear hc hd
        go_wp2_with fail
        go_quiet ((go_at_call 28; exact Calls.quiet_of_same (HT1.out _)))
        have HBq := Lib.hid (show Below w.heap.size w (wr.drewN nq) from HB.out.trans ⟨rfl, rfl, rfl, Nat.le_refl _, fun _ _ => rfl⟩)
        by_cases h0 : c = 0
        · have e2 : cmp2 x y = d := by rw [HC2.out, if_pos h0]
          have t1 : (c == 0) = true := by simpa using h0
          obtain ⟨wz, hwz⟩ : ∃ wz, wr.drewN nq = wz := ⟨_, rfl⟩
          have e1 : wz.cell? ⟨b, off + k * 2 + 1, none⟩ = some (.string x.2) := by rw [← hwz]; exact a1
          have f1 : wz.cell? ⟨b2, off2 + k * 2 + 1, none⟩ = some (.string y.2) := by rw [← hwz]; exact d1
          rw [hwz] at HBq ⊢
          have HE2 := Lib.hid e2
          clear hwz h0 e2
          go_wp2_with fail
          go_quiet ((go_at_call 28; exact Calls.quiet_of_same (HT2.out _)))
          have HBz := Lib.hid (show Below w.heap.size w (wz.drewN nq) from HBq.out.trans ⟨rfl, rfl, rfl, Nat.le_refl _, fun _ _ => rfl⟩)
          by_cases h00 : d = 0
          · have t2 : (d != 0) = false := by simp [h00]
            have H2 := Lib.hid (show cmpL (xs.drop (k + 1)) (ys.drop (k + 1)) = cmpL xs ys by rw [HZ.out, if_pos (HE2.out.trans h00)])
            clear h00
            go_wp2
            go_roundw
            case rel => exact ⟨k + 1, by go_num, by omega, by omega, HBz, H2⟩
            case measure => simp [RowKit.intOf]; omega
          · have t2 : (d != 0) = true := by rw [bne_iff_ne]; exact h00
            have H2 := Lib.hid (show d = cmpL xs ys by rw [HZ.out, if_neg (by rw [HE2.out]; exact h00), HE2.out])
            clear h00
            go_wp2
            go_ret
            exact ⟨ret_int H2.out, HBz.out⟩
        · have t1 : (c == 0) = false := by simpa using h0
          have t2 : (c != 0) = true := by rw [bne_iff_ne]; exact h0
          have H2 := Lib.hid (show c = cmpL xs ys by
            have e2 : cmp2 x y = c := by rw [HC2.out, if_neg h0]
            rw [HZ.out, if_neg (by rw [e2]; exact h0), e2])
          clear h0
          go_wp2
          go_ret
          exact ⟨ret_int H2.out, HBq.out⟩
      · have j2 : (m : Int) ≤ k := by omega
        obtain rfl : m = k := by omega
        obtain ⟨x, hx⟩ := get_lt HN.out hkn
        have H2 := Lib.hid (show (1 : Int) = cmpL xs ys by
          have e1 : ys.drop m = [] := List.drop_eq_nil_of_le (by rw [HM.out]; omega)
          rw [← H.out, drop_at hx, e1, cmpL])
        clear hx
        go_wp2
        go_ret
        exact ⟨ret_int H2.out, HB.out⟩
    · obtain rfl : n = k := by omega
      by_cases hnm : n < m
      · have j2 : (n : Int) < m := by omega
        have H2 := Lib.hid (show (-1 : Int) = cmpL xs ys by
          rw [← H.out, List.drop_eq_nil_of_le (by rw [HN.out]; omega)]
          obtain ⟨y, hy⟩ := get_lt HM.out hnm
          rw [drop_at hy, cmpL])
        go_wp2
        go_ret
        exact ⟨ret_int H2.out, HB.out⟩
      · obtain rfl : m = n := by omega
        have H2 := Lib.hid (show (0 : Int) = cmpL xs ys by
          rw [← H.out, List.drop_eq_nil_of_le (by rw [HN.out]; omega), List.drop_eq_nil_of_le (by rw [HM.out]; omega), cmpL])
        go_wp2
        go_ret
        exact ⟨ret_int H2.out, HB.out⟩
end Go.Proofs.Ytleldfhfdgjfmaa
end

section
/- Walks: the document's own Spell, Kind and Name. -/






namespace Go.Proofs.Ytleldfhfdgjfmaa
open Go.RowKit

/-- A slice that the call owns, opened: its value and where its cells lie. -/
theorem own_open {B e n : Nat} {v : Value} {xs : List Value} {w : World} (h : w.ownsRow B e 1 v n xs) : (v = .slice none 0 0 ∧ n = 0 ∧ xs = []) ∨ ∃ g cap, v = .slice (some ⟨g, 0, none⟩) n cap ∧ B ≤ g ∧ g < w.heap.size ∧ n ≤ cap ∧ cap ≤ maxLen ∧ ∀ j u, xs[j]? = some u → w.cell? ⟨g, j, none⟩ = some u := by
  have hl := h.1
  rcases h.2 with ⟨rfl, h0⟩ | ⟨g, cap, cur, rfl, hg, hh, hn, hcap, hsz, htake⟩
  · subst h0
    exact .inl ⟨rfl, rfl, List.eq_nil_of_length_eq_zero (by simpa using hl)⟩
  · refine .inr ⟨g, cap, rfl, hg, (Array.getElem?_eq_some_iff.1 hh).1, hn, hcap, fun j u hu => ?_⟩
    have hj : j < xs.length := (List.getElem?_eq_some_iff.1 hu).1
    rw [h.cellAt j (by omega), hu]

set_option maxHeartbeats 2000000 in
set_option maxRecDepth 100000 in
theorem rspell_any (s : ByteArray) (w : World) (hs : s.size ≤ 1099511627776) :
    Calls Try.prog 34 #[.string s] w fun e w' => Spelt (w.heap.size + 1) (spell s.data.toList) e w' ∧ Below w.heap.size w w' := by
  obtain ⟨i0, hi, hz0, hz1, hz2⟩ := info_parts tryd_info21
  go_enter Try.func34, Try.ntmps34
  go_wp2
  go_loopw [3] (fun v wr => ∃ (pos : Nat) (xs : List Int), wr.heap[w.heap.size]? = some (.stringIter s pos) ∧ wr.ownsRow (w.heap.size + 1) 21 1 v xs.length (xs.map (Value.int .i32)) ∧ Below w.heap.size w wr ∧ Hid (xs ++ spell (s.data.toList.drop pos) = spell s.data.toList) ∧ xs.length ≤ pos ∧ pos ≤ s.size) (fun _ wr => s.size - wr.iterPos w.heap.size)
  case atStart => exact ⟨0, [], World.iter_heap w s 0, World.ownsRow_nil _ _ _ _, (Below.refl _ _).alloc (Nat.le_refl _) _, (by show _ = _; simp), by simp, Nat.zero_le _⟩
  case round =>
    obtain ⟨pos, xs, hit, hown, hbw, H, hk, hps⟩ := hrel
    have hpos0 := iterPos_of hit
    by_cases hp : pos < s.size
    · have hnx : ∀ ty, (Instr.next (.pointer (some ⟨w.heap.size, 0, none⟩)) true ty).run Try.prog wr = _ := fun ty => Lib.run_next_any_at wr w.heap.size s pos ty hit hp
      have hwd := width1 s pos
      have hwl := width_le hp
      have hit2 := Lib.iterAt_heap wr w.heap.size s pos (pos + (Utf8.decode s pos).2) hit
      have hbw2 := Lib.below_iterAt hbw (k := w.heap.size) (Nat.le_refl _) s (pos + (Utf8.decode s pos).2)
      have hown2 := ownsRow_iterAt hown (k := w.heap.size) (by omega) s (pos + (Utf8.decode s pos).2)
      have H2 : Hid ((xs ++ [((Utf8.decode s pos).1 : Int)]) ++ spell (s.data.toList.drop (pos + (Utf8.decode s pos).2)) = spell s.data.toList) := by
        show _ = _
        rw [← H.out, spell_at hp]; simp
      obtain ⟨W1, hW1⟩ : ∃ W1, W1 = wr.iterAt w.heap.size s (pos + (Utf8.decode s pos).2) := ⟨_, rfl⟩
      rw [← hW1] at hnx hit2 hbw2 hown2
      have hBlt : w.heap.size < W1.heap.size := (Array.getElem?_eq_some_iff.1 hit2).1
      clear hW1 hit hown hbw H
      go_wp2_with (at_builtin; go_must (refine wpList_append_own _ rfl _ _ 74 rfl (w.heap.size + 1) 21 i0 (.int .i32 0) 1 4 Try.underlying74 hi hz0 hz1 hz2 rfl (by decide) _ _ _ rfl (hown2.alloc _) ⟨W1.heap.size, 0, none⟩ 1 1 [.int .i32 ((Utf8.decode s pos).1 : Int)] rfl rfl (cell_1 _ _ _) (one_i32 _) (by unfold maxLen; omega) (by omega) (by simp; omega) ?_); intro v' w3 hown' hgrow3 hnil3)
      have hit3 : w3.heap[w.heap.size]? = some (.stringIter s (pos + (Utf8.decode s pos).2)) := by
        rw [hgrow3.block w.heap.size (by simp; omega) (fun h => by have := (hown2.lt _ h.symm).1; omega), Below.heap_alloc _ _ _ hBlt]; exact hit2
      have hbw3 : Below w.heap.size w w3 := Below.grown (hbw2.alloc (by omega) _) hgrow3 (by simp; omega) (fun j hj => by have := (hown2.lt _ hj).1; omega)
      have ho3 : w3.ownsRow (w.heap.size + 1) 21 1 v' (xs ++ [((Utf8.decode s pos).1 : Int)]).length ((xs ++ [((Utf8.decode s pos).1 : Int)]).map (Value.int .i32)) := by
        rw [List.length_append, List.map_append]; exact hown'
      clear hown' hgrow3 hnil3
      go_roundw
      case rel => exact ⟨pos + (Utf8.decode s pos).2, xs ++ [((Utf8.decode s pos).1 : Int)], hit3, ho3, hbw3, H2, by rw [List.length_append]; simp; omega, hwl⟩
      case measure => rw [iterPos_of hit3, hpos0]; omega
    · have hnx : ∀ ty, (Instr.next (.pointer (some ⟨w.heap.size, 0, none⟩)) true ty).run Try.prog wr = _ := fun ty => Lib.run_next_end_at wr w.heap.size s pos ty hit hp
      have H2 : Hid (xs = spell s.data.toList) := by
        show _ = _
        rw [← H.out, spell_end hp]; simp
      clear H
      go_wp2
      go_ret
      refine ⟨?_, hbw⟩
      rw [← H2.out]
      exact ⟨_, rfl, hown⟩

set_option maxHeartbeats 4000000 in
set_option maxRecDepth 100000 in
theorem rkind_any (r : Int) (w : World) : Calls Try.prog 47 #[.int .i32 r] w fun e w' => e = .returned (.int .i64 (kindZ r)) ∧ w = w' := by
  go_enter Try.func47, Try.ntmps47
  go_wp2
  all_goals (go_ret; refine ⟨ret_int ?_, rfl⟩; first | rfl | skip)
  all_goals ((try simp only [beq_iff_eq, beq_eq_false_iff_ne] at *); unfold kindZ; repeat' split)
  all_goals omega

theorem nameGo_long : ∀ (xs : List Int) (n : Nat), n ≤ 30 → 30 < n + xs.length → nameGo n xs = false
  | [], n, h, h2 => by simp at h2; omega
  | x :: xs, n, h, h2 => by
    unfold nameGo
    split
    · rfl
    · next hn =>
      have : n ≠ 30 := fun e => hn (.inl e)
      exact nameGo_long xs (n + 1) (by omega) (by simp at h2; omega)
theorem kindZ_range (r : Int) : 0 ≤ kindZ r ∧ kindZ r ≤ 4 := by unfold kindZ; repeat' split <;> omega

set_option maxHeartbeats 4000000 in
set_option maxRecDepth 100000 in
theorem rname_any (s : ByteArray) (w : World) (hs : s.size ≤ 1099511627776) : Calls Try.prog 24 #[.string s] w fun e w' => e = .returned (.bool (nameB s.data.toList)) ∧ Below w.heap.size w w' := by
  have CK := Lib.hid (fun r W => rkind_any r W)
  go_enter Try.func24, Try.ntmps24
  go_wp2_with fail
  refine (rspell_any s _ hs).mono ?_
  rintro e w1 ⟨⟨v, rfl, hown⟩, hb1⟩
  obtain ⟨xs, hxs⟩ : ∃ xs, xs = spell s.data.toList := ⟨_, rfl⟩
  have HX := Lib.hid (show nameGo 0 xs = nameB s.data.toList by rw [hxs]; rfl)
  rw [← hxs] at hown
  clear hxs
  have HB := Lib.hid hb1
  obtain ⟨n, hn⟩ : ∃ n, xs.length = n := ⟨_, rfl⟩
  have HN := Lib.hid hn
  rw [hn] at hown
  clear hn hb1
  rcases own_open hown with ⟨rfl, h0, _⟩ | ⟨g, cap, rfl, _, _, hcap, hmax, hcell⟩
  · subst h0
    have h0 : xs = [] := List.eq_nil_of_length_eq_zero HN.out
    have HR := Lib.hid (show false = nameB s.data.toList by rw [← HX.out, h0]; rfl)
    clear h0 hown
    go_wp2
    go_ret
    exact ⟨ret_bool HR.out, HB.out⟩
  · unfold maxLen at hmax
    by_cases hlo : n < 1
    · have h0 : xs = [] := List.eq_nil_of_length_eq_zero (by rw [HN.out]; omega)
      have HR := Lib.hid (show false = nameB s.data.toList by rw [← HX.out, h0]; rfl)
      have i1 : (n : Int) < 1 := by omega
      have t1 : decide ((n : Int) < 1) = true := by simpa using i1
      clear h0 hown hcell
      go_wp2
      go_ret
      exact ⟨ret_bool HR.out, HB.out⟩
    · have i1 : (1 : Int) ≤ n := by omega
      have t1 : decide ((n : Int) < 1) = false := by simp; omega
      by_cases hhi : 30 < n
      · have HR := Lib.hid (show false = nameB s.data.toList by rw [← HX.out, nameGo_long xs 0 (by omega) (by rw [HN.out]; omega)])
        have i2 : (30 : Int) < n := by omega
        have t2 : decide ((30 : Int) < n) = true := by simpa using i2
        clear hown hcell
        go_wp2
        go_ret
        exact ⟨ret_bool HR.out, HB.out⟩
      · have i2 : (n : Int) ≤ 30 := by omega
        have t2 : decide ((30 : Int) < n) = false := by simp; omega
        have hx0 : ∀ k, k < n → xs[k]? = some (xs.getD k 0) := fun k hk => by have := HN.out; simp [List.getD, show k < xs.length by omega]
        have hcx : ∀ k, k < n → w1.cell? ⟨g, k, none⟩ = some (.int .i32 (xs.getD k 0)) := fun k hk => hcell k _ (by rw [List.getElem?_map, hx0 k hk]; rfl)
        have HCX := Lib.hid hcx
        have HX0 := Lib.hid hx0
        have c0 := hcx 0 (by omega)
        have hdrop : ∀ k, k < n → xs.drop k = xs.getD k 0 :: xs.drop (k + 1) := fun k hk => by
          have := HN.out
          rw [List.drop_eq_getElem_cons (by omega)]; simp [List.getD, show k < xs.length by omega]
        have HD := Lib.hid hdrop
        clear hown hcell hx0 hcx hdrop
        by_cases hk1 : kindZ (xs.getD 0 0) = 1
        · have HK1 := Lib.hid hk1
          have t3 : (kindZ (xs.getD 0 0) != 1) = false := by rw [hk1]; rfl
          obtain ⟨x0, hx0⟩ : ∃ x0, x0 = xs.getD 0 0 := ⟨_, rfl⟩
          rw [← hx0] at c0 t3
          clear hk1 hx0
          go_wp2_with fail
          refine (CK.out _ _).mono ?_
          rintro e w2 ⟨rfl, rfl⟩
          go_wp2
          go_loopw [4] (fun vi wr => ∃ k : Nat, vi = .int .i64 k ∧ wr = w1 ∧ k ≤ n ∧ Hid (nameGo k (xs.drop k) = nameB s.data.toList)) (fun vi _ => n - (Go.RowKit.intOf vi).toNat)
          case atStart => exact ⟨0, rfl, rfl, Nat.zero_le _, by show _ = _; rw [List.drop_zero]; exact HX.out⟩
          case round =>
            obtain ⟨k, rfl, rfl, hk, H⟩ := hrel
            by_cases hkn : k < n
            · have j1 : (k : Int) < n := by omega
              have ck := HCX.out k hkn
              have hd := HD.out k hkn
              have h0 := H.out
              rw [hd] at h0
              have hz0 : k = 0 → kindZ (xs.getD k 0) = 1 := fun e => by rw [e]; exact HK1.out
              generalize xs.getD k 0 = x at ck h0 hz0
              by_cases hx1 : kindZ x = 1
              · have H2 : Hid (nameGo (k + 1) (xs.drop (k + 1)) = nameB s.data.toList) := by
                  show _ = _
                  rw [← h0, name_good _ _ _ (by omega)]
                have t4 : (kindZ x != 1) = false := by rw [hx1]; rfl
                clear hx1 h0 hz0 hd
                go_wp2_with fail
                refine (CK.out _ _).mono ?_
                rintro e w2 ⟨rfl, rfl⟩
                go_wp2
                go_roundw
                case rel => exact ⟨k + 1, by go_num, (by first | trivial | rfl), by omega, H2⟩
                case measure => simp [Go.RowKit.intOf]; omega
              · have t4 : (kindZ x != 1) = true := by rw [bne_iff_ne]; exact hx1
                by_cases hx2 : kindZ x = 2
                · have H2 : Hid (nameGo (k + 1) (xs.drop (k + 1)) = nameB s.data.toList) := by
                    show _ = _
                    rw [← h0, name_good _ _ _ (by omega)]
                  have t5 : (kindZ x != 2) = false := by rw [hx2]; rfl
                  clear hx1 hx2 h0 hz0 hd
                  go_wp2_with fail
                  refine (CK.out _ _).mono ?_
                  rintro e w2 ⟨rfl, rfl⟩
                  go_wp2_with fail
                  refine (CK.out _ _).mono ?_
                  rintro e w2 ⟨rfl, rfl⟩
                  go_wp2
                  go_roundw
                  case rel => exact ⟨k + 1, by go_num, (by first | trivial | rfl), by omega, H2⟩
                  case measure => simp [Go.RowKit.intOf]; omega
                · have HR := Lib.hid (show false = nameB s.data.toList by rw [← h0, name_bad _ _ _ (by omega)])
                  have t5 : (kindZ x != 2) = true := by rw [bne_iff_ne]; exact hx2
                  clear hx1 hx2 h0 hz0 hd
                  go_wp2_with fail
                  refine (CK.out _ _).mono ?_
                  rintro e w2 ⟨rfl, rfl⟩
                  go_wp2_with fail
                  refine (CK.out _ _).mono ?_
                  rintro e w2 ⟨rfl, rfl⟩
                  go_wp2
                  go_ret
                  exact ⟨ret_bool HR.out, HB.out⟩
            · have j1 : (n : Int) ≤ k := by omega
              have HR := Lib.hid (show true = nameB s.data.toList by
                rw [← H.out, List.drop_eq_nil_of_le (by rw [HN.out]; omega)]
                unfold nameGo; simp; omega)
              go_wp2
              go_ret
              exact ⟨ret_bool HR.out, HB.out⟩
        · have HR := Lib.hid (show false = nameB s.data.toList by
            have hd := HD.out 0 (by omega)
            rw [List.drop_zero] at hd
            rw [← HX.out, hd, name_bad _ _ _ (by omega)])
          have t3 : (kindZ (xs.getD 0 0) != 1) = true := by rw [bne_iff_ne]; exact hk1
          obtain ⟨x0, hx0⟩ : ∃ x0, x0 = xs.getD 0 0 := ⟨_, rfl⟩
          rw [← hx0] at c0 t3
          clear hk1 hx0
          go_wp2_with fail
          refine (CK.out _ _).mono ?_
          rintro e w2 ⟨rfl, rfl⟩
          go_wp2
          go_ret
          exact ⟨ret_bool HR.out, HB.out⟩
end Go.Proofs.Ytleldfhfdgjfmaa
end
