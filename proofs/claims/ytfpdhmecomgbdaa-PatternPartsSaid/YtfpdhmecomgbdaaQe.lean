/- Patterns, plain: what a text is that a pattern says; the graph takes just that. No program in it. -/
import Derived.Test.YtfpdhmecomgbdaaQd
namespace Go.Proofs.Ytfpdhmecomgbdaa

inductive Plus (P : List Int → Prop) : List Int → Prop where
  | one {s : List Int} (h : P s) : Plus P s
  | more {u v : List Int} (h : P u) (k : Plus P v) : Plus P (u ++ v)
mutual
/-- The texts that a part says. -/
def Lang : Pt → List Int → Prop
  | .choice l, s => LangAny l s
  | .chain l, s => LangSeq l s
  | .times x a b, s => (a = true ∧ s = []) ∨ Lang x s ∨ (b = true ∧ Plus (fun t => Lang x t) s)
  | .only o, s => ∃ r, s = [r] ∧ fitsF (.only o) r = true
  | .cls n xs, s => ∃ r, s = [r] ∧ fitsF (.cls n xs) r = true
  | .dot, s => ∃ r, s = [r] ∧ fitsF .dot r = true
def LangAny : List Pt → List Int → Prop
  | [], _ => False
  | x :: xs, s => Lang x s ∨ LangAny xs s
def LangSeq : List Pt → List Int → Prop
  | [], s => s = []
  | x :: xs, s => ∃ u v, s = u ++ v ∧ Lang x u ∧ LangSeq xs v
end

/-- A road over atoms, a rune at each. -/
inductive Path (F : Nat → Int → Prop) (D : Nat → Nat → Prop) : Nat → List Int → Nat → Prop where
  | one {i : Nat} {r : Int} (h : F i r) : Path F D i [r] i
  | more {i j k : Nat} {r : Int} {s : List Int} (h : F i r) (d : D i j) (p : Path F D j s k) : Path F D i (r :: s) k
theorem Path.ne {F : Nat → Int → Prop} {D : Nat → Nat → Prop} {i k : Nat} {s : List Int} (h : Path F D i s k) : s ≠ [] := by
  cases h <;> simp
theorem Path.mono {F F' : Nat → Int → Prop} {D D' : Nat → Nat → Prop} (A : Nat → Prop) (hF : ∀ i r, A i → F i r → F' i r) (hD : ∀ i j, A i → D i j → D' i j ∧ A j) {i k : Nat} {s : List Int} (h : Path F D i s k) (hA : A i) : Path F' D' i s k ∧ A k := by
  induction h with
  | one h => exact ⟨.one (hF _ _ hA h), hA⟩
  | more h d p ih =>
    obtain ⟨d', hj⟩ := hD _ _ hA d
    obtain ⟨p', hk⟩ := ih hj
    exact ⟨.more (hF _ _ hA h) d' p', hk⟩
theorem Path.append {F : Nat → Int → Prop} {D : Nat → Nat → Prop} {i a b k : Nat} {s t : List Int} (h : Path F D i s a) (d : D a b) (h2 : Path F D b t k) : Path F D i (s ++ t) k := by
  induction h with
  | one h => exact .more h d h2
  | more h d' p ih => exact .more h d' (ih d)
/-- A road that leaves the first region leaves it once. -/
theorem Path.split {F : Nat → Int → Prop} {D D1 D2 : Nat → Nat → Prop} (A B : Nat → Prop) (l f : Nat → Prop) (h1 : ∀ i j, A i → D i j → (D1 i j ∧ A j) ∨ (l i ∧ f j ∧ B j)) (h2 : ∀ i j, B i → D i j → D2 i j ∧ B j)
    {i k : Nat} {s : List Int} (h : Path F D i s k) (hA : A i) : (A k ∧ Path F D1 i s k) ∨ (B k ∧ ∃ u v a b, s = u ++ v ∧ Path F D1 i u a ∧ l a ∧ f b ∧ Path F D2 b v k) := by
  induction h with
  | one h => exact .inl ⟨hA, .one h⟩
  | more h d p ih =>
    rcases h1 _ _ hA d with ⟨d1, hj⟩ | ⟨hl, hf, hB⟩
    · rcases ih hj with ⟨hk, p1⟩ | ⟨hk, u, v, a, b, e, q1, q2, q3, q4⟩
      · exact .inl ⟨hk, .more h d1 p1⟩
      · exact .inr ⟨hk, _ :: u, v, a, b, by rw [e]; rfl, .more h d1 q1, q2, q3, q4⟩
    · obtain ⟨p2, hk⟩ := p.mono B (fun _ _ _ hh => hh) h2 hB
      exact .inr ⟨hk, [_], _, _, _, rfl, .one h, hl, hf, p2⟩
/-- A road with turns back is one road behind the other. -/
theorem Path.loops {F : Nat → Int → Prop} {D D1 : Nat → Nat → Prop} (l f : Nat → Prop) (h1 : ∀ i j, D i j → D1 i j ∨ (l i ∧ f j)) {i k : Nat} {s : List Int} (h : Path F D i s k) (hk : l k) :
    ∃ u a, Path F D1 i u a ∧ l a ∧ (s = u ∨ ∃ v, s = u ++ v ∧ Plus (fun t => ∃ b c, f b ∧ l c ∧ Path F D1 b t c) v) := by
  induction h with
  | one h => exact ⟨_, _, .one h, hk, .inl rfl⟩
  | more h d p ih =>
    obtain ⟨u, a, p1, ha, hs⟩ := ih hk
    rcases h1 _ _ d with d1 | ⟨hl, hf⟩
    · refine ⟨_ :: u, a, .more h d1 p1, ha, ?_⟩
      rcases hs with rfl | ⟨v, rfl, hv⟩
      · exact .inl rfl
      · exact .inr ⟨v, rfl, hv⟩
    · refine ⟨[_], _, .one h, hl, .inr ⟨_, rfl, ?_⟩⟩
      rcases hs with rfl | ⟨v, rfl, hv⟩
      · exact .one ⟨_, _, hf, ha, p1⟩
      · exact .more ⟨_, _, hf, ha, p1⟩ hv

def Fit (g : Gr) (i : Nat) (r : Int) : Prop := ∃ x, g.atoms[i]? = some x ∧ fitsF x r = true
def Ed (g : Gr) (i j : Nat) : Prop := ∃ t, g.thn[i]? = some t ∧ t.testBit j = true
theorem bit_lt {x n i : Nat} (h : x < 2 ^ n) (hb : x.testBit i = true) : i < n := by
  apply Classical.byContradiction
  intro hn
  have := Nat.testBit_lt_two_pow (Nat.lt_of_lt_of_le h (Nat.pow_le_pow_right (by omega) (by omega : n ≤ i)))
  rw [this] at hb; cases hb
theorem Ed.lt {g : Gr} (h : GrOk g) {i j : Nat} (he : Ed g i j) : i < g.atoms.length ∧ j < g.atoms.length := by
  obtain ⟨t, h1, h2⟩ := he
  exact ⟨by rw [← h.len]; exact (List.getElem?_eq_some_iff.1 h1).1, bit_lt (h.small t (List.mem_of_getElem? h1)) h2⟩
/-- What is below n is what it was. -/
structure Frame (n : Nat) (g g' : Gr) : Prop where
  atoms : ∀ i, i < n → g'.atoms[i]? = g.atoms[i]?
  thn : ∀ i, i < n → g'.thn[i]? = g.thn[i]?
theorem Frame.trans {n : Nat} {a b c : Gr} (h : Frame n a b) (k : Frame n b c) : Frame n a c := ⟨fun i hi => (k.atoms i hi).trans (h.atoms i hi), fun i hi => (k.thn i hi).trans (h.thn i hi)⟩
theorem Frame.mono {n m : Nat} {a b : Gr} (h : Frame n a b) (hm : m ≤ n) : Frame m a b := ⟨fun i hi => h.atoms i (by omega), fun i hi => h.thn i (by omega)⟩
theorem Frame.fit {n : Nat} {g g' : Gr} (h : Frame n g g') {i : Nat} (hi : i < n) (r : Int) : Fit g' i r ↔ Fit g i r := by unfold Fit; rw [h.atoms i hi]
theorem Frame.ed {n : Nat} {g g' : Gr} (h : Frame n g g') {i : Nat} (hi : i < n) (j : Nat) : Ed g' i j ↔ Ed g i j := by unfold Ed; rw [h.thn i hi]

/-- The region from n on takes just P. -/
structure Lays (n : Nat) (g : Gr) (e : Eg) (P : List Int → Prop) : Prop where
  first : ∀ i, e.first.testBit i = true → n ≤ i ∧ i < g.atoms.length
  last : ∀ i, e.last.testBit i = true → n ≤ i ∧ i < g.atoms.length
  closed : ∀ i j, n ≤ i → Ed g i j → n ≤ j
  lang : ∀ s, P s ↔ (s = [] ∧ e.none = true) ∨ ∃ i k, e.first.testBit i = true ∧ e.last.testBit k = true ∧ Path (Fit g) (Ed g) i s k
theorem Lays.congr {n : Nat} {g : Gr} {e : Eg} {P Q : List Int → Prop} (h : Lays n g e P) (hq : ∀ s, Q s ↔ P s) : Lays n g e Q := ⟨h.first, h.last, h.closed, fun s => (hq s).trans (h.lang s)⟩

theorem testBit_or (a b i : Nat) : (a ||| b).testBit i = true ↔ a.testBit i = true ∨ b.testBit i = true := by rw [Nat.testBit_or, Bool.or_eq_true]

/-- One alternative more. -/
theorem Lays.alt {n : Nat} {g G : Gr} {e E : Eg} {P Q : List Int → Prop} (hok : GrOk g) (hn : n ≤ g.atoms.length) (h : Lays n g e P) (hf : Frame g.atoms.length g G) (hlen : g.atoms.length ≤ G.atoms.length) (h2 : Lays g.atoms.length G E Q) : Lays n G (altF e E) (fun s => P s ∨ Q s) := by
  obtain ⟨c, hc⟩ : ∃ c, g.atoms.length = c := ⟨_, rfl⟩
  have hclt : ∀ i j, i < c → Ed G i j → Ed g i j ∧ j < c := fun i j hi he => by
    have := (hf.ed (by rw [hc]; exact hi) j).1 he
    exact ⟨this, by rw [← hc]; exact (this.lt hok).2⟩
  have h2c := h2
  rw [hc] at h2c hn
  refine ⟨fun i hi => ?_, fun i hi => ?_, fun i j hi he => ?_, fun s => ?_⟩
  · rcases (testBit_or _ _ _).1 hi with hi | hi
    · have := h.first i hi; omega
    · have := h2c.first i hi; omega
  · rcases (testBit_or _ _ _).1 hi with hi | hi
    · have := h.last i hi; omega
    · have := h2c.last i hi; omega
  · by_cases hic : i < c
    · exact h.closed i j hi (hclt i j hic he).1
    · have := h2c.closed i j (by omega) he; omega
  · rw [h.lang s, h2.lang s]
    constructor
    · rintro ((⟨rfl, hn1⟩ | ⟨i, k, hi, hk, hp⟩) | (⟨rfl, hn1⟩ | ⟨i, k, hi, hk, hp⟩))
      · exact .inl ⟨rfl, by simp [altF, hn1]⟩
      · refine .inr ⟨i, k, (testBit_or _ _ _).2 (.inl hi), (testBit_or _ _ _).2 (.inl hk), ?_⟩
        have := h.first i hi
        exact (hp.mono (fun i => i < c) (fun i r hic hh => (hf.fit (by rw [hc]; exact hic) r).2 hh) (fun i j hic he => ⟨(hf.ed (by rw [hc]; exact hic) j).2 he, by rw [← hc]; exact (he.lt hok).2⟩) (by omega)).1
      · exact .inl ⟨rfl, by simp [altF, hn1]⟩
      · exact .inr ⟨i, k, (testBit_or _ _ _).2 (.inr hi), (testBit_or _ _ _).2 (.inr hk), hp⟩
    · rintro (⟨rfl, hn1⟩ | ⟨i, k, hi, hk, hp⟩)
      · simp only [altF, Bool.or_eq_true] at hn1
        rcases hn1 with hn1 | hn1
        · exact .inl (.inl ⟨rfl, hn1⟩)
        · exact .inr (.inl ⟨rfl, hn1⟩)
      · rcases (testBit_or _ _ _).1 hi with hi | hi
        · have hil := h.first i hi
          obtain ⟨p1, hkc⟩ := hp.mono (F' := Fit g) (D' := Ed g) (fun i => i < c) (fun i r hic hh => (hf.fit (by rw [hc]; exact hic) r).1 hh) (fun i j hic he => hclt i j hic he) (by omega)
          rcases (testBit_or _ _ _).1 hk with hk | hk
          · exact .inl (.inr ⟨i, k, hi, hk, p1⟩)
          · have := h2c.last k hk; omega
        · have hil := h2c.first i hi
          obtain ⟨_, hkc⟩ := hp.mono (F' := Fit G) (D' := Ed G) (fun i => c ≤ i) (fun _ _ _ hh => hh) (fun i j hic he => ⟨he, h2c.closed i j hic he⟩) hil.1
          rcases (testBit_or _ _ _).1 hk with hk | hk
          · have := h.last k hk; omega
          · exact .inr (.inr ⟨i, k, hi, hk, hp⟩)

theorem linkF_ed {g : Gr} {a b i j : Nat} : Ed ⟨g.atoms, linkF g.thn a b⟩ i j ↔ Ed g i j ∨ (i < g.thn.length ∧ a.testBit i = true ∧ b.testBit j = true) := by
  unfold Ed
  dsimp only
  by_cases hi : i < g.thn.length
  · have e1 : (linkF g.thn a b)[i]? = some (if a.testBit i then g.thn[i] ||| b else g.thn[i]) := by
      unfold linkF
      rw [List.getElem?_mapIdx, List.getElem?_eq_getElem hi]; rfl
    rw [e1, List.getElem?_eq_getElem hi]
    constructor
    · rintro ⟨t, ht, hb⟩
      injection ht with ht
      subst ht
      split at hb
      · rename_i ha
        rcases (testBit_or _ _ _).1 hb with hb | hb
        · exact .inl ⟨_, rfl, hb⟩
        · exact .inr ⟨hi, ha, hb⟩
      · exact .inl ⟨_, rfl, hb⟩
    · rintro (⟨t, ht, hb⟩ | ⟨_, ha, hb⟩)
      · injection ht with ht
        subst ht
        refine ⟨_, rfl, ?_⟩
        split
        · exact (testBit_or _ _ _).2 (.inl hb)
        · exact hb
      · refine ⟨_, rfl, ?_⟩
        rw [if_pos ha]
        exact (testBit_or _ _ _).2 (.inr hb)
  · have e1 : (linkF g.thn a b)[i]? = none := List.getElem?_eq_none (by rw [linkF_len]; omega)
    rw [e1, List.getElem?_eq_none (by omega)]
    simp [hi]
theorem fit_link {g : Gr} {t : List Nat} {i : Nat} {r : Int} : Fit ⟨g.atoms, t⟩ i r ↔ Fit g i r := Iff.rfl

/-- One part more behind. -/
theorem Lays.seq {n : Nat} {g G : Gr} {e E : Eg} {P Q : List Int → Prop} (hok : GrOk g) (hok2 : GrOk G) (hn : n ≤ g.atoms.length) (h : Lays n g e P) (hf : Frame g.atoms.length g G) (hlen : g.atoms.length ≤ G.atoms.length) (h2 : Lays g.atoms.length G E Q) :
    Lays n ⟨G.atoms, linkF G.thn e.last E.first⟩ (seqF e E) (fun s => ∃ u v, s = u ++ v ∧ P u ∧ Q v) := by
  obtain ⟨c, hc⟩ : ∃ c, g.atoms.length = c := ⟨_, rfl⟩
  have hclt : ∀ i j, i < c → Ed G i j → Ed g i j ∧ j < c := fun i j hi he => by
    have := (hf.ed (by rw [hc]; exact hi) j).1 he
    exact ⟨this, by rw [← hc]; exact (this.lt hok).2⟩
  have h2c := h2
  rw [hc] at h2c hn hlen
  have hL : ∀ i, e.last.testBit i = true → i < G.thn.length := fun i hi => by have := h.last i hi; rw [hok2.len]; omega
  -- the edges by region
  have hA : ∀ i j, i < c → Ed ⟨G.atoms, linkF G.thn e.last E.first⟩ i j → (Ed g i j ∧ j < c) ∨ (e.last.testBit i = true ∧ E.first.testBit j = true ∧ c ≤ j) := fun i j hi he => by
    rcases linkF_ed.1 he with he | ⟨_, ha, hb⟩
    · exact .inl (hclt i j hi he)
    · exact .inr ⟨ha, hb, (h2c.first j hb).1⟩
  have hB : ∀ i j, c ≤ i → Ed ⟨G.atoms, linkF G.thn e.last E.first⟩ i j → Ed G i j ∧ c ≤ j := fun i j hi he => by
    rcases linkF_ed.1 he with he | ⟨_, ha, hb⟩
    · exact ⟨he, h2c.closed i j hi he⟩
    · have := h.last i ha; omega
  have hup : ∀ {i k : Nat} {s : List Int}, i < c → Path (Fit g) (Ed g) i s k → Path (Fit ⟨G.atoms, linkF G.thn e.last E.first⟩) (Ed ⟨G.atoms, linkF G.thn e.last E.first⟩) i s k := fun hi hp =>
    (hp.mono (fun i => i < c) (fun i r hic hh => fit_link.2 ((hf.fit (by rw [hc]; exact hic) r).2 hh)) (fun i j hic he => ⟨linkF_ed.2 (.inl ((hf.ed (by rw [hc]; exact hic) j).2 he)), by rw [← hc]; exact (he.lt hok).2⟩) hi).1
  have hup2 : ∀ {i k : Nat} {s : List Int}, Path (Fit G) (Ed G) i s k → Path (Fit ⟨G.atoms, linkF G.thn e.last E.first⟩) (Ed ⟨G.atoms, linkF G.thn e.last E.first⟩) i s k := fun hp =>
    (hp.mono (fun _ => True) (fun i r _ hh => fit_link.2 hh) (fun i j _ he => ⟨linkF_ed.2 (.inl he), trivial⟩) trivial).1
  have hdn : ∀ {i k : Nat} {s : List Int}, i < c → Path (Fit ⟨G.atoms, linkF G.thn e.last E.first⟩) (fun a b => Ed g a b) i s k → Path (Fit g) (Ed g) i s k := fun hi hp =>
    (hp.mono (fun i => i < c) (fun i r hic hh => (hf.fit (by rw [hc]; exact hic) r).1 hh) (fun i j hic he => ⟨he, by rw [← hc]; exact (he.lt hok).2⟩) hi).1
  have fE : ∀ i, (seqF e E).first.testBit i = true ↔ e.first.testBit i = true ∨ (e.none = true ∧ E.first.testBit i = true) := fun i => by
    unfold seqF; dsimp only
    split
    · rename_i h0; rw [testBit_or]; simp [h0]
    · rename_i h0; simp [h0]
  have lE : ∀ i, (seqF e E).last.testBit i = true ↔ E.last.testBit i = true ∨ (E.none = true ∧ e.last.testBit i = true) := fun i => by
    unfold seqF; dsimp only
    split
    · rename_i h0; rw [testBit_or]; simp [h0]; exact Or.comm
    · rename_i h0; simp [h0]
  refine ⟨fun i hi => ?_, fun i hi => ?_, fun i j hi he => ?_, fun s => ?_⟩
  · rcases (fE i).1 hi with hi | ⟨_, hi⟩
    · have := h.first i hi; dsimp only; omega
    · have := h2c.first i hi; dsimp only; omega
  · rcases (lE i).1 hi with hi | ⟨_, hi⟩
    · have := h2c.last i hi; dsimp only; omega
    · have := h.last i hi; dsimp only; omega
  · by_cases hic : i < c
    · rcases hA i j hic he with ⟨he, _⟩ | ⟨_, _, hj⟩
      · exact h.closed i j hi he
      · omega
    · have := (hB i j (by omega) he).2; omega
  · constructor
    · rintro ⟨u, v, rfl, hu, hv⟩
      rcases (h.lang u).1 hu with ⟨rfl, hn1⟩ | ⟨i, a, hi, ha, p1⟩
      · rcases (h2.lang v).1 hv with ⟨rfl, hn2⟩ | ⟨b, k, hb, hk, p2⟩
        · exact .inl ⟨rfl, by simp [seqF, hn1, hn2]⟩
        · exact .inr ⟨b, k, (fE b).2 (.inr ⟨hn1, hb⟩), (lE k).2 (.inl hk), by simpa using hup2 p2⟩
      · have hil := h.first i hi
        rcases (h2.lang v).1 hv with ⟨rfl, hn2⟩ | ⟨b, k, hb, hk, p2⟩
        · exact .inr ⟨i, a, (fE i).2 (.inl hi), (lE a).2 (.inr ⟨hn2, ha⟩), by simpa using hup (by omega) p1⟩
        · exact .inr ⟨i, k, (fE i).2 (.inl hi), (lE k).2 (.inl hk), (hup (by omega) p1).append (linkF_ed.2 (.inr ⟨hL a ha, ha, hb⟩)) (hup2 p2)⟩
    · rintro (⟨rfl, hn1⟩ | ⟨i, k, hi, hk, hp⟩)
      · simp only [seqF, Bool.and_eq_true] at hn1
        exact ⟨[], [], rfl, (h.lang []).2 (.inl ⟨rfl, hn1.1⟩), (h2.lang []).2 (.inl ⟨rfl, hn1.2⟩)⟩
      · rcases (fE i).1 hi with hi | ⟨hn1, hi⟩
        · have hil := h.first i hi
          rcases hp.split (D1 := fun a b => Ed g a b) (D2 := fun a b => Ed G a b) (fun i => i < c) (fun i => c ≤ i) (fun i => e.last.testBit i = true) (fun i => E.first.testBit i = true) hA hB (by omega) with ⟨hkc, p1⟩ | ⟨hkc, u, v, a, b, rfl, p1, ha, hb, p2⟩
          · rcases (lE k).1 hk with hk | ⟨hn2, hk⟩
            · have := h2c.last k hk; omega
            · exact ⟨s, [], by simp, (h.lang s).2 (.inr ⟨i, k, hi, hk, hdn (by omega) p1⟩), (h2.lang []).2 (.inl ⟨rfl, hn2⟩)⟩
          · rcases (lE k).1 hk with hk | ⟨_, hk⟩
            · exact ⟨u, v, rfl, (h.lang u).2 (.inr ⟨i, a, hi, ha, hdn (by omega) p1⟩), (h2.lang v).2 (.inr ⟨b, k, hb, hk, p2⟩)⟩
            · have := h.last k hk; omega
        · have hil := h2c.first i hi
          obtain ⟨p2, hkc⟩ := hp.mono (F' := Fit G) (D' := Ed G) (fun i => c ≤ i) (fun _ _ _ hh => hh) hB hil.1
          rcases (lE k).1 hk with hk | ⟨_, hk⟩
          · exact ⟨[], s, rfl, (h.lang []).2 (.inl ⟨rfl, hn1⟩), (h2.lang s).2 (.inr ⟨i, k, hi, hk, p2⟩)⟩
          · have := h.last k hk; omega

/-- Again and again; or not at all. -/
theorem Lays.times {n : Nat} {g : Gr} {e : Eg} {P : List Int → Prop} (hok : GrOk g) (h : Lays n g e P) (a b : Bool) : Lays n (timesG a b (e, g)).2 (timesG a b (e, g)).1 (fun s => (a = true ∧ s = []) ∨ P s ∨ (b = true ∧ Plus P s)) := by
  unfold timesG
  dsimp only
  cases b with
  | false =>
    simp only [Bool.false_eq_true, if_false]
    refine ⟨h.first, h.last, h.closed, fun s => ?_⟩
    rw [h.lang s]
    simp only [Bool.or_eq_true]
    constructor
    · rintro (⟨ha, rfl⟩ | (⟨rfl, h1⟩ | h1) | ⟨h0, _⟩)
      · exact .inl ⟨rfl, .inr ha⟩
      · exact .inl ⟨rfl, .inl h1⟩
      · exact .inr h1
      · exact absurd h0 (by simp)
    · rintro (⟨rfl, h1 | ha⟩ | h1)
      · exact .inr (.inl (.inl ⟨rfl, h1⟩))
      · exact .inl ⟨ha, rfl⟩
      · exact .inr (.inl (.inr h1))
  | true =>
    simp only [if_true]
    have hL : ∀ i, e.last.testBit i = true → i < g.thn.length := fun i hi => by have := h.last i hi; rw [hok.len]; omega
    have hup : ∀ {i k : Nat} {s : List Int}, Path (Fit g) (Ed g) i s k → Path (Fit ⟨g.atoms, linkF g.thn e.last e.first⟩) (Ed ⟨g.atoms, linkF g.thn e.last e.first⟩) i s k := fun hp =>
      (hp.mono (fun _ => True) (fun i r _ hh => fit_link.2 hh) (fun i j _ he => ⟨linkF_ed.2 (.inl he), trivial⟩) trivial).1
    have hplus : ∀ s, Plus P s → (s = [] ∧ e.none = true) ∨ ∃ i k, e.first.testBit i = true ∧ e.last.testBit k = true ∧ Path (Fit ⟨g.atoms, linkF g.thn e.last e.first⟩) (Ed ⟨g.atoms, linkF g.thn e.last e.first⟩) i s k := by
      intro s hs
      induction hs with
      | one hp =>
        rcases (h.lang _).1 hp with h1 | ⟨i, k, hi, hk, p⟩
        · exact .inl h1
        · exact .inr ⟨i, k, hi, hk, hup p⟩
      | more hp _ ih =>
        rcases (h.lang _).1 hp with ⟨rfl, h1⟩ | ⟨i, k, hi, hk, p⟩
        · simpa using ih
        · rcases ih with ⟨rfl, _⟩ | ⟨i2, k2, hi2, hk2, p2⟩
          · exact .inr ⟨i, k, hi, hk, by simpa using hup p⟩
          · exact .inr ⟨i, k2, hi, hk2, (hup p).append (linkF_ed.2 (.inr ⟨hL k hk, hk, hi2⟩)) p2⟩
    refine ⟨h.first, h.last, fun i j hi he => ?_, fun s => ?_⟩
    · rcases linkF_ed.1 he with he | ⟨_, _, hb⟩
      · exact h.closed i j hi he
      · exact (h.first j hb).1
    · simp only [Bool.or_eq_true]
      constructor
      · rintro (⟨ha, rfl⟩ | hp | ⟨_, hp⟩)
        · exact .inl ⟨rfl, .inr ha⟩
        · rcases hplus s (.one hp) with ⟨rfl, h1⟩ | h1
          · exact .inl ⟨rfl, .inl h1⟩
          · exact .inr h1
        · rcases hplus s hp with ⟨rfl, h1⟩ | h1
          · exact .inl ⟨rfl, .inl h1⟩
          · exact .inr h1
      · rintro (⟨rfl, h1 | ha⟩ | ⟨i, k, hi, hk, hp⟩)
        · exact .inr (.inl ((h.lang []).2 (.inl ⟨rfl, h1⟩)))
        · exact .inl ⟨ha, rfl⟩
        · obtain ⟨u, a2, p1, ha2, hs⟩ := hp.loops (D1 := Ed g) (fun i => e.last.testBit i = true) (fun i => e.first.testBit i = true) (fun i j he => by
            rcases linkF_ed.1 he with he | ⟨_, x, y⟩
            · exact .inl he
            · exact .inr ⟨x, y⟩) hk
          have toP : ∀ t, (∃ b c, e.first.testBit b = true ∧ e.last.testBit c = true ∧ Path (Fit ⟨g.atoms, linkF g.thn e.last e.first⟩) (Ed g) b t c) → P t := fun t ⟨b, c, hb, hc, p⟩ => (h.lang t).2 (.inr ⟨b, c, hb, hc, (p.mono (fun _ => True) (fun _ _ _ hh => fit_link.1 hh) (fun _ _ _ he => ⟨he, trivial⟩) trivial).1⟩)
          have hPu : P u := toP u ⟨i, a2, hi, ha2, p1⟩
          rcases hs with rfl | ⟨v, rfl, hv⟩
          · exact .inr (.inl hPu)
          · refine .inr (.inr ⟨by simp, .more hPu ?_⟩)
            clear hp
            induction hv with
            | one h0 => exact .one (toP _ h0)
            | more h0 _ ih => exact .more (toP _ h0) ih

theorem Lays.atom (x : Pt) (g : Gr) (hok : GrOk g) : Lays g.atoms.length (layAtomF x g).2 (layAtomF x g).1 (fun s => ∃ r, s = [r] ∧ fitsF x r = true) ∧ Frame g.atoms.length g (layAtomF x g).2 := by
  obtain ⟨n, hn⟩ : ∃ n, g.atoms.length = n := ⟨_, rfl⟩
  have hn2 : g.thn.length = n := by rw [hok.len]; exact hn
  unfold layAtomF
  rw [hn]
  have hb : ∀ i, (2 ^ n).testBit i = true ↔ i = n := fun i => by rw [Nat.testBit_two_pow]; simp [eq_comm]
  have hfit : ∀ r, Fit ⟨g.atoms ++ [x], g.thn ++ [0]⟩ n r ↔ fitsF x r = true := fun r => by
    unfold Fit
    dsimp only
    rw [List.getElem?_append_right (by omega), hn, Nat.sub_self]
    simp
  have hed : ∀ j, ¬ Ed ⟨g.atoms ++ [x], g.thn ++ [0]⟩ n j := fun j => by
    unfold Ed
    dsimp only
    rw [List.getElem?_append_right (by omega), hn2, Nat.sub_self]
    simp
  refine ⟨⟨fun i hi => ?_, fun i hi => ?_, fun i j hi he => ?_, fun s => ?_⟩, ⟨fun i hi => ?_, fun i hi => ?_⟩⟩
  · have := (hb i).1 hi; subst this; simp; omega
  · have := (hb i).1 hi; subst this; simp; omega
  · by_cases h0 : i = n
    · subst h0; exact absurd he (hed j)
    · obtain ⟨t, ht, _⟩ := he
      have := (List.getElem?_eq_some_iff.1 ht).1
      simp at this
      omega
  · constructor
    · rintro ⟨r, rfl, hr⟩
      exact .inr ⟨n, n, (hb n).2 rfl, (hb n).2 rfl, .one ((hfit r).2 hr)⟩
    · rintro (⟨_, h0⟩ | ⟨i, k, hi, hk, hp⟩)
      · exact absurd h0 (by simp)
      · have e1 := (hb i).1 hi
        subst e1
        cases hp with
        | one h => exact ⟨_, rfl, (hfit _).1 h⟩
        | more h d p => exact absurd d (hed _)
  · exact List.getElem?_append_left (by omega)
  · exact List.getElem?_append_left (by omega)
mutual
theorem layF_lays : ∀ (x : Pt) (g : Gr), GrOk g → Lays g.atoms.length (layF x g).2 (layF x g).1 (Lang x) ∧ Frame g.atoms.length g (layF x g).2
  | .choice l, g, h => by
    rw [layF]
    have e0 : Lays g.atoms.length g ⟨false, 0, 0⟩ (fun _ => False) := ⟨fun i hi => by simp at hi, fun i hi => by simp at hi, fun i j hi he => by have := he.lt h; omega, fun s => by simp⟩
    have := layAlts_lays l ⟨false, 0, 0⟩ g g.atoms.length (fun _ => False) h (Nat.le_refl _) e0
    exact ⟨this.1.congr fun s => by rw [Lang]; exact ⟨.inr, fun h => h.elim False.elim id⟩, this.2⟩
  | .chain l, g, h => by
    rw [layF]
    have e0 : Lays g.atoms.length g ⟨true, 0, 0⟩ (fun s => s = []) := ⟨fun i hi => by simp at hi, fun i hi => by simp at hi, fun i j hi he => by have := he.lt h; omega, fun s => by simp⟩
    have := laySeq_lays l ⟨true, 0, 0⟩ g g.atoms.length (fun s => s = []) h (Nat.le_refl _) e0
    exact ⟨this.1.congr fun s => by rw [Lang]; exact ⟨fun h => ⟨[], s, rfl, rfl, h⟩, fun ⟨u, v, e, hu, hv⟩ => by subst hu; rw [e]; exact hv⟩, this.2⟩
  | .times x a b, g, h => by
    rw [layF]
    obtain ⟨h1, h2⟩ := layF_lays x g h
    have hok := layF_ok x g h
    have ht := h1.times hok.1 a b
    refine ⟨ht.congr fun s => by rw [Lang], ?_⟩
    unfold timesG
    cases b with
    | false => exact h2
    | true =>
      refine ⟨h2.atoms, fun i hi => ?_⟩
      rw [if_pos rfl]
      dsimp only
      have hil : i < (layF x g).2.thn.length := by rw [hok.1.len, hok.2.1]; omega
      have e1 : (linkF (layF x g).2.thn (layF x g).1.last (layF x g).1.first)[i]? = some (if (layF x g).1.last.testBit i then (layF x g).2.thn[i] ||| (layF x g).1.first else (layF x g).2.thn[i]) := by
        unfold linkF
        rw [List.getElem?_mapIdx, List.getElem?_eq_getElem hil]; rfl
      have hnb : (layF x g).1.last.testBit i = false := by
        cases hc : (layF x g).1.last.testBit i with
        | false => rfl
        | true => have := h1.last i hc; omega
      rw [e1, hnb, ← h2.thn i hi, List.getElem?_eq_getElem hil]
      rfl
  | .only r, g, h => by rw [layF]; have := Lays.atom (.only r) g h; exact ⟨this.1.congr fun s => by rw [Lang], this.2⟩
  | .cls n xs, g, h => by rw [layF]; have := Lays.atom (.cls n xs) g h; exact ⟨this.1.congr fun s => by rw [Lang], this.2⟩
  | .dot, g, h => by rw [layF]; have := Lays.atom .dot g h; exact ⟨this.1.congr fun s => by rw [Lang], this.2⟩
theorem layAlts_lays : ∀ (l : List Pt) (e : Eg) (g : Gr) (n : Nat) (P : List Int → Prop), GrOk g → n ≤ g.atoms.length → Lays n g e P → Lays n (layAlts l e g).2 (layAlts l e g).1 (fun s => P s ∨ LangAny l s) ∧ Frame n g (layAlts l e g).2
  | [], e, g, n, P, _, _, h => by
    rw [layAlts]
    exact ⟨h.congr fun s => by simp [LangAny], ⟨fun _ _ => rfl, fun _ _ => rfl⟩⟩
  | x :: xs, e, g, n, P, hok, hn, h => by
    rw [layAlts]
    obtain ⟨h1, h2⟩ := layF_lays x g hok
    have ok := layF_ok x g hok
    have ha := h.alt hok hn h2 (by rw [ok.2.1]; omega) h1
    have := layAlts_lays xs (altF e (layF x g).1) (layF x g).2 n (fun s => P s ∨ Lang x s) ok.1 (by rw [ok.2.1]; omega) ha
    exact ⟨this.1.congr fun s => by rw [LangAny]; exact (or_assoc).symm, (h2.mono hn).trans this.2⟩
theorem laySeq_lays : ∀ (l : List Pt) (e : Eg) (g : Gr) (n : Nat) (P : List Int → Prop), GrOk g → n ≤ g.atoms.length → Lays n g e P → Lays n (laySeq l e g).2 (laySeq l e g).1 (fun s => ∃ u v, s = u ++ v ∧ P u ∧ LangSeq l v) ∧ Frame n g (laySeq l e g).2
  | [], e, g, n, P, _, _, h => by
    rw [laySeq]
    refine ⟨h.congr fun s => ?_, ⟨fun _ _ => rfl, fun _ _ => rfl⟩⟩
    simp only [LangSeq]
    constructor
    · rintro ⟨u, v, rfl, hu, rfl⟩; simpa using hu
    · intro hs; exact ⟨s, [], by simp, hs, rfl⟩
  | x :: xs, e, g, n, P, hok, hn, h => by
    rw [laySeq]
    obtain ⟨h1, h2⟩ := layF_lays x g hok
    have ok := layF_ok x g hok
    have ok2 : GrOk ⟨(layF x g).2.atoms, linkF (layF x g).2.thn e.last (layF x g).1.first⟩ := ⟨by rw [linkF_len]; exact ok.1.len, linkF_small ok.1.small (by rw [ok.2.1]; exact ok.2.2.1)⟩
    have ha := h.seq hok ok.1 hn h2 (by rw [ok.2.1]; omega) h1
    have := laySeq_lays xs (seqF e (layF x g).1) ⟨(layF x g).2.atoms, linkF (layF x g).2.thn e.last (layF x g).1.first⟩ n _ ok2 (by dsimp only; rw [ok.2.1]; omega) ha
    refine ⟨this.1.congr fun s => ?_, Frame.trans (b := ⟨(layF x g).2.atoms, linkF (layF x g).2.thn e.last (layF x g).1.first⟩) ⟨fun i hi => (h2.mono hn).atoms i hi, fun i hi => ?_⟩ this.2⟩
    · simp only [LangSeq]
      constructor
      · rintro ⟨u, v, rfl, hu, a, b, rfl, ha, hb⟩
        exact ⟨u ++ a, b, by simp, ⟨u, a, rfl, hu, ha⟩, hb⟩
      · rintro ⟨_, b, rfl, ⟨u, a, rfl, hu, ha⟩, hb⟩
        exact ⟨u, a ++ b, by simp, hu, a, b, rfl, ha, hb⟩
    · dsimp only
      have hil : i < (layF x g).2.thn.length := by rw [ok.1.len, ok.2.1]; omega
      have e1 : (linkF (layF x g).2.thn e.last (layF x g).1.first)[i]? = some (if e.last.testBit i then (layF x g).2.thn[i] ||| (layF x g).1.first else (layF x g).2.thn[i]) := by
        unfold linkF
        rw [List.getElem?_mapIdx, List.getElem?_eq_getElem hil]; rfl
      have hnb : e.last.testBit i = false := by
        cases hc : e.last.testBit i with
        | false => rfl
        | true => have := h.last i hc; omega
      rw [e1, hnb, ← h2.thn i (by omega), List.getElem?_eq_getElem hil]
      rfl
end

/-! ### the walk over the runes -/
theorem hitTo_bit (l : List Pt) (op : Nat) (r : Int) : ∀ (k i : Nat), (hitTo l op r k).testBit i = true ↔ i < k ∧ op.testBit i = true ∧ fitsF (l.getD i (.choice [])) r = true
  | 0, i => by simp [hitTo]
  | k + 1, i => by
    have ih := hitTo_bit l op r k i
    rw [hitTo]
    by_cases hc : (op.testBit k && fitsF (l.getD k (.choice [])) r) = true
    · rw [if_pos hc, testBit_or, ih]
      have hb : (2 ^ k).testBit i = true ↔ i = k := by rw [Nat.testBit_two_pow]; simp [eq_comm]
      rw [hb]
      rw [Bool.and_eq_true] at hc
      constructor
      · rintro (⟨h1, h2⟩ | rfl)
        · exact ⟨by omega, h2⟩
        · exact ⟨by omega, hc⟩
      · rintro ⟨h1, h2⟩
        by_cases h0 : i = k
        · exact .inr h0
        · exact .inl ⟨by omega, h2⟩
    · rw [if_neg hc, ih]
      rw [Bool.and_eq_true] at hc
      constructor
      · rintro ⟨h1, h2⟩; exact ⟨by omega, h2⟩
      · rintro ⟨h1, h2⟩
        by_cases h0 : i = k
        · subst h0; exact absurd h2 hc
        · exact ⟨by omega, h2⟩
theorem hitF_bit (g : Gr) (op : Nat) (r : Int) (i : Nat) : (hitF g op r).testBit i = true ↔ op.testBit i = true ∧ Fit g i r := by
  unfold hitF Fit
  rw [hitTo_bit]
  constructor
  · rintro ⟨h1, h2, h3⟩
    rw [List.getD_eq_getElem?_getD, List.getElem?_eq_getElem h1] at h3
    exact ⟨h2, _, List.getElem?_eq_getElem h1, h3⟩
  · rintro ⟨h2, x, hx, h3⟩
    refine ⟨(List.getElem?_eq_some_iff.1 hx).1, h2, ?_⟩
    rw [List.getD_eq_getElem?_getD, hx]; exact h3
theorem behTo_bit (t : List Nat) (h : Nat) : ∀ (k j : Nat), (behTo t h k).testBit j = true ↔ ∃ i, i < k ∧ h.testBit i = true ∧ (t.getD i 0).testBit j = true
  | 0, j => by simp [behTo]
  | k + 1, j => by
    have ih := behTo_bit t h k j
    rw [behTo]
    by_cases hc : h.testBit k = true
    · rw [if_pos hc, testBit_or, ih]
      constructor
      · rintro (⟨i, h1, h2⟩ | h0)
        · exact ⟨i, by omega, h2⟩
        · exact ⟨k, by omega, hc, h0⟩
      · rintro ⟨i, h1, h2, h3⟩
        by_cases h0 : i = k
        · subst h0; exact .inr h3
        · exact .inl ⟨i, by omega, h2, h3⟩
    · rw [if_neg hc, ih]
      constructor
      · rintro ⟨i, h1, h2⟩; exact ⟨i, by omega, h2⟩
      · rintro ⟨i, h1, h2, h3⟩
        by_cases h0 : i = k
        · subst h0; exact absurd h2 hc
        · exact ⟨i, by omega, h2, h3⟩
theorem behF_bit (g : Gr) (h j : Nat) : (behF g h).testBit j = true ↔ ∃ i, h.testBit i = true ∧ Ed g i j := by
  unfold behF Ed
  rw [behTo_bit]
  constructor
  · rintro ⟨i, h1, h2, h3⟩
    rw [List.getD_eq_getElem?_getD, List.getElem?_eq_getElem h1] at h3
    exact ⟨i, h2, _, List.getElem?_eq_getElem h1, h3⟩
  · rintro ⟨i, h2, t, ht, h3⟩
    refine ⟨i, (List.getElem?_eq_some_iff.1 ht).1, h2, ?_⟩
    rw [List.getD_eq_getElem?_getD, ht]; exact h3
theorem zero_bits {x : Nat} : x = 0 ↔ ∀ i, ¬ x.testBit i = true := by
  constructor
  · rintro rfl i; simp
  · intro h
    apply Nat.eq_of_testBit_eq
    intro i
    rw [Nat.zero_testBit]
    cases hx : x.testBit i with
    | false => rfl
    | true => exact absurd hx (h i)
theorem and_zero {x y : Nat} : ¬ x &&& y = 0 ↔ ∃ i, x.testBit i = true ∧ y.testBit i = true := by
  rw [zero_bits]
  constructor
  · intro h
    apply Classical.byContradiction
    intro hn
    apply h
    intro i hi
    rw [Nat.testBit_and, Bool.and_eq_true] at hi
    exact hn ⟨i, hi⟩
  · rintro ⟨i, h1, h2⟩ h
    exact h i (by rw [Nat.testBit_and, h1, h2]; rfl)
/-- All runes are taken just where a road goes that far. -/
theorem begGo_all (g : Gr) (last : Nat) : ∀ (rs : List Int) (op c : Nat) (m : Int), m ≤ c → (begGo g last op c m rs = (c + rs.length : Nat) ↔ (rs = [] ∧ m = c) ∨ ∃ i k, op.testBit i = true ∧ last.testBit k = true ∧ Path (Fit g) (Ed g) i rs k)
  | [], op, c, m, h => by
    simp only [begGo, List.length_nil, Nat.add_zero]
    constructor
    · intro e; exact .inl ⟨by trivial, e⟩
    · rintro (⟨_, e⟩ | ⟨i, k, _, _, hp⟩)
      · exact e
      · exact absurd rfl hp.ne
  | r :: rs, op, c, m, h => by
    rw [begGo]
    by_cases h0 : hitF g op r = 0
    · rw [if_pos h0]
      have hz := zero_bits.1 h0
      constructor
      · intro e; simp only [List.length_cons] at e; omega
      · rintro (⟨e, _⟩ | ⟨i, k, hi, hk, hp⟩)
        · cases e
        · exfalso
          cases hp with
          | one hf => exact hz i ((hitF_bit g op r i).2 ⟨hi, hf⟩)
          | more hf _ _ => exact hz i ((hitF_bit g op r i).2 ⟨hi, hf⟩)
    · rw [if_neg h0]
      have e1 : c + (r :: rs).length = c + 1 + rs.length := by simp only [List.length_cons]; omega
      rw [e1]
      have key : ∀ m2 : Int, m2 ≤ ((c + 1 : Nat) : Int) → (m2 = ((c + 1 : Nat) : Int) ↔ ∃ i, (hitF g op r).testBit i = true ∧ last.testBit i = true) →
          (begGo g last (behF g (hitF g op r)) (c + 1) m2 rs = (c + 1 + rs.length : Nat) ↔ (r :: rs = [] ∧ m = c) ∨ ∃ i k, op.testBit i = true ∧ last.testBit k = true ∧ Path (Fit g) (Ed g) i (r :: rs) k) := by
        intro m2 hm2 hm3
        rw [begGo_all g last rs (behF g (hitF g op r)) (c + 1) m2 hm2, hm3]
        constructor
        · rintro (⟨rfl, i, h1, h2⟩ | ⟨j, k, hj, hk, hp⟩)
          · obtain ⟨a, b⟩ := (hitF_bit g op r i).1 h1
            exact .inr ⟨i, i, a, h2, .one b⟩
          · obtain ⟨i, hi, he⟩ := (behF_bit g _ j).1 hj
            obtain ⟨a, b⟩ := (hitF_bit g op r i).1 hi
            exact .inr ⟨i, k, a, hk, .more b he hp⟩
        · rintro (⟨e, _⟩ | ⟨i, k, hi, hk, hp⟩)
          · cases e
          · cases hp with
            | one hf => exact .inl ⟨by simp, i, (hitF_bit g op r i).2 ⟨hi, hf⟩, hk⟩
            | more hf d p => exact .inr ⟨_, k, (behF_bit g _ _).2 ⟨i, (hitF_bit g op r i).2 ⟨hi, hf⟩, d⟩, hk, p⟩
      by_cases h1 : hitF g op r &&& last = 0
      · rw [if_pos h1]
        refine key m (by omega) ⟨fun e => by omega, fun e => absurd h1 (and_zero.2 e)⟩
      · rw [if_neg h1]
        exact key _ (Int.le_refl _) ⟨fun _ => and_zero.1 h1, fun _ => rfl⟩
/-- A graph takes just the texts that its part says. -/
theorem whole_lang (x : Pt) (rs : List Int) : wholeF (layF x ⟨[], []⟩) rs = true ↔ Lang x rs := by
  obtain ⟨h1, _⟩ := layF_lays x ⟨[], []⟩ ⟨rfl, fun t ht => by simp at ht⟩
  rw [h1.lang rs]
  unfold wholeF begF
  rw [beq_iff_eq]
  have := begGo_all (layF x ⟨[], []⟩).2 (layF x ⟨[], []⟩).1.last rs (layF x ⟨[], []⟩).1.first 0 (if (layF x ⟨[], []⟩).1.none then (0 : Int) else -1) (by split <;> simp)
  rw [Nat.zero_add] at this
  rw [this]
  have e : ((if (layF x ⟨[], []⟩).1.none = true then (0 : Int) else -1) = ((0 : Nat) : Int)) ↔ (layF x ⟨[], []⟩).1.none = true := by
    split <;> simp_all
  rw [e]
end Go.Proofs.Ytfpdhmecomgbdaa
