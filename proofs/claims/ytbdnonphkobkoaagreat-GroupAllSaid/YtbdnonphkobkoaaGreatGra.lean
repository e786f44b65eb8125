/- Groups of rows: what they are, plain. -/
import Derived.Test.YtbdnonphkobkoaaGreatGg
import Derived.Test.YtbdnonphkobkoaaGreatFf
import Derived.Test.YtbdnonphkobkoaaGreatSta0
namespace Go.Proofs.YtbdnonphkobkoaaGreat.Grp
open Go.RowKit Go.Lib Go.Sort Vec

abbrev Grp := Labs × List Rw
def byR (mode : Int) (ns : List ByteArray) (l : Labs) : Labs := if mode = 1 ∨ mode = 2 then keyR mode ns l else []
def ltG (x y : Grp) : Bool := decide (cmpL x.1 y.1 < 0)
def oneG (mode : Int) (ns : List ByteArray) (x : Rw) : Grp := (byR mode ns x.1, [x])
def onesR (mode : Int) (ns : List ByteArray) (xs : List Rw) : List Grp := xs.map (oneG mode ns)
/-- One group more: joined to the last one, if that has the same labels. -/
def joinF (acc : List Grp) (g : Grp) : List Grp :=
  match acc.getLast? with
  | some l => if sameL l.1 g.1 then acc.dropLast ++ [(l.1, l.2 ++ g.2)] else acc ++ [g]
  | none => [g]
def joinR (l : List Grp) : List Grp := l.foldl joinF []
def splitR (mode : Int) (ns : List ByteArray) (xs : List Rw) : List Grp := joinR (Stb.srt ltG (onesR mode ns xs))

theorem joinF_nil (g : Grp) : joinF [] g = [g] := rfl
theorem joinF_snoc (A : List Grp) (l g : Grp) : joinF (A ++ [l]) g = if sameL l.1 g.1 then A ++ [(l.1, l.2 ++ g.2)] else A ++ [l] ++ [g] := by
  unfold joinF
  simp only [List.getLast?_append, List.getLast?_singleton, Option.some_or, List.dropLast_concat]

theorem swoG : SWO ltG where
  irrefl x := by unfold ltG; rw [cmpL_self]; rfl
  trans x y z h1 h2 := by
    simp only [ltG, decide_eq_true_eq] at *
    exact Vec.cmpL_lt_trans h1 h2
  ntrans x y z h1 h2 := by
    simp only [ltG, decide_eq_false_iff_not] at *
    have e1 := cmpL_swap x.1 y.1
    have e2 := cmpL_swap y.1 z.1
    have e3 := cmpL_swap x.1 z.1
    have := cmpL_trans z.1 y.1 x.1 (by omega) (by omega)
    omega

theorem snoc_cases {α : Type} (l : List α) : l = [] ∨ ∃ A x, l = A ++ [x] := by
  rcases List.eq_nil_or_concat l with h | ⟨A, x, h⟩
  · exact .inl h
  · exact .inr ⟨A, x, by rw [h, List.concat_eq_append]⟩

/-- What joining keeps, over groups that stand in order. -/
structure Joined (mode : Int) (ns : List ByteArray) (acc : List Grp) (xs : List Rw) : Prop where
  rise : acc.Pairwise fun x y => cmpL x.1 y.1 < 0
  flat : (acc.map (·.2)).flatten = xs
  bys : ∀ g ∈ acc, ∀ x ∈ g.2, byR mode ns x.1 = g.1
  ne : ∀ g ∈ acc, g.2 ≠ []

theorem Joined.step {mode : Int} {ns : List ByteArray} {acc : List Grp} {xs : List Rw} {x : Rw} (h : Joined mode ns acc xs) (hle : ∀ g ∈ acc, cmpL g.1 (byR mode ns x.1) ≤ 0) : Joined mode ns (joinF acc (oneG mode ns x)) (xs ++ [x]) := by
  rcases snoc_cases acc with rfl | ⟨A, l, rfl⟩
  · have := h.flat
    simp only [List.map_nil, List.flatten_nil] at this
    subst this
    refine ⟨by rw [joinF_nil]; simp, by rw [joinF_nil]; simp [oneG], ?_, ?_⟩
    · intro g hg y hy
      rw [joinF_nil] at hg; simp at hg; subst hg
      simp [oneG] at hy; subst hy; rfl
    · intro g hg
      rw [joinF_nil] at hg; simp at hg; subst hg; simp [oneG]
  · have h1 := List.pairwise_append.mp h.rise
    rw [joinF_snoc]
    by_cases hs : sameL l.1 (oneG mode ns x).1 = true
    · rw [if_pos hs]
      have he : l.1 = byR mode ns x.1 := (sameL_iff _ _).1 hs
      refine ⟨List.pairwise_append.mpr ⟨h1.1, by simp, ?_⟩, ?_, ?_, ?_⟩
      · intro a ha b hb
        simp at hb; subst hb
        exact h1.2.2 a ha l (by simp)
      · rw [← h.flat]; simp [oneG]
      · intro g hg y hy
        rcases List.mem_append.mp hg with hg | hg
        · exact h.bys g (by simp [hg]) y hy
        · simp at hg; subst hg
          rcases List.mem_append.mp hy with hy | hy
          · exact h.bys l (by simp) y hy
          · simp [oneG] at hy; subst hy; exact he.symm
      · intro g hg
        rcases List.mem_append.mp hg with hg | hg
        · exact h.ne g (by simp [hg])
        · simp at hg; subst hg; simp [oneG]
    · rw [if_neg hs]
      have hlt : cmpL l.1 (byR mode ns x.1) < 0 := by
        have a := hle l (by simp)
        have b : cmpL l.1 (byR mode ns x.1) ≠ 0 := fun h0 => hs ((sameL_iff _ _).2 ((cmpL_zero _ _).1 h0))
        omega
      refine ⟨List.pairwise_append.mpr ⟨h.rise, by simp, ?_⟩, ?_, ?_, ?_⟩
      · intro a ha b hb
        simp at hb; subst hb
        rcases List.mem_append.mp ha with ha | ha
        · exact Vec.cmpL_lt_trans (h1.2.2 a ha l (by simp)) hlt
        · simp at ha; subst ha; exact hlt
      · rw [← h.flat]; simp [oneG]
      · intro g hg y hy
        rcases List.mem_append.mp hg with hg | hg
        · exact h.bys g hg y hy
        · simp at hg; subst hg
          simp [oneG] at hy; subst hy; rfl
      · intro g hg
        rcases List.mem_append.mp hg with hg | hg
        · exact h.ne g hg
        · simp at hg; subst hg; simp [oneG]

theorem joinF_last {acc : List Grp} {g : Grp} : ∀ a ∈ joinF acc g, ∃ b ∈ acc ++ [g], a.1 = b.1 := by
  intro a ha
  rcases snoc_cases acc with rfl | ⟨A, l, rfl⟩
  · rw [joinF_nil] at ha; exact ⟨a, by simpa using ha, rfl⟩
  · rw [joinF_snoc] at ha
    by_cases hs : sameL l.1 g.1 = true
    · rw [if_pos hs] at ha
      rcases List.mem_append.mp ha with ha | ha
      · exact ⟨a, by simp [ha], rfl⟩
      · simp at ha; subst ha; exact ⟨l, by simp, rfl⟩
    · rw [if_neg hs] at ha; exact ⟨a, ha, rfl⟩

theorem join_go {mode : Int} {ns : List ByteArray} : ∀ (l xs : List Rw) (acc : List Grp), Joined mode ns acc xs → (∀ g ∈ acc, ∀ x ∈ l, cmpL g.1 (byR mode ns x.1) ≤ 0) → (l.Pairwise fun x y => cmpL (byR mode ns x.1) (byR mode ns y.1) ≤ 0) →
    Joined mode ns ((onesR mode ns l).foldl joinF acc) (xs ++ l)
  | [], xs, acc, h, _, _ => by simpa [onesR] using h
  | x :: l, xs, acc, h, hle, hp => by
    have hp := List.pairwise_cons.mp hp
    have := join_go l (xs ++ [x]) (joinF acc (oneG mode ns x)) (h.step fun g hg => hle g hg x (by simp)) (fun g hg y hy => by
      obtain ⟨b, hb, e⟩ := joinF_last g hg
      rw [e]
      rcases List.mem_append.mp hb with hb | hb
      · exact hle b hb y (by simp [hy])
      · simp at hb; subst hb; exact hp.1 y hy) hp.2
    simpa [onesR] using this

/-- The rows in the order of their groups. -/
def ltO (mode : Int) (ns : List ByteArray) (x y : Rw) : Bool := decide (cmpL (byR mode ns x.1) (byR mode ns y.1) < 0)
theorem ones_srt (mode : Int) (ns : List ByteArray) (xs : List Rw) : Stb.srt ltG (onesR mode ns xs) = onesR mode ns (Stb.srt (ltO mode ns) xs) := by
  unfold Stb.srt onesR
  exact (List.map_mergeSort (r := Stb.leS (ltO mode ns)) (s := Stb.leS ltG) (f := oneG mode ns) (fun a _ b _ => rfl)).symm

theorem swoO (mode : Int) (ns : List ByteArray) : SWO (ltO mode ns) where
  irrefl x := swoG.irrefl (oneG mode ns x)
  trans x y z := swoG.trans (oneG mode ns x) (oneG mode ns y) (oneG mode ns z)
  ntrans x y z := swoG.ntrans (oneG mode ns x) (oneG mode ns y) (oneG mode ns z)

theorem split_joined (mode : Int) (ns : List ByteArray) (xs : List Rw) : Joined mode ns (splitR mode ns xs) (Stb.srt (ltO mode ns) xs) := by
  unfold splitR joinR
  rw [ones_srt]
  have := join_go (mode := mode) (ns := ns) (Stb.srt (ltO mode ns) xs) [] [] ⟨List.Pairwise.nil, rfl, fun _ h => absurd h (by simp), fun _ h => absurd h (by simp)⟩ (fun _ h => absurd h (by simp)) ((Stb.srt_srtd (swoO mode ns) xs).imp fun {a b} h => by
    simp only [ltO, decide_eq_false_iff_not] at h
    have := cmpL_swap (byR mode ns a.1) (byR mode ns b.1)
    omega)
  simpa using this

theorem split_perm (mode : Int) (ns : List ByteArray) (xs : List Rw) : (((splitR mode ns xs).map (·.2)).flatten).Perm xs := by
  rw [(split_joined mode ns xs).flat]; exact Stb.srt_perm _
theorem split_rise (mode : Int) (ns : List ByteArray) (xs : List Rw) : (splitR mode ns xs).Pairwise fun x y => cmpL x.1 y.1 < 0 := (split_joined mode ns xs).rise
theorem split_by (mode : Int) (ns : List ByteArray) (xs : List Rw) : ∀ g ∈ splitR mode ns xs, ∀ x ∈ g.2, byR mode ns x.1 = g.1 := (split_joined mode ns xs).bys
theorem split_ne (mode : Int) (ns : List ByteArray) (xs : List Rw) : ∀ g ∈ splitR mode ns xs, g.2 ≠ [] := (split_joined mode ns xs).ne
theorem split_mem {mode : Int} {ns : List ByteArray} {xs : List Rw} {g : Grp} (hg : g ∈ splitR mode ns xs) {x : Rw} (hx : x ∈ g.2) : x ∈ xs :=
  (split_perm mode ns xs).mem_iff.1 (List.mem_flatten.2 ⟨g.2, List.mem_map.2 ⟨g, hg, rfl⟩, hx⟩)
theorem flat_len : ∀ (l : List Grp), (∀ g ∈ l, g.2 ≠ []) → l.length ≤ ((l.map (·.2)).flatten).length
  | [], _ => Nat.le_refl _
  | g :: l, h => by
    have ih := flat_len l fun a ha => h a (by simp [ha])
    have : 0 < g.2.length := List.length_pos_iff.mpr (h g (by simp))
    simp only [List.map_cons, List.flatten_cons, List.length_append, List.length_cons]
    omega
theorem split_len (mode : Int) (ns : List ByteArray) (xs : List Rw) : (splitR mode ns xs).length ≤ xs.length := by
  have := flat_len _ (split_ne mode ns xs)
  rwa [(split_perm mode ns xs).length_eq] at this
theorem split_nil (mode : Int) (ns : List ByteArray) : splitR mode ns [] = [] := List.eq_nil_of_length_eq_zero (Nat.le_zero.1 (split_len mode ns []))
theorem part_len : ∀ (l : List (List Rw)) (g : List Rw), g ∈ l → g.length ≤ l.flatten.length
  | a :: l, g, h => by
    rw [List.flatten_cons, List.length_append]
    rcases List.mem_cons.mp h with rfl | h
    · omega
    · have := part_len l g h; omega
theorem group_len {mode : Int} {ns : List ByteArray} {xs : List Rw} {g : Grp} (hg : g ∈ splitR mode ns xs) : g.2.length ≤ xs.length := by
  have := part_len _ g.2 (List.mem_map.2 ⟨g, hg, rfl⟩)
  rwa [(split_perm mode ns xs).length_eq] at this

/-- Which aggregation it is: its number, and the number that goes with it. -/
def aggF (s : ByteArray) (n : Int) : Option (Nat × Int) :=
  if s = ⟨#[115, 117, 109]⟩ then some (0, 0) else if s = ⟨#[97, 118, 103]⟩ then some (1, 0) else if s = ⟨#[109, 105, 110]⟩ then some (2, 0) else if s = ⟨#[109, 97, 120]⟩ then some (3, 0)
  else if s = ⟨#[99, 111, 117, 110, 116]⟩ then some (4, 0)
  else if s = ⟨#[113, 117, 97, 110, 116, 105, 108, 101]⟩ then (if 0 ≤ n ∧ n ≤ 100 then some (5, n) else none)
  else if s = ⟨#[116, 111, 112, 107]⟩ then (if 1 ≤ n ∧ n ≤ 2000 then some (6, n) else none) else none
def ltV (x y : Rw) : Bool := decide (y.2 < x.2)
def nums (l : List Rw) : List Int := l.map (·.2)
end Go.Proofs.YtbdnonphkobkoaaGreat.Grp
