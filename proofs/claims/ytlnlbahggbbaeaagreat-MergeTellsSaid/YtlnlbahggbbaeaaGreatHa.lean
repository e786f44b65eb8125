/- Plain: a stable sort; several lists in order put together. -/
import Derived.Sort.Statements
namespace Go.Proofs.YtlnlbahggbbaeaaGreat.Stb
open Go.Sort

section
variable {α : Type} (lt : α → α → Bool)

def leS (x y : α) : Bool := !lt y x
def mg (l r : List α) : List α := List.merge l r (leS lt)
def srt (l : List α) : List α := l.mergeSort (leS lt)
def Srt (l : List α) : Prop := l.Pairwise fun x y => lt y x = false
def eqv (x y : α) : Bool := !lt x y && !lt y x

theorem mg_nil_left (r : List α) : mg lt [] r = r := by simp [mg]
theorem mg_nil_right (l : List α) : mg lt l [] = l := by simp [mg]
theorem mg_cons (x y : α) (l r : List α) : mg lt (x :: l) (y :: r) = if lt y x then y :: mg lt (x :: l) r else x :: mg lt l (y :: r) := by
  unfold mg
  rw [List.cons_merge_cons]
  cases h : lt y x <;> simp [leS, h]

theorem mg_split : ∀ (a c b d : List α), (∀ l ∈ a, ∀ r ∈ d, lt r l = false) → (∀ r ∈ c, ∀ l ∈ b, lt r l = true) → mg lt (a ++ b) (c ++ d) = mg lt a c ++ mg lt b d
  | [], [], b, d, _, _ => by simp [mg_nil_left]
  | [], y :: c, [], d, _, _ => by simp [mg_nil_left]
  | [], y :: c, z :: b, d, h1, h2 => by
    have ih := mg_split [] c (z :: b) d (fun l h => by simp at h) (fun r hr l hl => h2 r (List.mem_cons_of_mem _ hr) l hl)
    have hz := h2 y List.mem_cons_self z List.mem_cons_self
    simp only [List.nil_append, List.cons_append, mg_nil_left] at ih ⊢
    rw [mg_cons, if_pos hz, ih]
  | x :: a, [], b, [], _, _ => by simp [mg_nil_right]
  | x :: a, [], b, w :: d, h1, h2 => by
    have ih := mg_split a [] b (w :: d) (fun l h r hr => h1 l (List.mem_cons_of_mem _ h) r hr) (fun r hr => by simp at hr)
    have hx := h1 x List.mem_cons_self w List.mem_cons_self
    simp only [List.nil_append, List.cons_append, mg_nil_right] at ih ⊢
    rw [mg_cons, if_neg (by simp [hx]), ih]
  | x :: a, y :: c, b, d, h1, h2 => by
    simp only [List.cons_append]
    rw [mg_cons, mg_cons]
    by_cases h : lt y x = true
    · rw [if_pos h, if_pos h]
      have ih := mg_split (x :: a) c b d h1 (fun r hr l hl => h2 r (List.mem_cons_of_mem _ hr) l hl)
      simp only [List.cons_append] at ih ⊢
      rw [ih]
    · rw [if_neg h, if_neg h]
      have ih := mg_split a (y :: c) b d (fun l hl r hr => h1 l (List.mem_cons_of_mem _ hl) r hr) h2
      simp only [List.cons_append] at ih ⊢
      rw [ih]
  termination_by a c => a.length + c.length

theorem mg_one_left (x : α) (c d : List α) (h1 : ∀ r ∈ c, lt r x = true) (h2 : ∀ r ∈ d, lt r x = false) : mg lt [x] (c ++ d) = c ++ x :: d := by
  have e := mg_split lt [] c [x] d (fun l h => by simp at h) (fun r hr l hl => by simp at hl; subst hl; exact h1 r hr)
  have e2 := mg_split lt [x] [] [] d (fun l h r hr => by simp at h; subst h; exact h2 r hr) (fun r hr => by simp at hr)
  simp only [List.nil_append, List.append_nil, mg_nil_left, mg_nil_right] at e e2
  rw [e, e2]; rfl

theorem mg_one_right (y : α) (a b : List α) (h1 : ∀ l ∈ a, lt y l = false) (h2 : ∀ l ∈ b, lt y l = true) : mg lt (a ++ b) [y] = a ++ y :: b := by
  have e := mg_split lt a [y] b [] (fun l _ r hr => by simp at hr) (fun r hr l hl => by simp at hr; subst hr; exact h2 l hl)
  have e2 := mg_split lt a [] [] [y] (fun l h r hr => by simp at hr; subst hr; exact h1 l h) (fun r hr => by simp at hr)
  simp only [List.nil_append, List.append_nil, mg_nil_left, mg_nil_right] at e e2
  rw [e, e2, List.append_assoc]; rfl

theorem mg_done (a d : List α) (h : ∀ l ∈ a, ∀ r ∈ d, lt r l = false) : mg lt a d = a ++ d := by
  have e := mg_split lt a [] [] d h (fun r hr => by simp at hr)
  simp only [List.nil_append, List.append_nil, mg_nil_left, mg_nil_right] at e
  exact e

theorem mg_len (a b : List α) : (mg lt a b).length = a.length + b.length := by
  unfold mg; exact List.length_merge ..

variable {lt}
theorem mg_filter (hS : SWO lt) (x : α) : ∀ (l r : List α), Srt lt l → (mg lt l r).filter (eqv lt x) = l.filter (eqv lt x) ++ r.filter (eqv lt x)
  | [], r, _ => by simp [mg_nil_left]
  | l, [], _ => by simp [mg_nil_right]
  | a :: l, b :: r, h => by
    rw [mg_cons]
    by_cases hb : lt b a = true
    · rw [if_pos hb, List.filter_cons, mg_filter hS x (a :: l) r h]
      by_cases he : eqv lt x b = true
      · rw [if_pos he]
        have hnone : (a :: l).filter (eqv lt x) = [] := by
          rw [List.filter_eq_nil_iff]
          intro z hz hxz
          have hza : lt z a = false := by
            rcases List.mem_cons.mp hz with rfl | hz
            · exact hS.irrefl _
            · exact (List.pairwise_cons.mp h).1 z hz
          have hbz : lt b z = true := by
            cases hc : lt b z with
            | true => rfl
            | false => have := hS.ntrans b z a hc hza; rw [hb] at this; exact absurd this (by simp)
          simp only [eqv, Bool.and_eq_true, Bool.not_eq_true'] at he hxz
          have : lt b z = false := hS.ntrans b x z he.2 hxz.1
          rw [hbz] at this; exact absurd this (by simp)
        rw [hnone]
        simp [he]
      · simp [List.filter_cons, he]
    · rw [if_neg hb, List.filter_cons, mg_filter hS x l (b :: r) (List.pairwise_cons.mp h).2]
      by_cases he : eqv lt x a = true <;> simp [List.filter_cons, he]
  termination_by l r => l.length + r.length

theorem mg_mem {l r : List α} {z : α} : z ∈ mg lt l r ↔ z ∈ l ∨ z ∈ r := by
  unfold mg; exact List.mem_merge

theorem mg_srtd (hS : SWO lt) : ∀ (l r : List α), Srt lt l → Srt lt r → Srt lt (mg lt l r)
  | [], r, _, h => by rw [mg_nil_left]; exact h
  | l, [], h, _ => by rw [mg_nil_right]; exact h
  | a :: l, b :: r, h1, h2 => by
    rw [mg_cons]
    have g1 := List.pairwise_cons.mp h1
    have g2 := List.pairwise_cons.mp h2
    by_cases hb : lt b a = true
    · rw [if_pos hb]
      have hab : lt a b = false := by
        cases hc : lt a b with
        | false => rfl
        | true => have := hS.trans a b a hc hb; rw [hS.irrefl] at this; exact absurd this (by simp)
      refine List.pairwise_cons.mpr ⟨?_, mg_srtd hS (a :: l) r h1 g2.2⟩
      intro z hz
      rcases mg_mem.mp hz with hz | hz
      · rcases List.mem_cons.mp hz with rfl | hz
        · exact hab
        · exact hS.ntrans _ _ _ (g1.1 z hz) hab
      · exact g2.1 z hz
    · rw [if_neg hb]
      have hb' : lt b a = false := by simpa using hb
      refine List.pairwise_cons.mpr ⟨?_, mg_srtd hS l (b :: r) g1.2 h2⟩
      intro z hz
      rcases mg_mem.mp hz with hz | hz
      · exact g1.1 z hz
      · rcases List.mem_cons.mp hz with rfl | hz
        · exact hb'
        · exact hS.ntrans _ _ _ (g2.1 z hz) hb'
  termination_by l r => l.length + r.length

theorem eqv_self (hS : SWO lt) (x : α) : eqv lt x x = true := by simp [eqv, hS.irrefl]
theorem eqv_comm (x y : α) : eqv lt x y = eqv lt y x := by unfold eqv; rw [Bool.and_comm]
theorem eqv_trans (hS : SWO lt) {x y z : α} (h1 : eqv lt x y = true) (h2 : eqv lt y z = true) : eqv lt x z = true := by
  simp only [eqv, Bool.and_eq_true, Bool.not_eq_true'] at *
  exact ⟨hS.ntrans _ _ _ h1.1 h2.1, hS.ntrans _ _ _ h2.2 h1.2⟩

theorem stable_unique (hS : SWO lt) : ∀ (ys zs : List α), Srt lt ys → Srt lt zs → (∀ x, ys.filter (eqv lt x) = zs.filter (eqv lt x)) → ys = zs
  | [], [], _, _, _ => rfl
  | [], z :: zs, _, _, h => by have := h z; simp [eqv_self hS] at this
  | y :: ys, [], _, _, h => by have := h y; simp [eqv_self hS] at this
  | y :: ys, z :: zs, h1, h2, h => by
    have g1 := List.pairwise_cons.mp h1
    have g2 := List.pairwise_cons.mp h2
    have low : ∀ {a : α} {l : List α}, (∀ c ∈ l, lt c a = false) → ∀ c ∈ a :: l, lt c a = false := fun hl c hc => by
      rcases List.mem_cons.mp hc with rfl | hc
      · exact hS.irrefl _
      · exact hl c hc
    have hy : y ∈ z :: zs := by
      have : y ∈ (z :: zs).filter (eqv lt y) := by rw [← h y]; simp [eqv_self hS]
      exact (List.mem_filter.mp this).1
    have hz : z ∈ y :: ys := by
      have : z ∈ (y :: ys).filter (eqv lt z) := by rw [h z]; simp [eqv_self hS]
      exact (List.mem_filter.mp this).1
    have e1 : lt y z = false := low g2.1 y hy
    have e2 : lt z y = false := low g1.1 z hz
    have hyz : eqv lt y z = true := by simp [eqv, e1, e2]
    have hf := h y
    rw [List.filter_cons, List.filter_cons, if_pos (eqv_self hS y), if_pos hyz] at hf
    have e : y = z := (List.cons.inj hf).1
    subst e
    have := stable_unique hS ys zs g1.2 g2.2 (fun x => by
      have hx := h x
      rw [List.filter_cons, List.filter_cons] at hx
      by_cases hc : eqv lt x y = true
      · rw [if_pos hc, if_pos hc] at hx; exact (List.cons.inj hx).2
      · rw [if_neg hc, if_neg hc] at hx; exact hx)
    rw [this]

theorem leS_trans (hS : SWO lt) (a b c : α) (h1 : leS lt a b = true) (h2 : leS lt b c = true) : leS lt a c = true := by
  simp only [leS, Bool.not_eq_true'] at *
  exact hS.ntrans _ _ _ h2 h1
theorem leS_total (hS : SWO lt) (a b : α) : (leS lt a b || leS lt b a) = true := by
  simp only [leS, Bool.or_eq_true, Bool.not_eq_true']
  cases h : lt b a with
  | false => exact .inl rfl
  | true => exact .inr (by cases h2 : lt a b with
      | false => rfl
      | true => have := hS.trans _ _ _ h h2; rw [hS.irrefl] at this; exact absurd this (by simp))

theorem srt_srtd (hS : SWO lt) (l : List α) : Srt lt (srt lt l) := by
  have := List.pairwise_mergeSort (le := leS lt) (fun a b c => leS_trans hS a b c) (fun a b => leS_total hS a b) l
  exact this.imp fun h => by simpa [leS] using h

theorem srt_perm (l : List α) : (srt lt l).Perm l := List.mergeSort_perm l _
theorem srt_len (l : List α) : (srt lt l).length = l.length := (srt_perm l).length_eq

theorem srt_filter (hS : SWO lt) (x : α) (l : List α) : (srt lt l).filter (eqv lt x) = l.filter (eqv lt x) := by
  have hs : (l.filter (eqv lt x)).Sublist l := List.filter_sublist
  have hp : (l.filter (eqv lt x)).Pairwise (fun a b => leS lt a b = true) := by
    rw [List.pairwise_iff_forall_sublist]
    intro a b hab
    have ha : a ∈ l.filter (eqv lt x) := hab.subset (by simp)
    have hb : b ∈ l.filter (eqv lt x) := hab.subset (by simp)
    have h1 := (List.mem_filter.mp ha).2
    have h2 := (List.mem_filter.mp hb).2
    have := eqv_trans hS (by rw [eqv_comm]; exact h1) h2
    simp only [eqv, Bool.and_eq_true, Bool.not_eq_true'] at this
    simp [leS, this.2]
  have hm := List.sublist_mergeSort (le := leS lt) (fun a b c => leS_trans hS a b c) (fun a b => leS_total hS a b) hp hs
  have hm2 : ((l.filter (eqv lt x)).filter (eqv lt x)).Sublist ((srt lt l).filter (eqv lt x)) := hm.filter _
  rw [List.filter_filter] at hm2
  simp only [Bool.and_self] at hm2
  exact (hm2.eq_of_length ((srt_perm l).filter _).length_eq.symm).symm

theorem srt_of (hS : SWO lt) {l s : List α} (h : Srt lt s) (hf : ∀ x, s.filter (eqv lt x) = l.filter (eqv lt x)) : s = srt lt l :=
  stable_unique hS _ _ h (srt_srtd hS l) fun x => by rw [hf, srt_filter hS]

theorem mg_srt (hS : SWO lt) (a b : List α) : mg lt (srt lt a) (srt lt b) = srt lt (a ++ b) :=
  srt_of hS (mg_srtd hS _ _ (srt_srtd hS _) (srt_srtd hS _)) fun x => by
    rw [mg_filter hS x _ _ (srt_srtd hS _), srt_filter hS, srt_filter hS, List.filter_append]

theorem srt_nil : srt lt ([] : List α) = [] := by simp [srt]
theorem srt_one (x : α) : srt lt [x] = [x] := by simp [srt]

theorem srt_self (hS : SWO lt) {l : List α} (h : Srt lt l) : srt lt l = l := (srt_of hS h fun _ => rfl).symm
/-- The first list whose head no other head comes before. -/
def pick (lt : α → α → Bool) : List (List α) → Option (Nat × α)
  | [] => none
  | [] :: r => (pick lt r).map fun p => (p.1 + 1, p.2)
  | (y :: _) :: r => match pick lt r with
    | none => some (0, y)
    | some p => if lt p.2 y then some (p.1 + 1, p.2) else some (0, y)
theorem pick_none : ∀ ls : List (List α), pick lt ls = none → ls.flatten = []
  | [], _ => rfl
  | [] :: r, h => by
    rw [pick] at h
    have : pick lt r = none := by cases hp : pick lt r with
      | none => rfl
      | some p => rw [hp] at h; cases h
    rw [List.flatten_cons, pick_none r this]; rfl
  | (y :: t) :: r, h => by
    rw [pick] at h
    cases hp : pick lt r with
    | none => rw [hp] at h; cases h
    | some p =>
      rw [hp] at h
      simp only at h
      split at h <;> cases h
/-- What is picked. -/
structure Pick (lt : α → α → Bool) (ls : List (List α)) (k : Nat) (x : α) (A : List (List α)) (t : List α) (B : List (List α)) : Prop where
  is : ls = A ++ (x :: t) :: B
  at_ : A.length = k
  before : ∀ (y : α) (s : List α), (y :: s) ∈ A → lt x y = true
  behind : ∀ (y : α) (s : List α), (y :: s) ∈ B → lt y x = false
theorem asymm' {lt : α → α → Bool} (hS : SWO lt) {x y : α} (h : lt x y = true) : lt y x = false := by
  cases h2 : lt y x with
  | false => rfl
  | true => have := hS.trans _ _ _ h h2; rw [hS.irrefl] at this; cases this
theorem pick_some (hS : SWO lt) : ∀ (ls : List (List α)) (k : Nat) (x : α), pick lt ls = some (k, x) → ∃ A t B, Pick lt ls k x A t B
  | [], k, x, h => by cases h
  | [] :: r, k, x, h => by
    rw [pick] at h
    cases hp : pick lt r with
    | none => rw [hp] at h; cases h
    | some p =>
      rw [hp] at h
      cases h
      obtain ⟨A, t, B, h1, h2, h3, h4⟩ := pick_some hS r p.1 p.2 hp
      refine ⟨[] :: A, t, B, by rw [h1]; rfl, by rw [List.length_cons, h2], fun y s hy => ?_, h4⟩
      rcases List.mem_cons.1 hy with hy | hy
      · cases hy
      · exact h3 y s hy
  | (y :: u) :: r, k, x, h => by
    rw [pick] at h
    cases hp : pick lt r with
    | none =>
      rw [hp] at h
      cases h
      have hf := pick_none r hp
      refine ⟨[], u, r, rfl, rfl, fun y s hy => (by cases hy), fun z s hz => ?_⟩
      have : z ∈ r.flatten := List.mem_flatten.2 ⟨_, hz, List.mem_cons_self ..⟩
      rw [hf] at this; cases this
    | some p =>
      rw [hp] at h
      obtain ⟨A, t, B, h1, h2, h3, h4⟩ := pick_some hS r p.1 p.2 hp
      simp only at h
      by_cases hlt : lt p.2 y = true
      · rw [if_pos hlt] at h
        cases h
        refine ⟨(y :: u) :: A, t, B, by rw [h1]; rfl, by rw [List.length_cons, h2], fun z s hz => ?_, h4⟩
        rcases List.mem_cons.1 hz with hz | hz
        · cases hz; exact hlt
        · exact h3 z s hz
      · rw [if_neg hlt] at h
        cases h
        have hyx : leS lt y p.2 = true := by unfold leS; simpa using hlt
        refine ⟨[], u, r, rfl, rfl, fun y s hy => (by cases hy), fun z s hz => ?_⟩
        have hxz : leS lt p.2 z = true := by
          rw [h1] at hz
          unfold leS
          rcases List.mem_append.1 hz with hz | hz
          · rw [asymm' hS (h3 z s hz)]; rfl
          · rcases List.mem_cons.1 hz with hz | hz
            · cases hz; rw [hS.irrefl]; rfl
            · rw [h4 z s hz]; rfl
        have := leS_trans hS _ _ _ hyx hxz
        unfold leS at this
        simpa using this
/-- Several lists put together: of each step the place of its list, and what it gives. -/
def mergeN (lt : α → α → Bool) : Nat → List (List α) → List (Nat × α)
  | 0, _ => []
  | n + 1, ls => match pick lt ls with
    | none => []
    | some p => p :: mergeN lt n (ls.set p.1 (ls.getD p.1 []).tail)
def mergeF (lt : α → α → Bool) (ls : List (List α)) : List α := (mergeN lt ls.flatten.length ls).map (·.2)
theorem set_mid (A B : List (List α)) (l m : List α) : (A ++ l :: B).set A.length m = A ++ m :: B := by
  rw [List.set_append_right _ _ (Nat.le_refl _), Nat.sub_self]; rfl
theorem getD_mid (A B : List (List α)) (l : List α) : (A ++ l :: B).getD A.length [] = l := by
  rw [List.getD, List.getElem?_append_right (Nat.le_refl _), Nat.sub_self]; rfl
theorem pick_set {ls : List (List α)} {k : Nat} {x : α} {A : List (List α)} {t : List α} {B : List (List α)} (h : Pick lt ls k x A t B) : ls.set k (ls.getD k []).tail = A ++ t :: B := by
  obtain ⟨h1, h2, _, _⟩ := h
  subst h1 h2
  rw [getD_mid, set_mid]; rfl
theorem flat_mid (A B : List (List α)) (x : α) (t : List α) : (A ++ (x :: t) :: B).flatten = A.flatten ++ x :: (t ++ B.flatten) := by
  rw [List.flatten_append, List.flatten_cons]; rfl
theorem mergeN_mem (hS : SWO lt) : ∀ (n : Nat) (ls : List (List α)) (y : α), y ∈ (mergeN lt n ls).map (·.2) → y ∈ ls.flatten
  | 0, ls, y, h => by cases h
  | n + 1, ls, y, h => by
    rw [mergeN] at h
    cases hp : pick lt ls with
    | none => rw [hp] at h; cases h
    | some p =>
      rw [hp] at h
      obtain ⟨A, t, B, hP⟩ := pick_some hS ls p.1 p.2 hp
      simp only at h
      rw [pick_set hP, List.map_cons] at h
      rw [hP.is, flat_mid]
      rcases List.mem_cons.1 h with rfl | h
      · exact List.mem_append_right _ (List.mem_cons_self ..)
      · have := mergeN_mem hS n _ y h
        rw [List.flatten_append, List.flatten_cons] at this
        rcases List.mem_append.1 this with h2 | h2
        · exact List.mem_append_left _ h2
        · exact List.mem_append_right _ (List.mem_cons_of_mem _ h2)
/-- What all that stands in the lists is not before the one that is picked. -/
theorem pick_low (hS : SWO lt) {ls : List (List α)} {k : Nat} {x : α} {A : List (List α)} {t : List α} {B : List (List α)} (h : Pick lt ls k x A t B) (hs : ∀ l ∈ ls, Srt lt l) :
    (∀ z ∈ A.flatten, lt x z = true) ∧ ∀ z ∈ t ++ B.flatten, lt z x = false := by
  have hsub : ∀ l ∈ A ++ (x :: t) :: B, Srt lt l := by rw [← h.is]; exact hs
  constructor
  · intro z hz
    obtain ⟨l, hl, hz⟩ := List.mem_flatten.1 hz
    have hsl := hsub l (List.mem_append_left _ hl)
    cases l with
    | nil => cases hz
    | cons y s =>
      have hxy := h.before y s hl
      rcases List.mem_cons.1 hz with rfl | hz
      · exact hxy
      · have hyz := (List.pairwise_cons.1 hsl).1 z hz
        cases hxz : lt x z with
        | true => rfl
        | false =>
          have := hS.ntrans _ _ _ hxz hyz
          rw [hxy] at this; cases this
  · intro z hz
    rcases List.mem_append.1 hz with hz | hz
    · have hsl := hsub (x :: t) (List.mem_append_right _ (List.mem_cons_self ..))
      exact (List.pairwise_cons.1 hsl).1 z hz
    · obtain ⟨l, hl, hz⟩ := List.mem_flatten.1 hz
      have hsl := hsub l (List.mem_append_right _ (List.mem_cons_of_mem _ hl))
      cases l with
      | nil => cases hz
      | cons y s =>
        have hyx := h.behind y s hl
        rcases List.mem_cons.1 hz with rfl | hz
        · exact hyx
        · exact hS.ntrans _ _ _ ((List.pairwise_cons.1 hsl).1 z hz) hyx
theorem srt_set {ls : List (List α)} {k : Nat} {x : α} {A : List (List α)} {t : List α} {B : List (List α)} (h : Pick lt ls k x A t B) (hs : ∀ l ∈ ls, Srt lt l) : ∀ l ∈ A ++ t :: B, Srt lt l := by
  have hsub : ∀ l ∈ A ++ (x :: t) :: B, Srt lt l := by rw [← h.is]; exact hs
  intro l hl
  rcases List.mem_append.1 hl with hl | hl
  · exact hsub l (List.mem_append_left _ hl)
  · rcases List.mem_cons.1 hl with rfl | hl
    · exact (List.pairwise_cons.1 (hsub _ (List.mem_append_right _ (List.mem_cons_self ..)))).2
    · exact hsub l (List.mem_append_right _ (List.mem_cons_of_mem _ hl))
theorem mergeN_srt (hS : SWO lt) : ∀ (n : Nat) (ls : List (List α)), (∀ l ∈ ls, Srt lt l) → Srt lt ((mergeN lt n ls).map (·.2))
  | 0, ls, _ => List.Pairwise.nil
  | n + 1, ls, hs => by
    rw [mergeN]
    cases hp : pick lt ls with
    | none => exact List.Pairwise.nil
    | some p =>
      obtain ⟨A, t, B, hP⟩ := pick_some hS ls p.1 p.2 hp
      simp only
      rw [pick_set hP, List.map_cons]
      refine List.pairwise_cons.2 ⟨fun z hz => ?_, mergeN_srt hS n _ (srt_set hP hs)⟩
      have hz2 := mergeN_mem hS n _ z hz
      obtain ⟨hA, hB⟩ := pick_low hS hP hs
      rw [List.flatten_append, List.flatten_cons] at hz2
      rcases List.mem_append.1 hz2 with h2 | h2
      · exact asymm' hS (hA z h2)
      · exact hB z h2
theorem mergeN_filter (hS : SWO lt) (x : α) : ∀ (n : Nat) (ls : List (List α)), ls.flatten.length ≤ n → (∀ l ∈ ls, Srt lt l) → ((mergeN lt n ls).map (·.2)).filter (eqv lt x) = ls.flatten.filter (eqv lt x)
  | 0, ls, h, _ => by
    have : ls.flatten = [] := List.eq_nil_of_length_eq_zero (by omega)
    rw [this]; rfl
  | n + 1, ls, h, hs => by
    rw [mergeN]
    cases hp : pick lt ls with
    | none => rw [pick_none ls hp]; rfl
    | some p =>
      obtain ⟨A, t, B, hP⟩ := pick_some hS ls p.1 p.2 hp
      have hfl : ls.flatten = A.flatten ++ p.2 :: (t ++ B.flatten) := by rw [hP.is, flat_mid]
      have ih := mergeN_filter hS x n (A ++ t :: B) (by
        rw [hfl, List.length_append, List.length_cons] at h
        rw [List.flatten_append, List.flatten_cons, List.length_append]; omega) (srt_set hP hs)
      obtain ⟨hA, _⟩ := pick_low hS hP hs
      simp only
      rw [pick_set hP, List.map_cons, hfl, List.filter_cons, ih, List.flatten_append, List.flatten_cons, List.filter_append, List.filter_append (l₁ := A.flatten), List.filter_cons]
      by_cases he : eqv lt x p.2 = true
      · rw [if_pos he, if_pos he]
        have hno : A.flatten.filter (eqv lt x) = [] := by
          rw [List.filter_eq_nil_iff]
          intro z hz hxz
          have h1 := hA z hz
          have h2 : eqv lt p.2 z = true := eqv_trans hS (by rw [eqv_comm]; exact he) hxz
          unfold eqv at h2
          rw [h1] at h2; cases h2
        rw [hno]; rfl
      · rw [if_neg he, if_neg he]
theorem mergeN_len (hS : SWO lt) : ∀ (n : Nat) (ls : List (List α)), ls.flatten.length ≤ n → (mergeN lt n ls).length = ls.flatten.length
  | 0, ls, h => by
    have : ls.flatten = [] := List.eq_nil_of_length_eq_zero (by omega)
    rw [this]; rfl
  | n + 1, ls, h => by
    rw [mergeN]
    cases hp : pick lt ls with
    | none => rw [pick_none ls hp]; rfl
    | some p =>
      obtain ⟨A, t, B, hP⟩ := pick_some hS ls p.1 p.2 hp
      have hfl : ls.flatten = A.flatten ++ p.2 :: (t ++ B.flatten) := by rw [hP.is, flat_mid]
      have hl : ls.flatten.length = (A ++ t :: B).flatten.length + 1 := by
        rw [hfl, List.flatten_append, List.flatten_cons]; simp only [List.length_append, List.length_cons]; omega
      simp only
      rw [pick_set hP, List.length_cons, mergeN_len hS n _ (by omega), hl]
/-- Lists in order, put together, are all their rows in order. -/
theorem merge_srt (hS : SWO lt) (ls : List (List α)) (hs : ∀ l ∈ ls, Srt lt l) : mergeF lt ls = srt lt ls.flatten :=
  srt_of hS (mergeN_srt hS _ ls hs) (fun x => mergeN_filter hS x _ ls (Nat.le_refl _) hs)
/-- However they are put together. -/
theorem merge_parts (hS : SWO lt) (as bs : List (List α)) (ha : ∀ l ∈ as, Srt lt l) (hb : ∀ l ∈ bs, Srt lt l) : mergeF lt [mergeF lt as, mergeF lt bs] = mergeF lt (as ++ bs) := by
  rw [merge_srt hS (as ++ bs) (fun l hl => (List.mem_append.1 hl).elim (ha l) (hb l)), merge_srt hS as ha, merge_srt hS bs hb, merge_srt hS]
  · rw [List.flatten_append]
    refine srt_of hS (srt_srtd hS _) (fun x => ?_)
    rw [srt_filter hS]
    simp only [List.flatten_cons, List.flatten_nil, List.append_nil, List.filter_append, srt_filter hS]
  · intro l hl
    simp only [List.mem_cons, List.not_mem_nil, or_false] at hl
    rcases hl with rfl | rfl <;> exact srt_srtd hS _
/-- Sorted lists, put together, are all rows sorted. -/
theorem merge_sorted (hS : SWO lt) (ls : List (List α)) : mergeF lt (ls.map (srt lt)) = srt lt ls.flatten := by
  rw [merge_srt hS _ (fun l hl => by obtain ⟨m, _, rfl⟩ := List.mem_map.1 hl; exact srt_srtd hS m)]
  refine srt_of hS (srt_srtd hS _) (fun x => ?_)
  rw [srt_filter hS]
  induction ls with
  | nil => rfl
  | cons l ls ih => rw [List.map_cons, List.flatten_cons, List.filter_append, srt_filter hS, ih, List.flatten_cons, List.filter_append]
/-- Each list's place comes as often as it has rows. -/
theorem heads_count (hS : SWO lt) : ∀ (n : Nat) (ls : List (List α)) (i : Nat), ls.flatten.length ≤ n → ((mergeN lt n ls).map (·.1)).count i = (ls.getD i []).length
  | 0, ls, i, h => by
    have hz : ls.flatten = [] := List.eq_nil_of_length_eq_zero (by omega)
    rw [mergeN, List.map_nil, List.count_nil]
    by_cases hi : i < ls.length
    · rw [List.getD, List.getElem?_eq_getElem hi, Option.getD_some]
      have : ls[i] = [] := by
        cases hl : ls[i] with
        | nil => rfl
        | cons y s =>
          have hm : y ∈ ls.flatten := List.mem_flatten.2 ⟨ls[i], List.getElem_mem hi, by rw [hl]; exact List.mem_cons_self ..⟩
          rw [hz] at hm; cases hm
      rw [this]; rfl
    · rw [List.getD, List.getElem?_eq_none (by omega)]; rfl
  | n + 1, ls, i, h => by
    rw [mergeN]
    cases hp : pick lt ls with
    | none =>
      have := heads_count hS 0 ls i (by rw [pick_none ls hp]; exact Nat.le_refl _)
      rw [mergeN] at this
      exact this
    | some p =>
      obtain ⟨A, t, B, hP⟩ := pick_some hS ls p.1 p.2 hp
      have hfl : ls.flatten = A.flatten ++ p.2 :: (t ++ B.flatten) := by rw [hP.is, flat_mid]
      have ih := heads_count hS n (A ++ t :: B) i (by
        rw [hfl, List.length_append, List.length_cons, List.length_append] at h
        rw [List.flatten_append, List.flatten_cons, List.length_append, List.length_append]; omega)
      simp only
      rw [pick_set hP, List.map_cons, List.count_cons, ih, hP.is, ← hP.at_]
      by_cases hi : i = A.length
      · subst hi
        rw [getD_mid, getD_mid, List.length_cons]; simp
      · have hne : (A.length == i) = false := by rw [beq_eq_false_iff_ne]; omega
        rw [hne]
        simp only [Bool.false_eq_true, if_false, Nat.add_zero]
        have : (A ++ t :: B)[i]? = (A ++ (p.2 :: t) :: B)[i]? := by
          rcases Nat.lt_or_ge i A.length with h1 | h1
          · rw [List.getElem?_append_left h1, List.getElem?_append_left h1]
          · rw [List.getElem?_append_right h1, List.getElem?_append_right h1, show i - A.length = (i - A.length - 1) + 1 by omega, List.getElem?_cons_succ, List.getElem?_cons_succ]
        rw [List.getD, List.getD, this]
theorem heads_lt (hS : SWO lt) : ∀ (n : Nat) (ls : List (List α)) (k : Nat), k ∈ (mergeN lt n ls).map (·.1) → k < ls.length
  | 0, ls, k, h => by cases h
  | n + 1, ls, k, h => by
    rw [mergeN] at h
    cases hp : pick lt ls with
    | none => rw [hp] at h; cases h
    | some p =>
      rw [hp] at h
      obtain ⟨A, t, B, hP⟩ := pick_some hS ls p.1 p.2 hp
      simp only at h
      rw [pick_set hP, List.map_cons] at h
      rw [hP.is, List.length_append, List.length_cons]
      rcases List.mem_cons.1 h with rfl | h
      · have := hP.at_; omega
      · have := heads_lt hS n _ k h
        rw [List.length_append, List.length_cons] at this; exact this
end
end Go.Proofs.YtlnlbahggbbaeaaGreat.Stb
