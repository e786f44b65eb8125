/- Plain: a stable sort by insertion in blocks, and merging of blocks. -/
import Derived.Sort.Statements
import Derived.Sort.Lot0
import Derived.Sort.LotA
import Derived.Sort.WalkA
namespace Go.Proofs.YtbdnonphkobkoaaGreat.Stb
open Go.Sort

section
variable {α : Type} (lt : α → α → Bool)

def leS (x y : α) : Bool := !lt y x
def mg (l r : List α) : List α := List.merge l r (leS lt)
def srt (l : List α) : List α := l.mergeSort (leS lt)
def Srt (l : List α) : Prop := l.Pairwise fun x y => lt y x = false
def eqv (x y : α) : Bool := !lt x y && !lt y x

theorem mg_nil_left (r : List α) : mg lt [] r = r := by simp [mg]
theorem mg_nil_right (l : List α) : mg lt l [] = l := by simp [mg]
theorem mg_cons (x y : α) (l r : List α) : mg lt (x :: l) (y :: r) = if lt y x then y :: mg lt (x :: l) r else x :: mg lt l (y :: r) := by
  unfold mg
  rw [List.cons_merge_cons]
  cases h : lt y x <;> simp [leS, h]

theorem mg_split : ∀ (a c b d : List α), (∀ l ∈ a, ∀ r ∈ d, lt r l = false) → (∀ r ∈ c, ∀ l ∈ b, lt r l = true) → mg lt (a ++ b) (c ++ d) = mg lt a c ++ mg lt b d
  | [], [], b, d, _, _ => by simp [mg_nil_left]
  | [], y :: c, [], d, _, _ => by simp [mg_nil_left]
  | [], y :: c, z :: b, d, h1, h2 => by
    have ih := mg_split [] c (z :: b) d (fun l h => by simp at h) (fun r hr l hl => h2 r (List.mem_cons_of_mem _ hr) l hl)
    have hz := h2 y List.mem_cons_self z List.mem_cons_self
    simp only [List.nil_append, List.cons_append, mg_nil_left] at ih ⊢
    rw [mg_cons, if_pos hz, ih]
  | x :: a, [], b, [], _, _ => by simp [mg_nil_right]
  | x :: a, [], b, w :: d, h1, h2 => by
    have ih := mg_split a [] b (w :: d) (fun l h r hr => h1 l (List.mem_cons_of_mem _ h) r hr) (fun r hr => by simp at hr)
    have hx := h1 x List.mem_cons_self w List.mem_cons_self
    simp only [List.nil_append, List.cons_append, mg_nil_right] at ih ⊢
    rw [mg_cons, if_neg (by simp [hx]), ih]
  | x :: a, y :: c, b, d, h1, h2 => by
    simp only [List.cons_append]
    rw [mg_cons, mg_cons]
    by_cases h : lt y x = true
    · rw [if_pos h, if_pos h]
      have ih := mg_split (x :: a) c b d h1 (fun r hr l hl => h2 r (List.mem_cons_of_mem _ hr) l hl)
      simp only [List.cons_append] at ih ⊢
      rw [ih]
    · rw [if_neg h, if_neg h]
      have ih := mg_split a (y :: c) b d (fun l hl r hr => h1 l (List.mem_cons_of_mem _ hl) r hr) h2
      simp only [List.cons_append] at ih ⊢
      rw [ih]
  termination_by a c => a.length + c.length

theorem mg_one_left (x : α) (c d : List α) (h1 : ∀ r ∈ c, lt r x = true) (h2 : ∀ r ∈ d, lt r x = false) : mg lt [x] (c ++ d) = c ++ x :: d := by
  have e := mg_split lt [] c [x] d (fun l h => by simp at h) (fun r hr l hl => by simp at hl; subst hl; exact h1 r hr)
  have e2 := mg_split lt [x] [] [] d (fun l h r hr => by simp at h; subst h; exact h2 r hr) (fun r hr => by simp at hr)
  simp only [List.nil_append, List.append_nil, mg_nil_left, mg_nil_right] at e e2
  rw [e, e2]; rfl

theorem mg_one_right (y : α) (a b : List α) (h1 : ∀ l ∈ a, lt y l = false) (h2 : ∀ l ∈ b, lt y l = true) : mg lt (a ++ b) [y] = a ++ y :: b := by
  have e := mg_split lt a [y] b [] (fun l _ r hr => by simp at hr) (fun r hr l hl => by simp at hr; subst hr; exact h2 l hl)
  have e2 := mg_split lt a [] [] [y] (fun l h r hr => by simp at hr; subst hr; exact h1 l h) (fun r hr => by simp at hr)
  simp only [List.nil_append, List.append_nil, mg_nil_left, mg_nil_right] at e e2
  rw [e, e2, List.append_assoc]; rfl

theorem mg_done (a d : List α) (h : ∀ l ∈ a, ∀ r ∈ d, lt r l = false) : mg lt a d = a ++ d := by
  have e := mg_split lt a [] [] d h (fun r hr => by simp at hr)
  simp only [List.nil_append, List.append_nil, mg_nil_left, mg_nil_right] at e
  exact e

theorem mg_len (a b : List α) : (mg lt a b).length = a.length + b.length := by
  unfold mg; exact List.length_merge ..

variable {lt}
theorem mg_filter (hS : SWO lt) (x : α) : ∀ (l r : List α), Srt lt l → (mg lt l r).filter (eqv lt x) = l.filter (eqv lt x) ++ r.filter (eqv lt x)
  | [], r, _ => by simp [mg_nil_left]
  | l, [], _ => by simp [mg_nil_right]
  | a :: l, b :: r, h => by
    rw [mg_cons]
    by_cases hb : lt b a = true
    · rw [if_pos hb, List.filter_cons, mg_filter hS x (a :: l) r h]
      by_cases he : eqv lt x b = true
      · rw [if_pos he]
        have hnone : (a :: l).filter (eqv lt x) = [] := by
          rw [List.filter_eq_nil_iff]
          intro z hz hxz
          have hza : lt z a = false := by
            rcases List.mem_cons.mp hz with rfl | hz
            · exact hS.irrefl _
            · exact (List.pairwise_cons.mp h).1 z hz
          have hbz : lt b z = true := by
            cases hc : lt b z with
            | true => rfl
            | false => have := hS.ntrans b z a hc hza; rw [hb] at this; exact absurd this (by simp)
          simp only [eqv, Bool.and_eq_true, Bool.not_eq_true'] at he hxz
          have : lt b z = false := hS.ntrans b x z he.2 hxz.1
          rw [hbz] at this; exact absurd this (by simp)
        rw [hnone]
        simp [he]
      · simp [List.filter_cons, he]
    · rw [if_neg hb, List.filter_cons, mg_filter hS x l (b :: r) (List.pairwise_cons.mp h).2]
      by_cases he : eqv lt x a = true <;> simp [List.filter_cons, he]
  termination_by l r => l.length + r.length

theorem mg_mem {l r : List α} {z : α} : z ∈ mg lt l r ↔ z ∈ l ∨ z ∈ r := by
  unfold mg; exact List.mem_merge

theorem mg_srtd (hS : SWO lt) : ∀ (l r : List α), Srt lt l → Srt lt r → Srt lt (mg lt l r)
  | [], r, _, h => by rw [mg_nil_left]; exact h
  | l, [], h, _ => by rw [mg_nil_right]; exact h
  | a :: l, b :: r, h1, h2 => by
    rw [mg_cons]
    have g1 := List.pairwise_cons.mp h1
    have g2 := List.pairwise_cons.mp h2
    by_cases hb : lt b a = true
    · rw [if_pos hb]
      have hab : lt a b = false := by
        cases hc : lt a b with
        | false => rfl
        | true => have := hS.trans a b a hc hb; rw [hS.irrefl] at this; exact absurd this (by simp)
      refine List.pairwise_cons.mpr ⟨?_, mg_srtd hS (a :: l) r h1 g2.2⟩
      intro z hz
      rcases mg_mem.mp hz with hz | hz
      · rcases List.mem_cons.mp hz with rfl | hz
        · exact hab
        · exact hS.ntrans _ _ _ (g1.1 z hz) hab
      · exact g2.1 z hz
    · rw [if_neg hb]
      have hb' : lt b a = false := by simpa using hb
      refine List.pairwise_cons.mpr ⟨?_, mg_srtd hS l (b :: r) g1.2 h2⟩
      intro z hz
      rcases mg_mem.mp hz with hz | hz
      · exact g1.1 z hz
      · rcases List.mem_cons.mp hz with rfl | hz
        · exact hb'
        · exact hS.ntrans _ _ _ (g2.1 z hz) hb'
  termination_by l r => l.length + r.length

theorem eqv_self (hS : SWO lt) (x : α) : eqv lt x x = true := by simp [eqv, hS.irrefl]
theorem eqv_comm (x y : α) : eqv lt x y = eqv lt y x := by unfold eqv; rw [Bool.and_comm]
theorem eqv_trans (hS : SWO lt) {x y z : α} (h1 : eqv lt x y = true) (h2 : eqv lt y z = true) : eqv lt x z = true := by
  simp only [eqv, Bool.and_eq_true, Bool.not_eq_true'] at *
  exact ⟨hS.ntrans _ _ _ h1.1 h2.1, hS.ntrans _ _ _ h2.2 h1.2⟩

theorem stable_unique (hS : SWO lt) : ∀ (ys zs : List α), Srt lt ys → Srt lt zs → (∀ x, ys.filter (eqv lt x) = zs.filter (eqv lt x)) → ys = zs
  | [], [], _, _, _ => rfl
  | [], z :: zs, _, _, h => by have := h z; simp [eqv_self hS] at this
  | y :: ys, [], _, _, h => by have := h y; simp [eqv_self hS] at this
  | y :: ys, z :: zs, h1, h2, h => by
    have g1 := List.pairwise_cons.mp h1
    have g2 := List.pairwise_cons.mp h2
    have low : ∀ {a : α} {l : List α}, (∀ c ∈ l, lt c a = false) → ∀ c ∈ a :: l, lt c a = false := fun hl c hc => by
      rcases List.mem_cons.mp hc with rfl | hc
      · exact hS.irrefl _
      · exact hl c hc
    have hy : y ∈ z :: zs := by
      have : y ∈ (z :: zs).filter (eqv lt y) := by rw [← h y]; simp [eqv_self hS]
      exact (List.mem_filter.mp this).1
    have hz : z ∈ y :: ys := by
      have : z ∈ (y :: ys).filter (eqv lt z) := by rw [h z]; simp [eqv_self hS]
      exact (List.mem_filter.mp this).1
    have e1 : lt y z = false := low g2.1 y hy
    have e2 : lt z y = false := low g1.1 z hz
    have hyz : eqv lt y z = true := by simp [eqv, e1, e2]
    have hf := h y
    rw [List.filter_cons, List.filter_cons, if_pos (eqv_self hS y), if_pos hyz] at hf
    have e : y = z := (List.cons.inj hf).1
    subst e
    have := stable_unique hS ys zs g1.2 g2.2 (fun x => by
      have hx := h x
      rw [List.filter_cons, List.filter_cons] at hx
      by_cases hc : eqv lt x y = true
      · rw [if_pos hc, if_pos hc] at hx; exact (List.cons.inj hx).2
      · rw [if_neg hc, if_neg hc] at hx; exact hx)
    rw [this]

theorem leS_trans (hS : SWO lt) (a b c : α) (h1 : leS lt a b = true) (h2 : leS lt b c = true) : leS lt a c = true := by
  simp only [leS, Bool.not_eq_true'] at *
  exact hS.ntrans _ _ _ h2 h1
theorem leS_total (hS : SWO lt) (a b : α) : (leS lt a b || leS lt b a) = true := by
  simp only [leS, Bool.or_eq_true, Bool.not_eq_true']
  cases h : lt b a with
  | false => exact .inl rfl
  | true => exact .inr (by cases h2 : lt a b with
      | false => rfl
      | true => have := hS.trans _ _ _ h h2; rw [hS.irrefl] at this; exact absurd this (by simp))

theorem srt_srtd (hS : SWO lt) (l : List α) : Srt lt (srt lt l) := by
  have := List.pairwise_mergeSort (le := leS lt) (fun a b c => leS_trans hS a b c) (fun a b => leS_total hS a b) l
  exact this.imp fun h => by simpa [leS] using h

theorem srt_perm (l : List α) : (srt lt l).Perm l := List.mergeSort_perm l _
theorem srt_len (l : List α) : (srt lt l).length = l.length := (srt_perm l).length_eq

theorem srt_filter (hS : SWO lt) (x : α) (l : List α) : (srt lt l).filter (eqv lt x) = l.filter (eqv lt x) := by
  have hs : (l.filter (eqv lt x)).Sublist l := List.filter_sublist
  have hp : (l.filter (eqv lt x)).Pairwise (fun a b => leS lt a b = true) := by
    rw [List.pairwise_iff_forall_sublist]
    intro a b hab
    have ha : a ∈ l.filter (eqv lt x) := hab.subset (by simp)
    have hb : b ∈ l.filter (eqv lt x) := hab.subset (by simp)
    have h1 := (List.mem_filter.mp ha).2
    have h2 := (List.mem_filter.mp hb).2
    have := eqv_trans hS (by rw [eqv_comm]; exact h1) h2
    simp only [eqv, Bool.and_eq_true, Bool.not_eq_true'] at this
    simp [leS, this.2]
  have hm := List.sublist_mergeSort (le := leS lt) (fun a b c => leS_trans hS a b c) (fun a b => leS_total hS a b) hp hs
  have hm2 : ((l.filter (eqv lt x)).filter (eqv lt x)).Sublist ((srt lt l).filter (eqv lt x)) := hm.filter _
  rw [List.filter_filter] at hm2
  simp only [Bool.and_self] at hm2
  exact (hm2.eq_of_length ((srt_perm l).filter _).length_eq.symm).symm

theorem srt_of (hS : SWO lt) {l s : List α} (h : Srt lt s) (hf : ∀ x, s.filter (eqv lt x) = l.filter (eqv lt x)) : s = srt lt l :=
  stable_unique hS _ _ h (srt_srtd hS l) fun x => by rw [hf, srt_filter hS]

theorem mg_srt (hS : SWO lt) (a b : List α) : mg lt (srt lt a) (srt lt b) = srt lt (a ++ b) :=
  srt_of hS (mg_srtd hS _ _ (srt_srtd hS _) (srt_srtd hS _)) fun x => by
    rw [mg_filter hS x _ _ (srt_srtd hS _), srt_filter hS, srt_filter hS, List.filter_append]

theorem srt_nil : srt lt ([] : List α) = [] := by simp [srt]
theorem srt_one (x : α) : srt lt [x] = [x] := by simp [srt]

theorem srt_self (hS : SWO lt) {l : List α} (h : Srt lt l) : srt lt l = l := (srt_of hS h fun _ => rfl).symm
end

section
variable {α : Type} [Inhabited α]
theorem bang_mid (P S : List α) (x : α) : (P ++ x :: S).toArray[P.length]! = x := by
  simp

theorem bang_mid' {l P S : List α} {x : α} (h : l = P ++ x :: S) {i : Nat} (hi : i = P.length) : l.toArray[i]! = x := by
  subst h hi; exact bang_mid P S x

theorem swp_list {l P Q S : List α} {x y : α} {i j : Nat} (h : l = P ++ x :: (Q ++ y :: S)) (hi : i = P.length) (hj : j = P.length + 1 + Q.length) :
    swp l.toArray i j = (P ++ y :: (Q ++ x :: S)).toArray := by
  have h1 : l.toArray[i]! = x := bang_mid' h hi
  have h2 : l.toArray[j]! = y := bang_mid' (P := P ++ x :: Q) (S := S) (by rw [h]; simp) (by rw [hj]; simp; omega)
  unfold swp
  rw [h1, h2]
  subst hi hj h
  apply Array.toList_inj.mp
  simp only [Array.toList_setIfInBounds]
  rw [List.set_append_right _ _ (Nat.le_refl _), Nat.sub_self, List.set_cons_zero,
    List.set_append_right _ _ (by omega), show P.length + 1 + Q.length - P.length = Q.length + 1 by omega, List.set_cons_succ,
    List.set_append_right _ _ (Nat.le_refl _), Nat.sub_self, List.set_cons_zero]

theorem swp_list' {l P Q S : List α} {x y : α} {i j : Nat} (h : l = P ++ x :: (Q ++ y :: S)) (hi : i = P.length) (hj : j = P.length + 1 + Q.length) :
    swp l.toArray j i = (P ++ y :: (Q ++ x :: S)).toArray := by
  have h1 : l.toArray[i]! = x := bang_mid' h hi
  have h2 : l.toArray[j]! = y := bang_mid' (P := P ++ x :: Q) (S := S) (by rw [h]; simp) (by rw [hj]; simp; omega)
  unfold swp
  rw [h1, h2]
  subst hi hj h
  apply Array.toList_inj.mp
  simp only [Array.toList_setIfInBounds]
  rw [List.set_append_right _ _ (by omega), show P.length + 1 + Q.length - P.length = Q.length + 1 by omega, List.set_cons_succ,
    List.set_append_right _ _ (Nat.le_refl _), Nat.sub_self, List.set_cons_zero,
    List.set_append_right _ _ (Nat.le_refl _), Nat.sub_self, List.set_cons_zero]

variable {lt : α → α → Bool}
omit [Inhabited α] in
theorem srtd_last (hS : SWO lt) {l : List α} {y x : α} (h : Srt lt (l ++ [y])) (hx : lt x y = false) : ∀ z ∈ l ++ [y], lt x z = false := by
  intro z hz
  rcases List.mem_append.mp hz with hz | hz
  · have := (List.pairwise_append.mp h).2.2 z hz y (by simp)
    exact hS.ntrans _ _ _ hx this
  · simp at hz; subst hz; exact hx

theorem insInner_list (hS : SWO lt) (P : List α) (x : α) : ∀ (n : Nat) (Y S : List α), Y.length = n → Srt lt Y → insInner lt P.length (P.length + n) (P ++ (Y ++ x :: S)).toArray = (P ++ (mg lt Y [x] ++ S)).toArray
  | 0, Y, S, hn, _ => by
    have : Y = [] := List.length_eq_zero_iff.mp hn
    subst this
    rw [insInner_stop _ _ _ _ (.inl (by omega)), mg_nil_left]; rfl
  | n + 1, Y, S, hn, hs => by
    obtain ⟨Y', y, rfl⟩ : ∃ Y' y, Y = Y' ++ [y] := ⟨Y.dropLast, Y.getLast (by intro h; subst h; simp at hn), (List.dropLast_concat_getLast _).symm⟩
    have hn' : Y'.length = n := by simpa using hn
    have eL : P ++ (Y' ++ [y] ++ x :: S) = (P ++ Y') ++ y :: ([] ++ x :: S) := by simp
    have e1 : (P ++ (Y' ++ [y] ++ x :: S)).toArray[P.length + (n + 1)]! = x := bang_mid' (P := P ++ Y' ++ [y]) (S := S) (by simp) (by simp; omega)
    have e2 : (P ++ (Y' ++ [y] ++ x :: S)).toArray[P.length + (n + 1) - 1]! = y := bang_mid' eL (by simp; omega)
    cases hl : lt x y with
    | true =>
      rw [insInner_go lt _ _ _ (by omega) (by rw [e1, e2]; exact hl)]
      rw [swp_list' eL (by simp; omega) (by simp; omega)]
      have ih := insInner_list hS P x n Y' (y :: S) hn' (List.pairwise_append.mp hs).1
      have em : mg lt (Y' ++ [y]) [x] = mg lt Y' [x] ++ [y] := by
        have e := mg_split lt Y' [x] [y] [] (fun l _ r hr => by simp at hr) (fun r hr l hl2 => by simp at hr hl2; subst hr; subst hl2; exact hl)
        simpa [mg_nil_right] using e
      rw [em, show P.length + (n + 1) - 1 = P.length + n by omega]
      simp only [List.append_assoc, List.cons_append, List.nil_append] at ih ⊢
      exact ih
    | false =>
      rw [insInner_stop _ _ _ _ (.inr (by rw [e1, e2]; exact hl))]
      have em : mg lt (Y' ++ [y]) [x] = Y' ++ [y] ++ [x] := mg_done lt _ _ (fun l hl2 r hr => by simp at hr; subst hr; exact srtd_last hS hs hl l hl2)
      rw [em]; simp

theorem insOuter_list (hS : SWO lt) (P S : List α) : ∀ (m : Nat) (A X : List α), X.length = m → insOuter lt P.length (P.length + A.length + X.length) (P.length + A.length) (P ++ (srt lt A ++ (X ++ S))).toArray = (P ++ (srt lt (A ++ X) ++ S)).toArray
  | 0, A, X, hX => by
    have : X = [] := List.length_eq_zero_iff.mp hX
    subst this
    rw [insOuter_stop _ _ _ _ _ (by simp)]; simp
  | m + 1, A, [], hX => by simp at hX
  | m + 1, A, x :: X, hX => by
    rw [insOuter_go _ _ _ _ _ (by simp)]
    have hi := insInner_list hS P x A.length (srt lt A) (X ++ S) (srt_len A) (srt_srtd hS A)
    simp only [List.cons_append] at hi ⊢
    rw [hi]
    have em : mg lt (srt lt A) [x] = srt lt (A ++ [x]) := by
      have := mg_srt hS A [x]; rwa [srt_one] at this
    rw [em]
    have ih := insOuter_list hS P S m (A ++ [x]) X (by simpa using hX)
    simp only [List.length_append, List.length_cons, List.length_nil, List.append_assoc, List.cons_append, List.nil_append, Nat.zero_add] at ih
    rw [← ih]
    simp only [List.length_cons]
    congr 1 <;> omega

theorem insertion_list (hS : SWO lt) {l P X S : List α} {a b : Nat} (hl : l = P ++ (X ++ S)) (ha : a = P.length) (hb : b = P.length + X.length) :
    insertionSort lt l.toArray a b = (P ++ (srt lt X ++ S)).toArray := by
  subst hl ha hb
  unfold insertionSort
  cases X with
  | nil => rw [insOuter_stop _ _ _ _ _ (by simp)]; simp [srt_nil]
  | cons x X =>
    have := insOuter_list hS P S X.length [x] X rfl
    simp only [srt_one, List.length_cons, List.length_nil, Nat.zero_add, List.cons_append, List.nil_append] at this
    rw [← this]
    simp only [List.length_cons, List.cons_append]
    congr 1 <;> omega
end
end Go.Proofs.YtbdnonphkobkoaaGreat.Stb
