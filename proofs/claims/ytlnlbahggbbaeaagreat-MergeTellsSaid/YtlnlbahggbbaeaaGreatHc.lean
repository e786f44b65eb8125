/- Plain: a tree of losers tells which list's head comes next. -/
import Derived.Test.YtlnlbahggbbaeaaGreatHa
namespace Go.Proofs.YtlnlbahggbbaeaaGreat.Stb
open Go.Sort

section
variable {α : Type} (lt : α → α → Bool)

/-- Does the head of list a go out ahead of the one of list b? -/
def aheadT (ls : List (List α)) (a b : Nat) : Bool :=
  match ls.getD a [], ls.getD b [] with
  | [], _ => false
  | _ :: _, [] => true
  | x :: _, y :: _ => if a < b then !lt y x else lt x y
/-- One number turned. -/
def updT (f : Nat → Nat) (k v : Nat) (j : Nat) : Nat := if j = k then v else f j
/-- The node beside a node. -/
def sibT (x : Nat) : Nat := if x % 2 = 0 then x + 1 else x - 1
def NodeT (ls : List (List α)) (los W : Nat → Nat) (j : Nat) : Prop :=
  ((W j = W (2 * j) ∧ los j = W (2 * j + 1)) ∨ (W j = W (2 * j + 1) ∧ los j = W (2 * j))) ∧ aheadT lt ls (los j) (W j) = false
/-- The whole tree: W tells who won at each node. -/
structure TreeT (ls : List (List α)) (n : Nat) (los W : Nat → Nat) : Prop where
  leaf : ∀ i, i < n → W (n + i) = i
  wb : ∀ j, j < 2 * n → W j < n
  node : ∀ j, 1 ≤ j → j < n → NodeT lt ls los W j
  top : los 0 = W 1
/-- It is built down to a node. -/
structure BuildT (ls : List (List α)) (n : Nat) (los W : Nat → Nat) (v : Nat) : Prop where
  leaf : ∀ i, i < n → W (n + i) = i
  wb : ∀ j, j < 2 * n → W j < n
  node : ∀ j, v < j → j < n → NodeT lt ls los W j
/-- A leaf has turned; from node c on upward the nodes are still of before. -/
structure ClimbT (ls : List (List α)) (n : Nat) (los W : Nat → Nat) (c pl : Nat) : Prop where
  c1 : 1 ≤ c
  c2 : c < 2 * n
  leaf : ∀ i, i < n → W (n + i) = i
  wb : ∀ j, j < 2 * n → W j < n
  here : W c = pl
  off : ∀ j, 1 ≤ j → j < n → (∀ k, c / 2 ^ (k + 1) ≠ j) → NodeT lt ls los W j
  on : ∀ k, 1 ≤ c / 2 ^ (k + 1) → los (c / 2 ^ (k + 1)) = W (sibT (c / 2 ^ k))
/-- Who wins, and who loses. -/
def holdT (ls : List (List α)) (a b : Nat) : Nat × Nat := if aheadT lt ls a b = true then (a, b) else (b, a)

variable {lt}
theorem updT_same (f : Nat → Nat) (k v : Nat) : updT f k v k = v := by simp [updT]
theorem updT_other (f : Nat → Nat) {k v j : Nat} (h : j ≠ k) : updT f k v j = f j := by simp [updT, h]
theorem div_pow_succ (c k : Nat) : c / 2 ^ (k + 1) = c / 2 ^ k / 2 := by rw [Nat.pow_succ, Nat.div_div_eq_div_mul]
theorem div_pow_succ' (c k : Nat) : c / 2 ^ (k + 1) = c / 2 / 2 ^ k := by rw [Nat.pow_succ, Nat.mul_comm, Nat.div_div_eq_div_mul]
theorem to_one : ∀ x : Nat, 1 ≤ x → ∃ k, x / 2 ^ k = 1 := by
  intro x
  induction x using Nat.strongRecOn with
  | ind x ih =>
    intro h
    by_cases h1 : x = 1
    · exact ⟨0, by rw [h1]⟩
    · obtain ⟨k, hk⟩ := ih (x / 2) (by omega) (by omega)
      exact ⟨k + 1, by rw [div_pow_succ', hk]⟩

theorem ahead_irrefl (hS : SWO lt) (ls : List (List α)) (a : Nat) : aheadT lt ls a a = false := by
  unfold aheadT
  cases ls.getD a [] with
  | nil => rfl
  | cons x t => simp [hS.irrefl]
theorem ahead_asymm (hS : SWO lt) (ls : List (List α)) (a b : Nat) (h : aheadT lt ls a b = true) : aheadT lt ls b a = false := by
  cases ha : ls.getD a [] with
  | nil => unfold aheadT at h; rw [ha] at h; cases h
  | cons x t =>
    cases hb : ls.getD b [] with
    | nil => unfold aheadT; rw [ha, hb]
    | cons y u =>
      unfold aheadT at h ⊢
      rw [ha, hb] at h ⊢
      simp only at h ⊢
      by_cases h1 : a < b
      · rw [if_pos h1] at h
        rw [if_neg (by omega)]
        simpa using h
      · rw [if_neg h1] at h
        by_cases h2 : b < a
        · rw [if_pos h2]; simp [h]
        · have : a = b := by omega
          subst this
          rw [ha] at hb
          cases hb
          rw [hS.irrefl] at h; cases h
theorem ahead_ntrans (hS : SWO lt) (ls : List (List α)) (a b c : Nat) (h1 : aheadT lt ls a b = false) (h2 : aheadT lt ls b c = false) : aheadT lt ls a c = false := by
  cases ha : ls.getD a [] with
  | nil => unfold aheadT; rw [ha]
  | cons x t =>
    cases hb : ls.getD b [] with
    | nil => unfold aheadT at h1; rw [ha, hb] at h1; cases h1
    | cons y u =>
      cases hc : ls.getD c [] with
      | nil => unfold aheadT at h2; rw [hb, hc] at h2; cases h2
      | cons z v =>
        unfold aheadT at h1 h2 ⊢
        rw [ha, hb] at h1
        rw [hb, hc] at h2
        rw [ha, hc]
        simp only at h1 h2 ⊢
        by_cases q1 : a < b
        · rw [if_pos q1] at h1
          have h1 : lt y x = true := by simpa using h1
          by_cases q2 : b < c
          · rw [if_pos q2] at h2
            rw [if_pos (by omega), hS.trans z y x (by simpa using h2) h1]; rfl
          · rw [if_neg q2] at h2
            by_cases q3 : a < c
            · rw [if_pos q3]
              cases e : lt z x with
              | true => rfl
              | false => have := hS.ntrans y z x h2 e; rw [h1] at this; cases this
            · rw [if_neg q3]
              cases e : lt x z with
              | false => rfl
              | true => have := hS.trans y x z h1 e; rw [h2] at this; cases this
        · rw [if_neg q1] at h1
          by_cases q2 : b < c
          · rw [if_pos q2] at h2
            have h2 : lt z y = true := by simpa using h2
            by_cases q3 : a < c
            · rw [if_pos q3]
              cases e : lt z x with
              | true => rfl
              | false => have := hS.ntrans z x y e h1; rw [h2] at this; cases this
            · rw [if_neg q3]
              cases e : lt x z with
              | false => rfl
              | true => have := hS.trans x z y e h2; rw [h1] at this; cases this
          · rw [if_neg q2] at h2
            rw [if_neg (by omega)]; exact hS.ntrans x y z h1 h2
theorem ahead_set {ls : List (List α)} {p a b : Nat} {t : List α} (ha : a ≠ p) (hb : b ≠ p) : aheadT lt (ls.set p t) a b = aheadT lt ls a b := by
  have key : ∀ x, x ≠ p → (ls.set p t).getD x [] = ls.getD x [] := fun x hx => by
    rw [List.getD, List.getElem?_set_ne (Ne.symm hx), List.getD]
  unfold aheadT
  rw [key a ha, key b hb]

theorem hold_ok (hS : SWO lt) (ls : List (List α)) (a b : Nat) : aheadT lt ls (holdT lt ls a b).2 (holdT lt ls a b).1 = false := by
  unfold holdT
  by_cases h : aheadT lt ls a b = true
  · rw [if_pos h]; exact ahead_asymm hS ls a b h
  · rw [if_neg h]; simpa using h
theorem hold_or (ls : List (List α)) (a b : Nat) : holdT lt ls a b = (a, b) ∨ holdT lt ls a b = (b, a) := by
  unfold holdT
  by_cases h : aheadT lt ls a b = true
  · rw [if_pos h]; exact .inl rfl
  · rw [if_neg h]; exact .inr rfl

/-- A step of building. -/
theorem BuildT.step (hS : SWO lt) {ls : List (List α)} {n : Nat} {los W : Nat → Nat} {v : Nat} (h : BuildT lt ls n los W (v + 1)) (hv : v + 1 < n) :
    BuildT lt ls n (updT los (v + 1) (holdT lt ls (W (2 * (v + 1))) (W (2 * (v + 1) + 1))).2) (updT W (v + 1) (holdT lt ls (W (2 * (v + 1))) (W (2 * (v + 1) + 1))).1) v := by
  have hq := hold_or (lt := lt) ls (W (2 * (v + 1))) (W (2 * (v + 1) + 1))
  have hk := hold_ok hS ls (W (2 * (v + 1))) (W (2 * (v + 1) + 1))
  obtain ⟨q, hq'⟩ : ∃ q, holdT lt ls (W (2 * (v + 1))) (W (2 * (v + 1) + 1)) = q := ⟨_, rfl⟩
  rw [hq'] at hq hk ⊢
  have w1 := h.wb (2 * (v + 1)) (by omega)
  have w2 := h.wb (2 * (v + 1) + 1) (by omega)
  refine ⟨fun i hi => by rw [updT_other _ (by omega)]; exact h.leaf i hi, fun j hj => ?_, fun j h1 h2 => ?_⟩
  · by_cases e : j = v + 1
    · subst e; rw [updT_same]; rcases hq with e | e <;> rw [e] <;> assumption
    · rw [updT_other _ e]; exact h.wb j hj
  · by_cases e : j = v + 1
    · subst e
      unfold NodeT
      rw [updT_same, updT_same, updT_other _ (by omega), updT_other _ (by omega)]
      refine ⟨?_, hk⟩
      rcases hq with e | e <;> rw [e]
      · exact .inl ⟨rfl, rfl⟩
      · exact .inr ⟨rfl, rfl⟩
    · have := h.node j (by omega) h2
      unfold NodeT at this ⊢
      rw [updT_other _ e, updT_other _ e, updT_other _ (by omega), updT_other _ (by omega)]
      exact this
/-- It is built. -/
theorem BuildT.done {ls : List (List α)} {n : Nat} {los W : Nat → Nat} (h : BuildT lt ls n los W 0) : TreeT lt ls n (updT los 0 (W 1)) W :=
  ⟨h.leaf, h.wb, fun j h1 h2 => by
    have := h.node j (by omega) h2
    unfold NodeT at this ⊢
    rw [updT_other _ (by omega)]; exact this, updT_same ..⟩

/-- Who wins at a node stands below it. -/
theorem TreeT.under {ls : List (List α)} {n : Nat} {los W : Nat → Nat} (h : TreeT lt ls n los W) : ∀ d j, 2 * n - j = d → 1 ≤ j → j < 2 * n → ∃ k, (n + W j) / 2 ^ k = j := by
  intro d
  induction d using Nat.strongRecOn with
  | ind d ih =>
    intro j hd h1 h2
    by_cases hj : n ≤ j
    · refine ⟨0, ?_⟩
      have := h.leaf (j - n) (by omega)
      rw [show n + (j - n) = j by omega] at this
      rw [this, Nat.pow_zero, Nat.div_one]; omega
    · have hn := (h.node j h1 (by omega)).1
      rcases hn with ⟨e, _⟩ | ⟨e, _⟩
      · obtain ⟨k, hk⟩ := ih (2 * n - 2 * j) (by omega) (2 * j) rfl (by omega) (by omega)
        exact ⟨k + 1, by rw [e, div_pow_succ, hk]; omega⟩
      · obtain ⟨k, hk⟩ := ih (2 * n - (2 * j + 1)) (by omega) (2 * j + 1) rfl (by omega) (by omega)
        exact ⟨k + 1, by rw [e, div_pow_succ, hk]; omega⟩
/-- None below a node goes out ahead of who wins there. -/
theorem TreeT.low (hS : SWO lt) {ls : List (List α)} {n : Nat} {los W : Nat → Nat} (h : TreeT lt ls n los W) : ∀ d j, 2 * n - j = d → 1 ≤ j → j < 2 * n → ∀ q, q < n → ∀ k, (n + q) / 2 ^ k = j → aheadT lt ls q (W j) = false := by
  intro d
  induction d using Nat.strongRecOn with
  | ind d ih =>
    intro j hd h1 h2 q hq k hk
    cases k with
    | zero =>
      rw [Nat.pow_zero, Nat.div_one] at hk
      rw [← hk, h.leaf q hq]; exact ahead_irrefl hS ls q
    | succ k =>
      have hk2 := hk
      rw [div_pow_succ] at hk2
      obtain ⟨m, hm⟩ : ∃ m, (n + q) / 2 ^ k = m := ⟨_, rfl⟩
      have hmle : m ≤ n + q := by rw [← hm]; exact Nat.div_le_self ..
      rw [hm] at hk2
      have hjn : j < n := by omega
      have hmb : m < 2 * n := by omega
      have h3 := ih (2 * n - m) (by omega) m rfl (by omega) hmb q hq k hm
      refine ahead_ntrans hS ls q (W m) (W j) h3 ?_
      have hn := h.node j h1 hjn
      rcases (show m = 2 * j ∨ m = 2 * j + 1 by omega) with e | e <;> subst e <;> rcases hn with ⟨⟨e1, e2⟩ | ⟨e1, e2⟩, e3⟩
      · rw [e1]; exact ahead_irrefl hS ..
      · rw [← e2]; exact e3
      · rw [← e2]; exact e3
      · rw [e1]; exact ahead_irrefl hS ..
theorem TreeT.first (hS : SWO lt) {ls : List (List α)} {n : Nat} {los W : Nat → Nat} (h : TreeT lt ls n los W) (q : Nat) (hq : q < n) : aheadT lt ls q (W 1) = false := by
  obtain ⟨k, hk⟩ := to_one (n + q) (by omega)
  exact h.low hS _ 1 rfl (Nat.le_refl _) (by omega) q hq k hk
theorem getD_some {ls : List (List α)} {p : Nat} {x : α} {t : List α} (h : ls.getD p [] = x :: t) : ∃ A B, ls = A ++ (x :: t) :: B ∧ A.length = p := by
  have hp : p < ls.length := by
    rcases Nat.lt_or_ge p ls.length with h1 | h1
    · exact h1
    · rw [List.getD, List.getElem?_eq_none h1] at h; cases h
  refine ⟨ls.take p, ls.drop (p + 1), ?_, by rw [List.length_take]; omega⟩
  have : ls[p] = x :: t := by rw [List.getD, List.getElem?_eq_getElem hp] at h; exact h
  rw [← this, ← List.drop_eq_getElem_cons hp, List.take_append_drop]
theorem mem_getD {ls : List (List α)} {l : List α} (h : l ∈ ls) : ∃ i, i < ls.length ∧ ls.getD i [] = l := by
  obtain ⟨i, hi, e⟩ := List.getElem_of_mem h
  exact ⟨i, hi, by rw [List.getD, List.getElem?_eq_getElem hi]; exact e⟩
/-- What is picked is picked. -/
theorem pick_of (hS : SWO lt) {ls : List (List α)} {k : Nat} {x : α} {A : List (List α)} {t : List α} {B : List (List α)} (h : Pick lt ls k x A t B) : pick lt ls = some (k, x) := by
  cases hp : pick lt ls with
  | none =>
    have := pick_none ls hp
    rw [h.is, flat_mid] at this
    simp at this
  | some p =>
    obtain ⟨A2, t2, B2, h2⟩ := pick_some hS ls p.1 p.2 hp
    have e := h.is.symm.trans h2.is
    have at1 := h.at_
    have at2 := h2.at_
    have g1 : ls[k]? = some (x :: t) := by rw [h.is, ← at1, List.getElem?_append_right (Nat.le_refl _), Nat.sub_self]; rfl
    have g2 : ls[p.1]? = some (p.2 :: t2) := by rw [h2.is, ← at2, List.getElem?_append_right (Nat.le_refl _), Nat.sub_self]; rfl
    have inA : ∀ {A t B : List (List α)} {y : List α} {i : Nat}, i < A.length → (A ++ B)[i]? = some y → y ∈ A := fun hi hy => by
      rw [List.getElem?_append_left hi] at hy; exact List.mem_of_getElem? hy
    have inB : ∀ {A B : List (List α)} {y z : List α} {i : Nat}, A.length < i → (A ++ z :: B)[i]? = some y → y ∈ B := fun {A B y z i} hi hy => by
      rw [List.getElem?_append_right (by omega), show i - A.length = (i - A.length - 1) + 1 by omega, List.getElem?_cons_succ] at hy
      exact List.mem_of_getElem? hy
    rcases Nat.lt_trichotomy k p.1 with hk | hk | hk
    · have m1 : (x :: t) ∈ A2 := by
        rw [h2.is] at g1
        rw [List.getElem?_append_left (by omega)] at g1
        exact List.mem_of_getElem? g1
      have m2 : (p.2 :: t2) ∈ B := by
        rw [h.is] at g2
        exact inB (by omega) g2
      have f1 := h2.before x t m1
      have f2 := h.behind p.2 t2 m2
      rw [f1] at f2; cases f2
    · rw [← hk, g1] at g2
      cases g2
      rw [hk]
    · have m1 : (x :: t) ∈ B2 := by
        rw [h2.is] at g1
        exact inB (by omega) g1
      have m2 : (p.2 :: t2) ∈ A := by
        rw [h.is] at g2
        rw [List.getElem?_append_left (by omega)] at g2
        exact List.mem_of_getElem? g2
      have f1 := h2.behind x t m1
      have f2 := h.before p.2 t2 m2
      rw [f1] at f2; cases f2
/-- The tree's first one is the one that is picked. -/
theorem TreeT.picks (hS : SWO lt) {ls : List (List α)} {n : Nat} {los W : Nat → Nat} (h : TreeT lt ls n los W) (hn : ls.length = n) {x : α} {t : List α} (hx : ls.getD (W 1) [] = x :: t) : pick lt ls = some (W 1, x) := by
  obtain ⟨A, B, e1, e2⟩ := getD_some hx
  refine pick_of hS ⟨e1, e2, fun y s hy => ?_, fun y s hy => ?_⟩
  · obtain ⟨i, hi, hg⟩ := mem_getD hy
    have hlen : i < ls.length := by rw [e1, List.length_append]; omega
    have hg2 : ls.getD i [] = y :: s := by rw [e1, List.getD, List.getElem?_append_left hi, ← List.getD]; exact hg
    have := h.first hS i (by omega)
    unfold aheadT at this
    rw [hg2, hx] at this
    simp only at this
    rw [if_pos (by omega)] at this
    simpa using this
  · obtain ⟨i, hi, hg⟩ := mem_getD hy
    have hlen : A.length + (i + 1) < ls.length := by rw [e1, List.length_append, List.length_cons]; omega
    have hg2 : ls.getD (A.length + (i + 1)) [] = y :: s := by
      rw [e1, List.getD, List.getElem?_append_right (by omega), show A.length + (i + 1) - A.length = i + 1 by omega, List.getElem?_cons_succ, ← List.getD]; exact hg
    have := h.first hS (A.length + (i + 1)) (by omega)
    unfold aheadT at this
    rw [hg2, hx] at this
    simp only at this
    rw [if_neg (by omega)] at this
    exact this
theorem TreeT.over (hS : SWO lt) {ls : List (List α)} {n : Nat} {los W : Nat → Nat} (h : TreeT lt ls n los W) (hn : ls.length = n) (hx : ls.getD (W 1) [] = []) : ls.flatten = [] := by
  rw [List.flatten_eq_nil_iff]
  intro l hl
  obtain ⟨i, hi, hg⟩ := mem_getD hl
  have := h.first hS i (by omega)
  unfold aheadT at this
  rw [hg, hx] at this
  cases l with
  | nil => rfl
  | cons x t => cases this

/-- The first one's leaf turns. -/
theorem TreeT.turn {ls : List (List α)} {n : Nat} {los W : Nat → Nat} (h : TreeT lt ls n los W) (h1n : 1 ≤ n) (t : List α) : ClimbT lt (ls.set (W 1) t) n los W (n + W 1) (W 1) := by
  have hW1 : W 1 < n := h.wb 1 (by omega)
  obtain ⟨K, hK⟩ := to_one (n + W 1) (by omega)
  have inj : ∀ a b : Nat, 1 ≤ (n + W 1) / 2 ^ a → (n + W 1) / 2 ^ a = (n + W 1) / 2 ^ b → a = b := by
    have aux : ∀ (x a d : Nat), 1 ≤ x / 2 ^ a → x / 2 ^ (a + d + 1) < x / 2 ^ a := fun x a d hx => by
      rw [show a + d + 1 = a + (d + 1) by omega, Nat.pow_add, ← Nat.div_div_eq_div_mul]
      have : 2 ≤ 2 ^ (d + 1) := by rw [Nat.pow_succ]; have := Nat.one_le_two_pow (n := d); omega
      exact Nat.div_lt_self (by omega) (by omega)
    intro a b ha e
    rcases Nat.lt_trichotomy a b with hl | hl | hl
    · obtain ⟨d, hd⟩ : ∃ d, b = a + d + 1 := ⟨b - a - 1, by omega⟩
      have := aux (n + W 1) a d ha
      rw [← hd] at this; omega
    · exact hl
    · obtain ⟨d, hd⟩ : ∃ d, a = b + d + 1 := ⟨a - b - 1, by omega⟩
      have := aux (n + W 1) b d (by omega)
      rw [← hd] at this; omega
  -- along the path it won everywhere
  have path : ∀ d k, k + d = K → W ((n + W 1) / 2 ^ k) = W 1 ∧ (1 ≤ d → (n + W 1) / 2 ^ k < 2 * n) := by
    intro d
    induction d with
    | zero => intro k hk; rw [show k = K by omega, hK]; exact ⟨rfl, fun h => by omega⟩
    | succ d ih =>
      intro k hk
      obtain ⟨i1, _⟩ := ih (k + 1) (by omega)
      obtain ⟨j, hj⟩ : ∃ j, (n + W 1) / 2 ^ (k + 1) = j := ⟨_, rfl⟩
      obtain ⟨c, hc⟩ : ∃ c, (n + W 1) / 2 ^ k = c := ⟨_, rfl⟩
      have hcle : c ≤ n + W 1 := by rw [← hc]; exact Nat.div_le_self ..
      have hjc : c / 2 = j := by rw [← hj, ← hc, div_pow_succ]
      have hj1 : 1 ≤ j := by
        rw [← hj]
        have e : (n + W 1) / 2 ^ K = 1 := hK
        have hle : 2 ^ (k + 1) ≤ 2 ^ K := Nat.pow_le_pow_right (by omega) (by omega)
        have : (n + W 1) / 2 ^ K ≤ (n + W 1) / 2 ^ (k + 1) := Nat.div_le_div_left hle (Nat.two_pow_pos _)
        omega
      have hjn : j < n := by omega
      rw [hj] at i1
      rw [hc]
      refine ⟨?_, fun _ => by omega⟩
      have un : ∀ x, x < 2 * n → x / 2 = j → W x = W 1 → x = c := fun x hx hx2 e => by
        obtain ⟨m, hm⟩ := h.under _ x rfl (by omega) hx
        rw [e] at hm
        have : m = k := by
          have := inj (m + 1) (k + 1) (by rw [div_pow_succ, hm]; omega) (by rw [div_pow_succ, hm, hj]; exact hx2)
          omega
        rw [this, hc] at hm; exact hm.symm
      rcases (h.node j hj1 hjn).1 with ⟨e, _⟩ | ⟨e, _⟩
      · have := un (2 * j) (by omega) (by omega) (by rw [← e, i1])
        rw [← this, ← e, i1]
      · have := un (2 * j + 1) (by omega) (by omega) (by rw [← e, i1])
        rw [← this, ← e, i1]
  refine ⟨by omega, by omega, h.leaf, h.wb, h.leaf _ hW1, fun j h1 h2 hk => ?_, fun k hk => ?_⟩
  · have hn := h.node j h1 h2
    have no : ∀ x, x / 2 = j → x < 2 * n → W x ≠ W 1 := fun x hx hx2 e => by
      obtain ⟨m, hm⟩ := h.under _ x rfl (by omega) hx2
      rw [e] at hm
      exact hk m (by rw [div_pow_succ, hm]; exact hx)
    have n1 := no (2 * j) (by omega) (by omega)
    have n2 := no (2 * j + 1) (by omega) (by omega)
    refine ⟨hn.1, ?_⟩
    rw [ahead_set]
    · exact hn.2
    · rcases hn.1 with ⟨_, e⟩ | ⟨_, e⟩ <;> rw [e] <;> assumption
    · rcases hn.1 with ⟨e, _⟩ | ⟨e, _⟩ <;> rw [e] <;> assumption
  · have hkK : k + 1 ≤ K := by
      rcases Nat.lt_or_ge K (k + 1) with hl | hl
      · exfalso
        obtain ⟨d, hd⟩ : ∃ d, k + 1 = K + d + 1 := ⟨k - K, by omega⟩
        have : (n + W 1) / 2 ^ (k + 1) = 0 := by
          rw [hd, show K + d + 1 = K + (d + 1) by omega, Nat.pow_add, ← Nat.div_div_eq_div_mul, hK]
          apply Nat.div_eq_of_lt
          have := Nat.one_le_two_pow (n := d)
          rw [Nat.pow_succ]; omega
        omega
      · exact hl
    obtain ⟨p1, p2⟩ := path (K - k) k (by omega)
    obtain ⟨p3, _⟩ := path (K - (k + 1)) (k + 1) (by omega)
    have p2' := p2 (by omega)
    obtain ⟨j, hj⟩ : ∃ j, (n + W 1) / 2 ^ (k + 1) = j := ⟨_, rfl⟩
    obtain ⟨c, hc⟩ : ∃ c, (n + W 1) / 2 ^ k = c := ⟨_, rfl⟩
    have hjc : c / 2 = j := by rw [← hj, ← hc, div_pow_succ]
    rw [hj] at p3 hk ⊢
    rw [hc] at p1 p2' ⊢
    have hjn : j < n := by omega
    have ne : ∀ x y, x < 2 * n → y < 2 * n → x / 2 = j → y / 2 = j → x ≠ y → W x = W 1 → W y ≠ W 1 := fun x y hx hy ex ey hxy e1 e2 => by
      obtain ⟨a, ha⟩ := h.under _ x rfl (by omega) hx
      obtain ⟨b, hb⟩ := h.under _ y rfl (by omega) hy
      rw [e1] at ha
      rw [e2] at hb
      have := inj (a + 1) (b + 1) (by rw [div_pow_succ, ha]; omega) (by rw [div_pow_succ, ha, div_pow_succ, hb, ex, ey])
      have : a = b := by omega
      rw [this, hb] at ha; exact hxy ha.symm
    unfold sibT
    rcases (h.node j hk hjn).1 with ⟨e, e2⟩ | ⟨e, e2⟩
    · have e3 : c = 2 * j := by
        rcases (show c = 2 * j ∨ c = 2 * j + 1 by omega) with e4 | e4
        · exact e4
        · exact absurd (by rw [← e4]; exact p1) (ne (2 * j) (2 * j + 1) (by omega) (by omega) (by omega) (by omega) (by omega) (by rw [← e, p3]))
      rw [e3, if_pos (by omega), e2]
    · have e3 : c = 2 * j + 1 := by
        rcases (show c = 2 * j ∨ c = 2 * j + 1 by omega) with e4 | e4
        · exact absurd (by rw [← e4]; exact p1) (ne (2 * j + 1) (2 * j) (by omega) (by omega) (by omega) (by omega) (by omega) (by rw [← e, p3]))
        · exact e4
      rw [e3, if_neg (by omega), e2, Nat.add_sub_cancel]

theorem ClimbT.los_lt {ls : List (List α)} {n : Nat} {los W : Nat → Nat} {c pl : Nat} (h : ClimbT lt ls n los W c pl) (j : Nat) (h1 : 1 ≤ j) (h2 : j < n) : los j < n := by
  by_cases hk : ∃ k, c / 2 ^ (k + 1) = j
  · obtain ⟨k, hk⟩ := hk
    have := h.on k (by omega)
    rw [hk] at this
    rw [this]
    refine h.wb _ ?_
    rw [div_pow_succ] at hk
    unfold sibT
    split <;> omega
  · have := h.off j h1 h2 (fun k e => hk ⟨k, e⟩)
    rcases this.1 with ⟨_, e⟩ | ⟨_, e⟩ <;> rw [e] <;> exact h.wb _ (by omega)
/-- A step of climbing. -/
theorem ClimbT.step (hS : SWO lt) {ls : List (List α)} {n : Nat} {los W : Nat → Nat} {c pl : Nat} (h : ClimbT lt ls n los W c pl) (hc : 1 ≤ c / 2) :
    ClimbT lt ls n (updT los (c / 2) (holdT lt ls pl (los (c / 2))).2) (updT W (c / 2) (holdT lt ls pl (los (c / 2))).1) (c / 2) (holdT lt ls pl (los (c / 2))).1 := by
  have hq := hold_or (lt := lt) ls pl (los (c / 2))
  have hk := hold_ok hS ls pl (los (c / 2))
  have c2 := h.c2
  have hl := h.on 0 (by simpa using hc)
  have hh := h.here
  rw [Nat.pow_zero, Nat.div_one, Nat.zero_add, Nat.pow_one] at hl
  have hpl : pl < n := by rw [← hh]; exact h.wb c c2
  have hlo : los (c / 2) < n := h.los_lt _ hc (by omega)
  obtain ⟨q, hq'⟩ : ∃ q, holdT lt ls pl (los (c / 2)) = q := ⟨_, rfl⟩
  rw [hq'] at hq hk ⊢
  obtain ⟨v, hv⟩ : ∃ v, c / 2 = v := ⟨_, rfl⟩
  rw [hv] at hq hl hc hlo ⊢
  refine ⟨hc, by omega, fun i hi => by rw [updT_other _ (by omega)]; exact h.leaf i hi, fun j hj => ?_, updT_same .., fun j h1 h2 h3 => ?_, fun k h1 => ?_⟩
  · by_cases e : j = v
    · subst e; rw [updT_same]; rcases hq with e | e <;> rw [e] <;> assumption
    · rw [updT_other _ e]; exact h.wb j hj
  · by_cases e : j = v
    · subst e
      unfold NodeT
      rw [updT_same, updT_same, updT_other _ (by omega), updT_other _ (by omega)]
      refine ⟨?_, hk⟩
      have hsib : (c = 2 * j ∧ sibT c = 2 * j + 1) ∨ (c = 2 * j + 1 ∧ sibT c = 2 * j) := by
        unfold sibT
        split
        · left; omega
        · right; omega
      rcases hsib with ⟨s1, s2⟩ | ⟨s1, s2⟩ <;> rw [s1] at hh <;> rw [s2] at hl <;> rw [hl] at hq <;> rcases hq with e | e <;> rw [e, ← hh]
      · exact .inl ⟨rfl, rfl⟩
      · exact .inr ⟨rfl, rfl⟩
      · exact .inr ⟨rfl, rfl⟩
      · exact .inl ⟨rfl, rfl⟩
    · have no : ∀ k, c / 2 ^ (k + 1) ≠ j := fun k e2 => by
        cases k with
        | zero => rw [Nat.zero_add, Nat.pow_one, hv] at e2; exact e e2.symm
        | succ k => exact h3 k (by rw [← hv, ← div_pow_succ']; exact e2)
      have := h.off j h1 h2 no
      have d2 : j ≠ v / 2 := fun e2 => h3 0 (by rw [Nat.zero_add, Nat.pow_one]; exact e2.symm)
      unfold NodeT at this ⊢
      rw [updT_other _ e, updT_other _ e, updT_other _ (by omega), updT_other _ (by omega)]
      exact this
  · have e1 : v / 2 ^ (k + 1) = c / 2 ^ (k + 1 + 1) := by rw [div_pow_succ' c (k + 1), hv]
    have e2 : v / 2 ^ k = c / 2 ^ (k + 1) := by rw [div_pow_succ' c k, hv]
    have := h.on (k + 1) (by rw [← e1]; exact h1)
    rw [← e1, ← e2] at this
    have e3 : v / 2 ^ (k + 1) = v / 2 ^ k / 2 := div_pow_succ v k
    obtain ⟨x, hx⟩ : ∃ x, v / 2 ^ k = x := ⟨_, rfl⟩
    have hxv : k = 0 ∧ x = v ∨ x ≤ v / 2 := by
      cases k with
      | zero => left; exact ⟨rfl, by rw [← hx, Nat.pow_zero, Nat.div_one]⟩
      | succ k => right; rw [← hx, div_pow_succ']; exact Nat.div_le_self ..
    rw [e3, hx] at this h1 ⊢
    rw [updT_other, updT_other]
    · exact this
    · unfold sibT
      split <;> rcases hxv with ⟨_, e⟩ | e <;> omega
    · rcases hxv with ⟨_, e⟩ | e <;> omega
/-- At the top. -/
theorem ClimbT.done {ls : List (List α)} {n : Nat} {los W : Nat → Nat} {c pl : Nat} (h : ClimbT lt ls n los W c pl) (hc : c / 2 = 0) : TreeT lt ls n (updT los 0 pl) W := by
  have h1 := h.c1
  have : c = 1 := by omega
  subst this
  refine ⟨h.leaf, h.wb, fun j h1 h2 => ?_, by rw [updT_same, h.here]⟩
  have := h.off j h1 h2 (fun k e => by
    rw [div_pow_succ', show 1 / 2 = 0 by rfl, Nat.zero_div] at e; omega)
  unfold NodeT at this ⊢
  rw [updT_other _ (by omega)]; exact this
/-- What comes, one by one. -/
theorem mergeN_next (hS : SWO lt) {ls : List (List α)} {p : Nat × α} (hp : pick lt ls = some p) :
    mergeN lt ls.flatten.length ls = p :: mergeN lt (ls.set p.1 (ls.getD p.1 []).tail).flatten.length (ls.set p.1 (ls.getD p.1 []).tail) := by
  obtain ⟨A, t, B, hP⟩ := pick_some hS ls p.1 p.2 hp
  have h1 : ls.flatten.length = (ls.set p.1 (ls.getD p.1 []).tail).flatten.length + 1 := by
    rw [pick_set hP, hP.is, flat_mid, List.flatten_append, List.flatten_cons]
    simp only [List.length_append, List.length_cons]; omega
  rw [h1, mergeN, hp]
theorem mergeN_over {ls : List (List α)} (h : ls.flatten = []) : mergeN lt ls.flatten.length ls = [] := by rw [h]; rfl
end
end Go.Proofs.YtlnlbahggbbaeaaGreat.Stb
