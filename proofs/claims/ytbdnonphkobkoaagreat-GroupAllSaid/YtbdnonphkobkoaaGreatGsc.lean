/- Groups: counts, sums and means, plain. -/
import Derived.Test.YtbdnonphkobkoaaGreatGsa
namespace Go.Proofs.YtbdnonphkobkoaaGreat.Grp
open Go.RowKit Go.Lib Go.Sort Vec Fix

def mild (z : Int) : Prop := -1000000000 ≤ z ∧ z ≤ 1000000000
theorem mild_rgt {z : Int} (h : mild z) : rgt z := by unfold mild at h; unfold rgt; omega
theorem sum_app : ∀ a b : List Int, (a ++ b).sum = a.sum + b.sum
  | [], b => by simp
  | x :: a, b => by rw [List.cons_append, List.sum_cons, List.sum_cons, sum_app a b]; omega
theorem sum_perm {a b : List Int} (h : a.Perm b) : a.sum = b.sum := by
  induction h with
  | nil => rfl
  | cons x _ ih => rw [List.sum_cons, List.sum_cons, ih]
  | swap x y l => simp only [List.sum_cons]; omega
  | trans _ _ h1 h2 => exact h1.trans h2
theorem low_sum (z : Int) : ∀ zs : List Int, (∀ x ∈ zs, z ≤ x) → z * zs.length ≤ zs.sum
  | [], _ => by simp
  | x :: zs, h => by
    have ih := low_sum z zs fun y hy => h y (by simp [hy])
    have := h x (by simp)
    rw [List.sum_cons, List.length_cons, Int.natCast_succ, Int.mul_add, Int.mul_one]
    omega
theorem high_sum (z : Int) : ∀ zs : List Int, (∀ x ∈ zs, x ≤ z) → zs.sum ≤ z * zs.length
  | [], _ => by simp
  | x :: zs, h => by
    have ih := high_sum z zs fun y hy => h y (by simp [hy])
    have := h x (by simp)
    rw [List.sum_cons, List.length_cons, Int.natCast_succ, Int.mul_add, Int.mul_one]
    omega
theorem div_ge {s lo : Int} {m : Int} (hm : 0 < m) (h : lo * m ≤ s) : lo ≤ s.tdiv m := by
  by_cases hs : 0 ≤ s
  · rw [Int.tdiv_eq_ediv_of_nonneg hs]; exact Int.le_ediv_of_mul_le hm h
  · obtain ⟨t, rfl⟩ : ∃ t, s = -t := ⟨-s, by omega⟩
    rw [Int.neg_tdiv, Int.tdiv_eq_ediv_of_nonneg (by omega)]
    have := Int.ediv_le_of_le_mul (a := t) (b := -lo) hm (by rw [Int.neg_mul]; omega)
    omega
theorem div_le {s hi : Int} {m : Int} (hm : 0 < m) (h : s ≤ hi * m) : s.tdiv m ≤ hi := by
  by_cases hs : 0 ≤ s
  · rw [Int.tdiv_eq_ediv_of_nonneg hs]; exact Int.ediv_le_of_le_mul hm h
  · obtain ⟨t, rfl⟩ : ∃ t, s = -t := ⟨-s, by omega⟩
    rw [Int.neg_tdiv, Int.tdiv_eq_ediv_of_nonneg (by omega)]
    have := Int.le_ediv_of_mul_le (a := -hi) (b := t) hm (by rw [Int.neg_mul]; omega)
    omega

/-- The sum of the first ones. -/
def upK (l : List Rw) (k : Nat) : Int := ((nums l).take k).sum
theorem upK_zero (l : List Rw) : upK l 0 = 0 := rfl
theorem upK_step {l : List Rw} {k : Nat} {x : Rw} (h : l[k]? = some x) : upK l (k + 1) = upK l k + x.2 := by
  have h' : (nums l)[k]? = some x.2 := by unfold nums; rw [List.getElem?_map, h]; rfl
  unfold upK
  rw [take_at h', sum_app]; simp
theorem upK_all {l : List Rw} {n : Nat} (h : l.length = n) : upK l n = (nums l).sum := by
  unfold upK; rw [List.take_of_length_le (by unfold nums; rw [List.length_map, h]; exact Nat.le_refl _)]
theorem upK_lim (B : Int) {l : List Rw} (h : ∀ x ∈ l, -B ≤ x.2 ∧ x.2 ≤ B) (k : Nat) : ∃ m : Nat, m ≤ l.length ∧ -B * m ≤ upK l k ∧ upK l k ≤ B * m := by
  have h1 : ∀ z ∈ (nums l).take k, -B ≤ z ∧ z ≤ B := fun z hz => by
    obtain ⟨x, hx, rfl⟩ := List.mem_map.1 (List.mem_of_mem_take hz)
    exact h x hx
  exact ⟨((nums l).take k).length, by rw [List.length_take]; unfold nums; rw [List.length_map]; omega, low_sum (-B) _ fun z hz => (h1 z hz).1, high_sum B _ fun z hz => (h1 z hz).2⟩

theorem nums_mild {l : List Rw} (h : ∀ x ∈ l, mild x.2) : ∀ z ∈ nums l, mild z := fun z hz => by
  obtain ⟨x, hx, rfl⟩ := List.mem_map.1 hz
  exact h x hx
theorem nums_len (l : List Rw) : (nums l).length = l.length := by unfold nums; exact List.length_map _
theorem mild_sum {zs : List Int} (hl : zs.length ≤ 60) (h : ∀ z ∈ zs, mild z) : -60000000000 ≤ zs.sum ∧ zs.sum ≤ 60000000000 := by
  have h1 := low_sum (-1000000000) zs fun z hz => (h z hz).1
  have h2 := high_sum 1000000000 zs fun z hz => (h z hz).2
  omega
theorem num_avg {zs : List Int} (h0 : zs ≠ []) (hl : zs.length ≤ 60) (hr : ∀ z ∈ zs, mild z) : numF (1, 0) zs = (zs.sum.tdiv zs.length, 0) := by
  show meanF zs = _
  unfold meanF; rw [if_neg h0, if_pos ⟨by omega, fun z hz => mild_rgt (hr z hz)⟩]
theorem num_sum {zs : List Int} (hl : zs.length ≤ 60) (hr : ∀ z ∈ zs, mild z) : numF (0, 0) zs = (zs.sum, 0) := by
  have := mild_sum hl hr
  show sumF zs = _
  unfold sumF withinF; rw [if_pos ⟨by omega, fun z hz => mild_rgt (hr z hz)⟩, if_pos ⟨by omega, by omega⟩]

structure CntAt (c l h m s : Int) : Prop where
  c1 : 1 ≤ c
  c2 : c ≤ 60
  l1 : -1000000000 ≤ l
  l2 : l ≤ m
  h1 : m ≤ h
  h2 : h ≤ 1000000000
  s1 : -60000000000 ≤ s
  s2 : s ≤ 60000000000
  e : m = s.tdiv c
theorem counts_at {mode : Int} {ns : List ByteArray} {xs : List Rw} (h60 : xs.length ≤ 60) (hm : ∀ x ∈ xs, mild x.2) {k : Nat} {c l h m s : Rw} (hc : (valsOf (4, 0) (splitR mode ns xs))[k]? = some c) (hl : (valsOf (2, 0) (splitR mode ns xs))[k]? = some l) (hh : (valsOf (3, 0) (splitR mode ns xs))[k]? = some h) (ha : (valsOf (1, 0) (splitR mode ns xs))[k]? = some m) (hs : (valsOf (0, 0) (splitR mode ns xs))[k]? = some s) : CntAt c.2 l.2 h.2 m.2 s.2 := by
  obtain ⟨g, hg, rfl⟩ := vals_at hc
  obtain ⟨g1, e1, rfl⟩ := vals_at hl
  obtain ⟨g2, e2, rfl⟩ := vals_at hh
  obtain ⟨g3, e3, rfl⟩ := vals_at ha
  obtain ⟨g4, e4, rfl⟩ := vals_at hs
  rw [hg] at e1 e2 e3 e4
  cases e1; cases e2; cases e3; cases e4
  have hmem := List.mem_of_getElem? hg
  have hne := nums_ne (split_ne mode ns xs g hmem)
  have hlen : (nums g.2).length ≤ 60 := by rw [nums_len]; exact Nat.le_trans (group_len hmem) h60
  have hmi := nums_mild fun x hx => hm x (split_mem hmem hx)
  have hpos := List.length_pos_iff.2 hne
  rw [num_avg hne hlen hmi, num_sum hlen hmi]
  obtain ⟨s1, s2⟩ := mild_sum hlen hmi
  have a1 := low_sum _ (nums g.2) fun x hx => Win.min_le x hx
  have a2 := high_sum _ (nums g.2) fun x hx => Win.le_max x hx
  have m1 := (hmi _ (Win.min_mem hne)).1
  have m2 := (hmi _ (Win.max_mem hne)).2
  refine ⟨?_, ?_, m1, div_ge (by omega) a1, div_le (by omega) a2, m2, s1, s2, rfl⟩
  · show (1 : Int) ≤ (nums g.2).length; omega
  · show ((nums g.2).length : Int) ≤ 60; omega
theorem flat_cnt : ∀ gs : List Grp, (nums (valsOf (4, 0) gs)).sum = ((gs.map (·.2)).flatten.length : Int)
  | [] => rfl
  | g :: gs => by
    have ih := flat_cnt gs
    unfold valsOf nums at ih ⊢
    simp only [List.map_cons, List.sum_cons, List.flatten_cons, List.length_append] at ih ⊢
    rw [ih]
    show ((nums g.2).length : Int) + _ = _
    rw [nums_len]; omega
theorem flat_sum : ∀ gs : List Grp, (∀ g ∈ gs, (nums g.2).length ≤ 60 ∧ ∀ z ∈ nums g.2, mild z) → (nums (valsOf (0, 0) gs)).sum = (nums (gs.map (·.2)).flatten).sum
  | [], _ => rfl
  | g :: gs, h => by
    have ih := flat_sum gs fun x hx => h x (by simp [hx])
    obtain ⟨h1, h2⟩ := h g (by simp)
    have e := congrArg Prod.fst (num_sum h1 h2)
    unfold valsOf at ih ⊢
    rw [List.map_cons, List.map_cons, List.flatten_cons]
    show ((numF (0, 0) (nums g.2)).1 :: nums (gs.map fun g => (g.1, (numF (0, 0) (nums g.2)).1))).sum = (nums (g.2 ++ (gs.map (·.2)).flatten)).sum
    rw [List.sum_cons, ih, e]
    unfold nums
    rw [List.map_append, sum_app]
theorem cnt_sum (mode : Int) (ns : List ByteArray) (xs : List Rw) : (nums (valsOf (4, 0) (splitR mode ns xs))).sum = (xs.length : Int) := by
  rw [flat_cnt, (split_perm mode ns xs).length_eq]
theorem sum_sum (mode : Int) (ns : List ByteArray) {xs : List Rw} (h60 : xs.length ≤ 60) (hm : ∀ x ∈ xs, mild x.2) : (nums (valsOf (0, 0) (splitR mode ns xs))).sum = (nums xs).sum := by
  rw [flat_sum _ fun g hg => ⟨by rw [nums_len]; exact Nat.le_trans (group_len hg) h60, nums_mild fun x hx => hm x (split_mem hg hx)⟩]
  exact sum_perm ((split_perm mode ns xs).map _)
theorem agg_avg (n : Int) : aggF ⟨#[97, 118, 103]⟩ n = some (1, 0) := by
  unfold aggF
  rw [if_neg (by decide), if_pos rfl]
theorem agg_sum0 (n : Int) : aggF ⟨#[115, 117, 109]⟩ n = some (0, 0) := by
  unfold aggF
  rw [if_pos rfl]
end Go.Proofs.YtbdnonphkobkoaaGreat.Grp
