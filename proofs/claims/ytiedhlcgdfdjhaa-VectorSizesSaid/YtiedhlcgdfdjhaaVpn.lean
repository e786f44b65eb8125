/- Vectors without metrics: what is reckoned with them, plain. -/
import Derived.Test.YtiedhlcgdfdjhaaVky
namespace Go.Proofs.Ytiedhlcgdfdjhaa.Vec
open Go.RowKit

def noMet (x : Rw) : Bool := (getL metricT x.1).toList.isEmpty
theorem noMet_key {l : Labs} (h : rightB l = true) (hm : (getL metricT l).toList.isEmpty = true) : keyR 0 [] l = l := by
  have h1 := metI_eq h
  unfold metI at h1
  rw [if_pos (List.isEmpty_iff.1 hm)] at h1
  have h2 : l.filter isM = [] := List.eq_nil_of_length_eq_zero (by omega)
  have e0 : keyR 0 [] l = l.filter (fun x => !isM x) := rfl
  rw [e0, List.filter_eq_self]
  intro a ha
  have := List.filter_eq_nil_iff.1 h2 a ha
  simpa using this
theorem reckA_num {op : ByteArray} (hc : Fix.comparesF op = false) (f : Pr → Int) : ∀ (ps : List Pr) (acc : List Rw), (∀ p ∈ ps, Fix.doF op p.2.2.1 p.2.2.2 = (f p, 0)) → reckA op acc ps = orderR (acc ++ ps.map fun p => (p.2.1, f p))
  | [], acc, _ => by rw [reckA]; simp
  | p :: r, acc, h => by
    rw [reckA_row (h p List.mem_cons_self) hc, reckA_num hc f r _ fun q hq => h q (List.mem_cons_of_mem _ hq)]
    simp
theorem rises_map (f : Rw → Int) {a : List Rw} (h : risesR a = true) : risesR (a.map fun x => (x.1, f x)) = true := by
  rw [rises_iff] at *
  exact List.pairwise_map.2 h
structure NoM (a : List Rw) : Prop where
  right : rightR a = true
  key : ∀ x ∈ a, keyR 0 [] x.1 = x.1
theorem noM_of {xs : List Rw} (c : Rw → Bool) (h : rightR xs = true) (hc : ∀ x, c x = true → noMet x = true) : NoM (xs.filter c) :=
  ⟨right_rows_filter c h, fun x hx => by
    obtain ⟨h1, h2⟩ := List.mem_filter.1 hx
    exact noMet_key ((right_fit h).2.1 x h1).1 (hc x h2)⟩
theorem NoM.map {a : List Rw} (h : NoM a) (f : Rw → Int) (hf : ∀ x ∈ a, Fix.rgt (f x)) : NoM (a.map fun x => (x.1, f x)) := by
  obtain ⟨h1, h2, h3⟩ := right_fit h.right
  refine ⟨right_mk (by rw [List.length_map]; exact h1) (fun y hy => ?_) (rises_map f h3), fun y hy => ?_⟩
  · obtain ⟨x, hx, rfl⟩ := List.mem_map.1 hy
    exact ⟨(h2 x hx).1, hf x hx⟩
  · obtain ⟨x, hx, rfl⟩ := List.mem_map.1 hy
    exact h.key x hx
theorem scale_num {op : ByteArray} {a : List Rw} {v : Int} {left : Bool} (hop : isOpB op = true) (hc : Fix.comparesF op = false) (hv : Fix.rgt v) (ha : NoM a) (f : Rw → Int)
    (h : ∀ x ∈ a, Fix.doF op (if left then v else x.2) (if left then x.2 else v) = (f x, 0)) : scaleR op a v left = (a.map fun x => (x.1, f x), 0) := by
  rw [scale_yes hop (decide_eq_true hv) ha.right, reckA_num hc (fun p => f p.1) _ _ (fun p hp => by
    obtain ⟨x, hxm, rfl⟩ := List.mem_map.1 hp
    have := h x hxm
    unfold pairS
    cases left <;> exact this), List.nil_append, List.map_map]
  have e : a.map ((fun p : Pr => (p.2.1, f p.1)) ∘ pairS v left) = a.map fun x => (x.1, f x) := List.map_congr_left fun x hx => by
    show (keyR 0 [] x.1, f x) = _
    rw [ha.key x hx]
  rw [e]
  exact order_rises (rises_map f (right_fit ha.right).2.2)
theorem within_ok {v : Int} (h : Fix.rgt v) : Fix.withinF v = (v, 0) := by unfold Fix.withinF; rw [if_pos h]
def midC (x : Rw) : Bool := noMet x && (decide (x.2 < 500000000000) && decide (-500000000000 < x.2))
theorem negs_plain {t : List Rw} {v : Int} (ht : rightR t = true) (h1 : ¬ 1000000 < v) (h2 : ¬ v < -1000000) : ∃ n x : List Rw, n.length = (t.filter midC).length ∧ x.length = n.length ∧ rightR n = true ∧ scaleR ⟨#[45]⟩ (t.filter midC) 0 true = (n, 0) ∧ scaleR ⟨#[45]⟩ n 0 true = (t.filter midC, 0) ∧ scaleR ⟨#[45]⟩ (t.filter midC) v true = (x, 0) ∧ scaleR ⟨#[43]⟩ n v false = (x, 0) := by
  have hN := noM_of midC ht (fun x hx => by unfold midC at hx; rw [Bool.and_eq_true] at hx; exact hx.1)
  have hb : ∀ x ∈ t.filter midC, x.2 < 500000000000 ∧ -500000000000 < x.2 := fun x hx => by
    have := (List.mem_filter.1 hx).2
    unfold midC at this
    simp at this
    exact this.2
  obtain ⟨a, ha⟩ : ∃ a, t.filter midC = a := ⟨_, rfl⟩
  rw [ha] at hN hb ⊢
  have hv : Fix.rgt v := ⟨by omega, by omega⟩
  have r1 : ∀ x ∈ a, Fix.rgt (0 - x.2) := fun x hx => by have := hb x hx; exact ⟨by omega, by omega⟩
  have r2 : ∀ x ∈ a, Fix.rgt x.2 := fun x hx => by have := hb x hx; exact ⟨by omega, by omega⟩
  have r3 : ∀ x ∈ a, Fix.rgt (v - x.2) := fun x hx => by have := hb x hx; exact ⟨by omega, by omega⟩
  have hM := hN.map (fun x => 0 - x.2) r1
  have z0 : Fix.rgt 0 := by decide
  refine ⟨a.map (fun x => (x.1, 0 - x.2)), a.map (fun x => (x.1, v - x.2)), by rw [List.length_map], by rw [List.length_map, List.length_map], hM.right, ?_, ?_, ?_, ?_⟩
  · exact scale_num op_sub comp_sub z0 hN _ fun x hx => by
      show Fix.doF _ 0 x.2 = _
      rw [do_sub 0 x.2 z0 (r2 x hx), within_ok (r1 x hx)]
  · rw [scale_num (f := fun x => 0 - x.2) op_sub comp_sub z0 hM fun y hy => by
      obtain ⟨x, hx, rfl⟩ := List.mem_map.1 hy
      show Fix.doF _ 0 (0 - x.2) = _
      rw [do_sub 0 (0 - x.2) z0 (r1 x hx), within_ok (by have := r2 x hx; unfold Fix.rgt at *; omega)], List.map_map]
    have e : a.map ((fun x : Rw => ((x.1, 0 - x.2) : Rw)) ∘ fun x : Rw => (x.1, 0 - x.2)) = a.map id := List.map_congr_left fun x _ => by
      show (x.1, 0 - (0 - x.2)) = x
      rw [show 0 - (0 - x.2) = x.2 by omega]
    rw [e, List.map_id]
  · exact scale_num op_sub comp_sub hv hN _ fun x hx => by
      show Fix.doF _ v x.2 = _
      rw [do_sub v x.2 hv (r2 x hx), within_ok (r3 x hx)]
  · rw [scale_num (f := fun x => x.2 + v) op_add comp_add hv hM fun y hy => by
      obtain ⟨x, hx, rfl⟩ := List.mem_map.1 hy
      show Fix.doF _ (0 - x.2) v = _
      rw [do_add (0 - x.2) v (r1 x hx) hv, within_ok (by have := r3 x hx; unfold Fix.rgt at *; omega)], List.map_map]
    have e : a.map ((fun x : Rw => ((x.1, x.2 + v) : Rw)) ∘ fun x : Rw => (x.1, 0 - x.2)) = a.map fun x => (x.1, v - x.2) := List.map_congr_left fun x _ => by
      show (x.1, 0 - x.2 + v) = _
      rw [show 0 - x.2 + v = v - x.2 by omega]
    rw [e]
theorem findV_self {x : Rw} : ∀ (l : List Rw), (∀ y ∈ l, keyR 0 [] y.1 = y.1) → (∀ y ∈ l, y.1 = x.1 → y = x) → x ∈ l → findV 0 [] x.1 l = some x.2
  | [], _, _, h => by simp at h
  | y :: r, hk, hu, h => by
    rw [findV, hk y List.mem_cons_self]
    by_cases hs : sameL y.1 x.1 = true
    · rw [if_pos hs, hu y List.mem_cons_self ((sameL_iff _ _).1 hs)]
    · rw [if_neg hs]
      refine findV_self r (fun z hz => hk z (List.mem_cons_of_mem _ hz)) (fun z hz => hu z (List.mem_cons_of_mem _ hz)) ?_
      rcases List.mem_cons.1 h with e | h
      · exact absurd ((sameL_iff _ _).2 (by rw [e])) hs
      · exact h
theorem filterMap_map {α β : Type} (f : α → Option β) (g : α → β) : ∀ l : List α, (∀ x ∈ l, f x = some (g x)) → l.filterMap f = l.map g
  | [], _ => rfl
  | x :: r, h => by
    rw [List.filterMap_cons, h x List.mem_cons_self, List.map_cons, filterMap_map f g r fun y hy => h y (List.mem_cons_of_mem _ hy)]
theorem match_self {op : ByteArray} {a : List Rw} (hop : isOpB op = true) (ha : NoM a) : matchR op a a 0 [] = reckA op [] (a.map fun x => (x, x.1, x.2, x.2)) := by
  have h3 := (right_fit ha.right).2.2
  have hk : keysR 0 [] a = a.map (·.1) := List.map_congr_left ha.key
  have ho : onceB (keysR 0 [] a) = true := by
    rw [once_iff, hk, List.nodup_iff_pairwise_ne, List.pairwise_map]
    exact ((rises_iff _).1 h3).imp fun {x y} hxy e => by rw [e, cmpL_self] at hxy; omega
  rw [match_yes hop ha.right ha.right ho ho, filterMap_map (pairM 0 [] a) (fun x => (x, x.1, x.2, x.2)) a fun x hx => ?_]
  unfold pairM
  rw [ha.key x hx, findV_self a ha.key (fun y hy e => same_labs h3 y hy x hx e) hx]; rfl
theorem filter_tt (l : List Pr) : l.filter (fun _ => true) = l := List.filter_eq_self.2 fun _ _ => rfl
theorem filter_ff (l : List Pr) : l.filter (fun _ => false) = [] := by simp
theorem twice_plain {t : List Rw} (ht : rightR t = true) : matchR ⟨#[45]⟩ (t.filter noMet) (t.filter noMet) 0 [] = ((t.filter noMet).map fun x => (x.1, 0), 0) ∧ matchR ⟨#[61, 61]⟩ (t.filter noMet) (t.filter noMet) 0 [] = (t.filter noMet, 0) ∧ matchR ⟨#[33, 61]⟩ (t.filter noMet) (t.filter noMet) 0 [] = ([], 0) := by
  have hN := noM_of noMet ht (fun x hx => hx)
  obtain ⟨a, ha⟩ : ∃ a, t.filter noMet = a := ⟨_, rfl⟩
  rw [ha] at hN ⊢
  obtain ⟨_, h2, h3⟩ := right_fit hN.right
  refine ⟨?_, ?_, ?_⟩
  · rw [match_self op_sub hN, reckA_num comp_sub (fun _ => 0) _ _ (fun p hp => by
      obtain ⟨x, hx, rfl⟩ := List.mem_map.1 hp
      show Fix.doF _ x.2 x.2 = _
      rw [do_sub _ _ (h2 x hx).2 (h2 x hx).2, within_ok (by rw [Int.sub_self]; decide), Int.sub_self]), List.nil_append, List.map_map]
    exact order_rises (rises_map (fun _ => 0) h3)
  · rw [match_self (isOp_of Fix.sign_eq (by decide)) hN, reckA_cmp (comp_of Fix.sign_eq (by decide)) (fun _ => true) _ _ (fun p hp => by
      obtain ⟨x, hx, rfl⟩ := List.mem_map.1 hp
      show Fix.doF _ x.2 x.2 = _
      rw [do_cmp Fix.sign_eq (by decide) (h2 x hx).2 (h2 x hx).2]
      unfold Fix.holdsF; simp), List.nil_append, filter_tt, List.map_map]
    have e : ((fun p : Pr => p.1) ∘ fun x : Rw => ((x, x.1, x.2, x.2) : Pr)) = id := rfl
    rw [e, List.map_id]
    exact order_rises h3
  · rw [match_self (isOp_of Fix.sign_ne (by decide)) hN, reckA_cmp (comp_of Fix.sign_ne (by decide)) (fun _ => false) _ _ (fun p hp => by
      obtain ⟨x, hx, rfl⟩ := List.mem_map.1 hp
      show Fix.doF _ x.2 x.2 = _
      rw [do_cmp Fix.sign_ne (by decide) (h2 x hx).2 (h2 x hx).2]
      unfold Fix.holdsF; simp), List.nil_append, filter_ff]
    exact order_rises rfl
end Go.Proofs.Ytiedhlcgdfdjhaa.Vec
