/- Sums of two vectors, and what is added and taken away: plain. -/
import Derived.Test.YtiedhlcgdfdjhaaVtw
namespace Go.Proofs.Ytiedhlcgdfdjhaa.Vec
open Go.RowKit

theorem findV_some_iff {mode : Int} {ns : List ByteArray} {key : Labs} {v : Int} : ∀ {b : List Rw}, (keysR mode ns b).Nodup → (findV mode ns key b = some v ↔ ∃ y ∈ b, keyR mode ns y.1 = key ∧ y.2 = v)
  | [], _ => by simp [findV]
  | y :: r, hn => by
    have hn2 := hn
    rw [keysR, List.map_cons, List.nodup_cons] at hn2
    have ih := findV_some_iff (key := key) (v := v) (b := r) hn2.2
    rw [findV]
    by_cases hs : sameL (keyR mode ns y.1) key = true
    · have he := (sameL_iff _ _).1 hs
      rw [if_pos hs]
      constructor
      · intro h; cases h; exact ⟨y, List.mem_cons_self, he, rfl⟩
      · rintro ⟨z, hz, hk, rfl⟩
        rcases List.mem_cons.1 hz with rfl | hz
        · rfl
        · exact absurd (List.mem_map.2 ⟨z, hz, hk.trans he.symm⟩) hn2.1
    · rw [if_neg hs, ih]
      constructor
      · rintro ⟨z, hz, h⟩; exact ⟨z, List.mem_cons_of_mem _ hz, h⟩
      · rintro ⟨z, hz, hk, hv⟩
        rcases List.mem_cons.1 hz with rfl | hz
        · exact absurd ((sameL_iff _ _).2 hk) hs
        · exact ⟨z, hz, hk, hv⟩
theorem reck_over {op : ByteArray} (hc : Fix.comparesF op = false) (f : Pr → Int) : ∀ (ps : List Pr) (acc : List Rw), (∀ p ∈ ps, Fix.doF op p.2.2.1 p.2.2.2 = Fix.withinF (f p)) → (∃ p ∈ ps, ¬ Fix.rgt (f p)) → reckA op acc ps = ([], 4)
  | [], _, _, h => by obtain ⟨p, hp, _⟩ := h; simp at hp
  | p :: r, acc, hd, h => by
    have hp := hd p List.mem_cons_self
    by_cases hr : Fix.rgt (f p)
    · rw [within_ok hr] at hp
      rw [reckA_row hp hc]
      refine reck_over hc f r _ (fun q hq => hd q (List.mem_cons_of_mem _ hq)) ?_
      obtain ⟨q, hq, hn⟩ := h
      rcases List.mem_cons.1 hq with rfl | hq
      · exact absurd hr hn
      · exact ⟨q, hq, hn⟩
    · have e : Fix.withinF (f p) = (0, 4) := by unfold Fix.withinF; rw [if_neg hr]
      rw [e] at hp
      exact reckA_stop hp (by decide)
theorem order_perm {l m : List Rw} (h : l.Perm m) : orderR l = orderR m := by
  have h1 := order_any ((sortR_perm l).trans h) (sortR_sorted l)
  rw [h1]; rfl
theorem order_nodup {l : List Rw} (h : (l.map (·.1)).Nodup) : orderR l = (sortR l, 0) ∧ risesR (sortR l) = true := by
  have h1 : ((sortR l).map (·.1)).Nodup := ((sortR_perm l).map _).nodup_iff.2 h
  rw [List.nodup_iff_pairwise_ne, List.pairwise_map] at h1
  have h2 : risesR (sortR l) = true := by
    rw [rises_iff]
    refine ((sortR_sorted l).and h1).imp fun {x y} ⟨ha, hb⟩ => ?_
    rw [leR_iff] at ha
    have : cmpL x.1 y.1 ≠ 0 := fun e => hb ((cmpL_zero _ _).1 e)
    omega
  exact ⟨by unfold orderR; rw [if_pos h2], h2⟩
theorem key_again (ns : List ByteArray) (l : Labs) : keyR 1 ns (keyR 1 ns l) = keyR 1 ns l := by
  show (l.filter (inB ns)).filter (inB ns) = l.filter (inB ns)
  rw [List.filter_filter]; congr 1; funext x; exact Bool.and_self _
/-- The pairs of two vectors. -/
def prs (ns : List ByteArray) (a b : List Rw) : List Pr := a.filterMap (pairM 1 ns b)
theorem prs_mem {ns : List ByteArray} {a b : List Rw} (hb : (keysR 1 ns b).Nodup) (p : Pr) : p ∈ prs ns a b ↔ ∃ x ∈ a, ∃ y ∈ b, keyR 1 ns y.1 = keyR 1 ns x.1 ∧ p = (x, keyR 1 ns x.1, x.2, y.2) := by
  unfold prs
  rw [List.mem_filterMap]
  constructor
  · rintro ⟨x, hx, hp⟩
    unfold pairM at hp
    obtain ⟨v, hv, rfl⟩ := Option.map_eq_some_iff.1 hp
    obtain ⟨y, hy, hk, rfl⟩ := (findV_some_iff hb).1 hv
    exact ⟨x, hx, y, hy, hk, rfl⟩
  · rintro ⟨x, hx, y, hy, hk, rfl⟩
    refine ⟨x, hx, ?_⟩
    unfold pairM
    rw [(findV_some_iff hb).2 ⟨y, hy, hk, rfl⟩]; rfl
theorem prs_nodup {ns : List ByteArray} {b : List Rw} : ∀ {a : List Rw}, (keysR 1 ns a).Nodup → ((prs ns a b).map (·.2.1)).Nodup
  | [], _ => by simp [prs]
  | x :: r, h => by
    rw [keysR, List.map_cons, List.nodup_cons] at h
    have ih := prs_nodup (b := b) (a := r) h.2
    have e : prs ns (x :: r) b = (pairM 1 ns b x).toList ++ prs ns r b := by
      unfold prs
      rw [List.filterMap_cons]
      cases pairM 1 ns b x <;> rfl
    rw [e]
    cases hp : pairM 1 ns b x with
    | none => simpa using ih
    | some p =>
      have hk : p.2.1 = keyR 1 ns x.1 := by
        unfold pairM at hp
        obtain ⟨v, _, rfl⟩ := Option.map_eq_some_iff.1 hp
        rfl
      rw [Option.toList_some, List.map_append, List.map_singleton, List.singleton_append, List.nodup_cons]
      refine ⟨fun hm => ?_, ih⟩
      obtain ⟨q, hq, hqk⟩ := List.mem_map.1 hm
      unfold prs at hq
      obtain ⟨z, hz, hzp⟩ := List.mem_filterMap.1 hq
      unfold pairM at hzp
      obtain ⟨v, _, rfl⟩ := Option.map_eq_some_iff.1 hzp
      refine h.1 (List.mem_map.2 ⟨z, hz, ?_⟩)
      rw [← hk, ← hqk]
def sumP (p : Pr) : Int := p.2.2.1 + p.2.2.2
def sums (ns : List ByteArray) (a b : List Rw) : List Rw := (prs ns a b).map fun p => (p.2.1, sumP p)
theorem sums_labs (ns : List ByteArray) (a b : List Rw) : (sums ns a b).map (·.1) = (prs ns a b).map (·.2.1) := by unfold sums; rw [List.map_map]; rfl
theorem sums_mem {ns : List ByteArray} {a b : List Rw} (hb : (keysR 1 ns b).Nodup) (r : Rw) : r ∈ sums ns a b ↔ ∃ x ∈ a, ∃ y ∈ b, keyR 1 ns y.1 = keyR 1 ns x.1 ∧ r = (keyR 1 ns x.1, x.2 + y.2) := by
  unfold sums
  rw [List.mem_map]
  constructor
  · rintro ⟨p, hp, rfl⟩
    obtain ⟨x, hx, y, hy, hk, rfl⟩ := (prs_mem hb p).1 hp
    exact ⟨x, hx, y, hy, hk, rfl⟩
  · rintro ⟨x, hx, y, hy, hk, rfl⟩
    exact ⟨_, (prs_mem hb _).2 ⟨x, hx, y, hy, hk, rfl⟩, rfl⟩
theorem nodup_map {α β : Type} {f : α → β} {l : List α} (h : (l.map f).Nodup) : l.Nodup := by
  rw [List.nodup_iff_pairwise_ne, List.pairwise_map] at h
  rw [List.nodup_iff_pairwise_ne]
  exact h.imp fun hab e => hab (by rw [e])
theorem sums_perm {ns : List ByteArray} {a b : List Rw} (ha : (keysR 1 ns a).Nodup) (hb : (keysR 1 ns b).Nodup) : (sums ns a b).Perm (sums ns b a) := by
  have n1 : (sums ns a b).Nodup := by
    have := prs_nodup (b := b) ha
    rw [← sums_labs] at this
    exact nodup_map this
  have n2 : (sums ns b a).Nodup := by
    have := prs_nodup (b := a) hb
    rw [← sums_labs] at this
    exact nodup_map this
  rw [List.perm_ext_iff_of_nodup n1 n2]
  intro r
  rw [sums_mem hb, sums_mem ha]
  constructor
  · rintro ⟨x, hx, y, hy, hk, rfl⟩
    exact ⟨y, hy, x, hx, hk.symm, by rw [hk, Int.add_comm]⟩
  · rintro ⟨x, hx, y, hy, hk, rfl⟩
    exact ⟨y, hy, x, hx, hk.symm, by rw [hk, Int.add_comm]⟩
/-- The sums of two vectors: both ways the same, or an error both ways; what is taken away again. -/
def LawsP (ns : List ByteArray) (a b : List Rw) : Prop :=
  (∃ e f : Int, e ≠ 0 ∧ f ≠ 0 ∧ matchR ⟨#[43]⟩ a b 1 ns = ([], e) ∧ matchR ⟨#[43]⟩ b a 1 ns = ([], f)) ∨
  ∃ (x : List Rw) (f : Rw → Int), x.length ≤ a.length ∧ rightR x = true ∧ matchR ⟨#[43]⟩ a b 1 ns = (x, 0) ∧ matchR ⟨#[43]⟩ b a 1 ns = (x, 0) ∧ matchR ⟨#[45]⟩ x b 1 ns = (x.map fun p => (p.1, f p), 0) ∧ rightR (x.map fun p => (p.1, f p)) = true
theorem laws_plain {a b : List Rw} (ns : List ByteArray) (ha : rightR a = true) (hb : rightR b = true) : LawsP ns a b := by
  by_cases h : onceB (keysR 1 ns a) = true ∧ onceB (keysR 1 ns b) = true
  · obtain ⟨oa, ob⟩ := h
    have na := (once_iff _).1 oa
    have nb := (once_iff _).1 ob
    obtain ⟨la, ra, _⟩ := right_fit ha
    obtain ⟨lb, rb, _⟩ := right_fit hb
    have d1 : ∀ p ∈ prs ns a b, Fix.doF ⟨#[43]⟩ p.2.2.1 p.2.2.2 = Fix.withinF (sumP p) := fun p hp => by
      obtain ⟨x, hx, y, hy, _, rfl⟩ := (prs_mem nb p).1 hp
      exact do_add _ _ (ra x hx).2 (rb y hy).2
    have d2 : ∀ p ∈ prs ns b a, Fix.doF ⟨#[43]⟩ p.2.2.1 p.2.2.2 = Fix.withinF (sumP p) := fun p hp => by
      obtain ⟨x, hx, y, hy, _, rfl⟩ := (prs_mem na p).1 hp
      exact do_add _ _ (rb x hx).2 (ra y hy).2
    have e1 := match_yes (mode := 1) (ns := ns) op_add ha hb oa ob
    have e2 := match_yes (mode := 1) (ns := ns) op_add hb ha ob oa
    by_cases hov : ∃ p ∈ prs ns a b, ¬ Fix.rgt (sumP p)
    · left
      refine ⟨4, 4, by decide, by decide, e1.trans (reck_over comp_add sumP _ _ d1 hov), e2.trans (reck_over comp_add sumP _ _ d2 ?_)⟩
      obtain ⟨p, hp, hn⟩ := hov
      obtain ⟨x, hx, y, hy, hk, rfl⟩ := (prs_mem nb p).1 hp
      refine ⟨(y, keyR 1 ns y.1, y.2, x.2), (prs_mem na _).2 ⟨y, hy, x, hx, hk.symm, rfl⟩, fun hr => hn ?_⟩
      unfold sumP at *
      simp only at *
      rwa [Int.add_comm]
    · right
      have hr : ∀ r ∈ sums ns a b, Fix.rgt r.2 := fun r hm => by
        unfold sums at hm
        obtain ⟨p, hp, rfl⟩ := List.mem_map.1 hm
        exact Classical.not_not.1 fun hn => hov ⟨p, hp, hn⟩
      have hr2 : ∀ r ∈ sums ns b a, Fix.rgt r.2 := fun r hm => hr r ((sums_perm na nb).mem_iff.2 hm)
      have m1 : matchR ⟨#[43]⟩ a b 1 ns = orderR (sums ns a b) := by
        rw [e1]
        exact reckA_num comp_add sumP _ [] (fun p hp => by rw [d1 p hp]; exact within_ok (hr (p.2.1, sumP p) (List.mem_map.2 ⟨p, hp, rfl⟩)))
      have m2 : matchR ⟨#[43]⟩ b a 1 ns = orderR (sums ns b a) := by
        rw [e2]
        exact reckA_num comp_add sumP _ [] (fun p hp => by rw [d2 p hp]; exact within_ok (hr2 (p.2.1, sumP p) (List.mem_map.2 ⟨p, hp, rfl⟩)))
      rw [← order_perm (sums_perm na nb)] at m2
      have hnl : ((sums ns a b).map (·.1)).Nodup := by rw [sums_labs]; exact prs_nodup na
      obtain ⟨o1, o2⟩ := order_nodup hnl
      obtain ⟨x, hx⟩ : ∃ x, sortR (sums ns a b) = x := ⟨_, rfl⟩
      have hpx : x.Perm (sums ns a b) := by rw [← hx]; exact sortR_perm _
      rw [hx] at o1 o2
      have hlen : x.length ≤ a.length := by
        rw [hpx.length_eq]; unfold sums prs
        rw [List.length_map]; exact List.length_filterMap_le _ _
      have hxm : ∀ r ∈ x, ∃ p ∈ a, ∃ y ∈ b, keyR 1 ns y.1 = keyR 1 ns p.1 ∧ r = (keyR 1 ns p.1, p.2 + y.2) := fun r hm => (sums_mem nb r).1 (hpx.mem_iff.1 hm)
      have hrx : rightR x = true := right_mk (by omega) (fun r hm => by
        obtain ⟨p, hp, y, hy, hk, e⟩ := hxm r hm
        exact ⟨by rw [e]; exact right_key 1 ns (ra p hp).1, hr r (hpx.mem_iff.1 hm)⟩) o2
      have hkx : ∀ r ∈ x, keyR 1 ns r.1 = r.1 := fun r hm => by
        obtain ⟨p, hp, y, hy, hk, e⟩ := hxm r hm
        rw [e]; exact key_again ns p.1
      have ox : onceB (keysR 1 ns x) = true := by
        rw [once_iff, show keysR 1 ns x = x.map (·.1) from List.map_congr_left hkx]
        exact (hpx.map _).nodup_iff.2 hnl
      have e3 := match_yes (mode := 1) (ns := ns) op_sub hrx hb ox ob
      have hf : ∀ r ∈ x, ∃ v, findV 1 ns r.1 b = some v ∧ Fix.rgt v ∧ Fix.rgt (r.2 - v) := fun r hm => by
        obtain ⟨p, hp, y, hy, hk, e⟩ := hxm r hm
        refine ⟨y.2, (findV_some_iff nb).2 ⟨y, hy, by rw [e]; exact hk, rfl⟩, (rb y hy).2, ?_⟩
        rw [e]
        show Fix.rgt (p.2 + y.2 - y.2)
        rw [Int.add_sub_cancel]; exact (ra p hp).2
      obtain ⟨g, hg⟩ : ∃ g : Rw → Int, g = fun r => (findV 1 ns r.1 b).getD 0 := ⟨_, rfl⟩
      have hfg : ∀ r ∈ x, findV 1 ns r.1 b = some (g r) ∧ Fix.rgt (g r) ∧ Fix.rgt (r.2 - g r) := fun r hm => by
        obtain ⟨v, h1, h2, h3⟩ := hf r hm
        have : g r = v := by rw [hg]; show (findV 1 ns r.1 b).getD 0 = v; rw [h1]; rfl
        rw [this]; exact ⟨h1, h2, h3⟩
      have hfm : x.filterMap (pairM 1 ns b) = x.map fun r => (r, r.1, r.2, g r) := filterMap_map _ _ x fun r hm => by
        unfold pairM
        rw [hkx r hm, (hfg r hm).1]; rfl
      have e4 : matchR ⟨#[45]⟩ x b 1 ns = (x.map fun r => (r.1, r.2 - g r), 0) := by
        rw [e3, hfm, reckA_num comp_sub (fun p => p.2.2.1 - p.2.2.2) _ [] (fun p hp => by
          obtain ⟨r, hm, rfl⟩ := List.mem_map.1 hp
          obtain ⟨_, h2, h3⟩ := hfg r hm
          show Fix.doF _ r.2 (g r) = _
          rw [do_sub _ _ (hr r (hpx.mem_iff.1 hm)) h2, within_ok h3]), List.nil_append, List.map_map]
        exact order_rises (rises_map (fun r => r.2 - g r) o2)
      refine ⟨x, fun r => r.2 - g r, hlen, hrx, m1.trans o1, m2.trans o1, e4, ?_⟩
      obtain ⟨q1, q2, q3⟩ := right_fit hrx
      refine right_mk (by rw [List.length_map]; exact q1) (fun y hy => ?_) (rises_map (fun r => r.2 - g r) q3)
      obtain ⟨r, hm, rfl⟩ := List.mem_map.1 hy
      exact ⟨(q2 r hm).1, (hfg r hm).2.2⟩
  · left
    have h1 : onceB (keysR 1 ns a) = false ∨ onceB (keysR 1 ns b) = false := by
      cases h2 : onceB (keysR 1 ns a) with
      | false => exact .inl rfl
      | true => cases h3 : onceB (keysR 1 ns b) with
        | false => exact .inr rfl
        | true => exact absurd ⟨h2, h3⟩ h
    exact ⟨6, 6, by decide, by decide, match_twice op_add ha hb h1, match_twice op_add hb ha h1.symm⟩
end Go.Proofs.Ytiedhlcgdfdjhaa.Vec
