/- How many rows come, and which: plain. -/
import Derived.Test.YtiedhlcgdfdjhaaVlw
namespace Go.Proofs.Ytiedhlcgdfdjhaa.Vec
open Go.RowKit

theorem nodup_len {α : Type} : ∀ (l m : List α), l.Nodup → (∀ x ∈ l, x ∈ m) → l.length ≤ m.length
  | [], m, _, _ => Nat.zero_le _
  | x :: l, m, hn, hs => by
    rw [List.nodup_cons] at hn
    obtain ⟨s, t, rfl⟩ := List.append_of_mem (hs x List.mem_cons_self)
    have h1 := nodup_len l (s ++ t) hn.2 fun y hy => by
      have := hs y (List.mem_cons_of_mem _ hy)
      rw [List.mem_append, List.mem_cons] at this
      rw [List.mem_append]
      rcases this with h | rfl | h
      · exact .inl h
      · exact absurd hy hn.1
      · exact .inr h
    rw [List.length_append] at h1
    rw [List.length_append, List.length_cons, List.length_cons]; omega
theorem do_rgt {op : ByteArray} {a b : Int} (ha : Fix.rgt a) (hb : Fix.rgt b) (h : (Fix.doF op a b).2 = 0) : Fix.rgt (Fix.doF op a b).1 := by
  have hw : ∀ v : Int, (Fix.withinF v).2 = 0 → Fix.rgt (Fix.withinF v).1 := fun v h => by
    unfold Fix.withinF at h ⊢
    split at h
    · next hr => rw [if_pos hr]; exact hr
    · simp at h
  unfold Fix.doF at h ⊢
  cases hs : Fix.signOf op with
  | none => rw [hs] at h; simp at h
  | some x =>
    rw [hs] at h
    simp only at h ⊢
    rw [if_pos ⟨ha, hb⟩] at h ⊢
    by_cases hc : Fix.cmpB x.1 x.2 = true
    · rw [if_pos hc]
      split <;> decide
    · rw [if_neg hc] at h ⊢
      unfold Fix.reckF at h ⊢
      split at h
      · next e => rw [if_pos e]; exact hw _ h
      · next e1 =>
        rw [if_neg e1]
        split at h
        · next e => rw [if_pos e]; exact hw _ h
        · next e2 =>
          rw [if_neg e2]
          split at h
          · next e => rw [if_pos e, Fix.timesF_within]; rw [Fix.timesF_within] at h; exact hw _ h
          · next e3 =>
            rw [if_neg e3]
            split at h
            · simp at h
            · next e4 =>
              rw [if_neg e4]
              split
              · exact Fix.tdiv_rgt b ha
              · exact Fix.tmod_rgt b ha
def Good (x : Rw) : Prop := rightB x.1 = true ∧ Fix.rgt x.2
theorem order_good {l : List Rw} (h : ∀ x ∈ l, Good x) (hl : l.length ≤ 2000) : rightR (orderR l).1 = true := by
  rcases order_cases l with e | ⟨_, hp, hr⟩
  · rw [e]; rfl
  · exact right_mk (by rw [hp.length_eq]; exact hl) (fun x hx => h x (hp.mem_iff.1 hx)) hr
theorem reck_len (op : ByteArray) : ∀ (ps : List Pr) (acc : List Rw), (reckA op acc ps).1.length ≤ acc.length + ps.length
  | [], acc => by rw [reckA]; exact order_len acc
  | p :: r, acc => by
    have h1 := reck_len op r (acc ++ [p.1])
    have h2 := reck_len op r acc
    have h3 := reck_len op r (acc ++ [(p.2.1, (Fix.doF op p.2.2.1 p.2.2.2).1)])
    rw [List.length_append, List.length_singleton] at h1 h3
    rw [reckA, List.length_cons]
    split
    · split
      · split
        · omega
        · omega
      · omega
    · simp
theorem reck_good {op : ByteArray} : ∀ (ps : List Pr) (acc : List Rw), (∀ p ∈ ps, Good p.1 ∧ rightB p.2.1 = true ∧ Fix.rgt p.2.2.1 ∧ Fix.rgt p.2.2.2) → (∀ x ∈ acc, Good x) → acc.length + ps.length ≤ 2000 → rightR (reckA op acc ps).1 = true
  | [], acc, _, ha, hl => by rw [reckA]; exact order_good ha (by simpa using hl)
  | p :: r, acc, hp, ha, hl => by
    obtain ⟨g1, g2, g3, g4⟩ := hp p List.mem_cons_self
    have hr := fun q hq => hp q (List.mem_cons_of_mem _ hq)
    rw [List.length_cons] at hl
    rw [reckA]
    split
    · next h0 =>
      split
      · split
        · exact reck_good r _ hr (fun x hx => by
            rcases List.mem_append.1 hx with hx | hx
            · exact ha x hx
            · simp at hx; subst hx; exact g1) (by rw [List.length_append, List.length_singleton]; omega)
        · exact reck_good r _ hr ha (by omega)
      · exact reck_good r _ hr (fun x hx => by
          rcases List.mem_append.1 hx with hx | hx
          · exact ha x hx
          · simp at hx; subst hx; exact ⟨g2, do_rgt g3 g4 h0⟩) (by rw [List.length_append, List.length_singleton]; omega)
    · rfl
theorem rises_sub {l m : List Rw} (h : l.Sublist m) (hm : risesR m = true) : risesR l = true := by
  rw [rises_iff] at *
  exact hm.sublist h
theorem reck_sub {op : ByteArray} (hc : Fix.comparesF op = true) : ∀ (ps : List Pr) (acc : List Rw), risesR (acc ++ ps.map (·.1)) = true → (reckA op acc ps).1.Sublist (acc ++ ps.map (·.1))
  | [], acc, h => by
    rw [List.map_nil, List.append_nil] at h ⊢
    rw [reckA, order_rises h]
    exact List.Sublist.refl _
  | p :: r, acc, h => by
    rw [List.map_cons] at h ⊢
    have hsub : (acc ++ r.map (·.1)).Sublist (acc ++ p.1 :: r.map (·.1)) := (List.sublist_cons_self _ _).append_left _
    rw [reckA, if_pos hc]
    split
    · split
      · have e : acc ++ p.1 :: r.map (·.1) = (acc ++ [p.1]) ++ r.map (·.1) := by simp
        rw [e] at h ⊢
        exact reck_sub hc r _ h
      · exact (reck_sub hc r acc (rises_sub hsub h)).trans hsub
    · exact List.nil_sublist _
theorem pairM_row {mode : Int} {ns : List ByteArray} {b : List Rw} {x : Rw} {p : Pr} (h : pairM mode ns b x = some p) : p.1 = x ∧ p.2.1 = keyR mode ns x.1 ∧ p.2.2.1 = x.2 ∧ findV mode ns (keyR mode ns x.1) b = some p.2.2.2 := by
  unfold pairM at h
  obtain ⟨v, hv, rfl⟩ := Option.map_eq_some_iff.1 h
  exact ⟨rfl, rfl, rfl, hv⟩
theorem pairs_sub (mode : Int) (ns : List ByteArray) (b : List Rw) : ∀ a : List Rw, ((a.filterMap (pairM mode ns b)).map (·.1)).Sublist a
  | [] => List.Sublist.refl _
  | x :: r => by
    rw [List.filterMap_cons]
    cases hp : pairM mode ns b x with
    | none => exact (pairs_sub mode ns b r).cons _
    | some p =>
      rw [List.map_cons, (pairM_row hp).1]
      exact (pairs_sub mode ns b r).cons_cons _
theorem pairs_keys {mode : Int} {ns : List ByteArray} {b : List Rw} : ∀ {a : List Rw}, (keysR mode ns a).Nodup → ((a.filterMap (pairM mode ns b)).map (·.2.1)).Nodup
  | [], _ => by simp
  | x :: r, h => by
    rw [keysR, List.map_cons, List.nodup_cons] at h
    have ih := pairs_keys (b := b) (a := r) h.2
    rw [List.filterMap_cons]
    cases hp : pairM mode ns b x with
    | none => exact ih
    | some p =>
      rw [List.map_cons, List.nodup_cons]
      refine ⟨fun hm => ?_, ih⟩
      obtain ⟨q, hq, hqk⟩ := List.mem_map.1 hm
      obtain ⟨z, hz, hzp⟩ := List.mem_filterMap.1 hq
      refine h.1 (List.mem_map.2 ⟨z, hz, ?_⟩)
      rw [← (pairM_row hzp).2.1, hqk, (pairM_row hp).2.1]
/-- How many rows come, and which. -/
structure SizesP (op : ByteArray) (a b x y : List Rw) : Prop where
  xa : x.length ≤ a.length
  xb : x.length ≤ b.length
  ya : y.length ≤ a.length
  xr : rightR x = true
  yr : rightR y = true
  xs : Fix.comparesF op = true → x.Sublist a
  ys : Fix.comparesF op = true → y.Sublist a
theorem sizes_plain (op : ByteArray) {a b : List Rw} (v mode : Int) (ns : List ByteArray) (ha : rightR a = true) (hb : rightR b = true) : SizesP op a b (matchR op a b mode ns).1 (scaleR op a v false).1 := by
  obtain ⟨la, ra, sa⟩ := right_fit ha
  obtain ⟨lb, rb, _⟩ := right_fit hb
  have hm : (matchR op a b mode ns).1.length ≤ a.length ∧ (matchR op a b mode ns).1.length ≤ b.length ∧ rightR (matchR op a b mode ns).1 = true ∧ (Fix.comparesF op = true → (matchR op a b mode ns).1.Sublist a) := by
    by_cases ho : isOpB op = true
    · by_cases h1 : onceB (keysR mode ns a) = true
      · by_cases h2 : onceB (keysR mode ns b) = true
        · rw [match_yes ho ha hb h1 h2]
          have hl := reck_len op (a.filterMap (pairM mode ns b)) []
          rw [List.length_nil, Nat.zero_add] at hl
          have hla : (a.filterMap (pairM mode ns b)).length ≤ a.length := List.length_filterMap_le _ _
          have hlb : (a.filterMap (pairM mode ns b)).length ≤ b.length := by
            have := nodup_len _ (keysR mode ns b) (pairs_keys (b := b) ((once_iff _).1 h1)) fun k hk => by
              obtain ⟨p, hp, rfl⟩ := List.mem_map.1 hk
              obtain ⟨x, hx, hxp⟩ := List.mem_filterMap.1 hp
              obtain ⟨_, e2, _, e4⟩ := pairM_row hxp
              obtain ⟨y, hy, hyk, _⟩ := (findV_some_iff ((once_iff _).1 h2)).1 e4
              rw [e2, ← hyk]; exact List.mem_map.2 ⟨y, hy, rfl⟩
            rw [List.length_map] at this
            unfold keysR at this
            rwa [List.length_map] at this
          have hg : ∀ p ∈ a.filterMap (pairM mode ns b), Good p.1 ∧ rightB p.2.1 = true ∧ Fix.rgt p.2.2.1 ∧ Fix.rgt p.2.2.2 := fun p hp => by
            obtain ⟨x, hx, hxp⟩ := List.mem_filterMap.1 hp
            obtain ⟨e1, e2, e3, e4⟩ := pairM_row hxp
            obtain ⟨y, hy, _, hyv⟩ := (findV_some_iff ((once_iff _).1 h2)).1 e4
            exact ⟨by rw [e1]; exact ra x hx, by rw [e2]; exact right_key mode ns (ra x hx).1, by rw [e3]; exact (ra x hx).2, by rw [← hyv]; exact (rb y hy).2⟩
          refine ⟨by omega, by omega, reck_good _ [] hg (fun x hx => by simp at hx) (by simp; omega), fun hc => ?_⟩
          have hsub := pairs_sub mode ns b a
          have := reck_sub hc (a.filterMap (pairM mode ns b)) [] (rises_sub hsub sa)
          exact this.trans hsub
        · rw [match_twice ho ha hb (.inr (Bool.not_eq_true _ ▸ h2))]
          exact ⟨Nat.zero_le _, Nat.zero_le _, rfl, fun _ => List.nil_sublist _⟩
      · rw [match_twice ho ha hb (.inl (Bool.not_eq_true _ ▸ h1))]
        exact ⟨Nat.zero_le _, Nat.zero_le _, rfl, fun _ => List.nil_sublist _⟩
    · rw [match_no (.inl (Bool.not_eq_true _ ▸ ho))]
      exact ⟨Nat.zero_le _, Nat.zero_le _, rfl, fun _ => List.nil_sublist _⟩
  have hs : (scaleR op a v false).1.length ≤ a.length ∧ rightR (scaleR op a v false).1 = true ∧ (Fix.comparesF op = true → (scaleR op a v false).1.Sublist a) := by
    by_cases ho : isOpB op = true
    · by_cases hv : Fix.rgtB v = true
      · rw [scale_yes ho hv ha]
        have hl := reck_len op (a.map (pairS v false)) []
        rw [List.length_nil, Nat.zero_add, List.length_map] at hl
        have hg : ∀ p ∈ a.map (pairS v false), Good p.1 ∧ rightB p.2.1 = true ∧ Fix.rgt p.2.2.1 ∧ Fix.rgt p.2.2.2 := fun p hp => by
          obtain ⟨x, hx, rfl⟩ := List.mem_map.1 hp
          exact ⟨ra x hx, right_key 0 [] (ra x hx).1, (ra x hx).2, of_decide_eq_true hv⟩
        refine ⟨hl, reck_good _ [] hg (fun x hx => by simp at hx) (by simp; omega), fun hc => ?_⟩
        have e : (a.map (pairS v false)).map (·.1) = a := by
          rw [List.map_map]
          have : ((fun p : Pr => p.1) ∘ pairS v false) = id := rfl
          rw [this, List.map_id]
        have := reck_sub hc (a.map (pairS v false)) [] (by rw [e]; exact sa)
        rwa [List.nil_append, e] at this
      · rw [scale_no (.inr (.inl (Bool.not_eq_true _ ▸ hv)))]
        exact ⟨Nat.zero_le _, rfl, fun _ => List.nil_sublist _⟩
    · rw [scale_no (.inl (Bool.not_eq_true _ ▸ ho))]
      exact ⟨Nat.zero_le _, rfl, fun _ => List.nil_sublist _⟩
  exact ⟨hm.1, hm.2.1, hs.1, hm.2.2.1, hs.2.1, hm.2.2.2, hs.2.2⟩
end Go.Proofs.Ytiedhlcgdfdjhaa.Vec
