import Derived.Test.YtmidpekkomhogaaMg09
import Derived.Deep.RegionLaw
import Derived.Deep.RegionWith
section
/- The store: a point behind those of a series. -/

namespace Go.Proofs.Ytmidpekkomhogaa.Sto
open Go.RowKit

theorem last_cell {w : World} {B gp cP m : Nat} {ps : List Pt} (h : w.ownsRow B 54 2 (.slice (some ⟨gp, 0, none⟩) (m + 1) cP) (m + 1) (Pnt.flatL ps)) (hn : ps.length = m + 1) : w.cell? ⟨gp, m * 2, none⟩ = some (.int .i64 (lastT ps)) := by
  obtain ⟨x, hx⟩ : ∃ x, ps[m]? = some x := ⟨_, List.getElem?_eq_getElem (by omega)⟩
  have := h.cells (g := gp) rfl (m * 2) _ (Pnt.flatL_at ps m x hx).1
  have hadd : (⟨gp, 0, none⟩ : Addr).add (m * 2) = ⟨gp, m * 2, none⟩ := by unfold Addr.add; split <;> simp_all
  rw [hadd] at this
  rw [this]
  unfold lastT
  rw [List.getLast?_eq_getElem?, hn, Nat.add_sub_cancel, hx]
/-- What putNext does. -/
def NextTo (w w' : World) (gs j gp nP : Nat) (T t : Int) (L2 : List Value) (e : Ending) : Prop :=
  (t ≤ T ∧ e = .returned (.int .i64 6) ∧ Below w.heap.size w w') ∨ (¬ t ≤ T ∧ 25 ≤ nP ∧ e = .returned (.int .i64 8) ∧ Below w.heap.size w w') ∨
  (¬ t ≤ T ∧ ¬ 25 ≤ nP ∧ e = .returned (.int .i64 0) ∧ ∃ w1 g1 c1, w.grownBy w1 (some gp) ∧ w1.ownsRow 0 54 2 (.slice (some ⟨g1, 0, none⟩) (nP + 1) c1) (nP + 1) L2 ∧ (g1 = gp ∨ w.heap.size ≤ g1) ∧ g1 < w1.heap.size ∧ w' = w1.setCell ⟨gs, j * 2 + 1, none⟩ (.slice (some ⟨g1, 0, none⟩) (nP + 1) c1))

set_option maxHeartbeats 4000000 in
set_option maxRecDepth 100000 in
theorem putNext_any (w : World) (gs j gp m cP : Nat) (ps : List Pt) (t v : Int) (uL : Value) (hgs : gs < w.heap.size) (hne : gs ≠ gp) (c0 : w.cell? ⟨gs, j * 2, none⟩ = some uL) (c1 : w.cell? ⟨gs, j * 2 + 1, none⟩ = some (.slice (some ⟨gp, 0, none⟩) (m + 1) cP)) (fz : w.frozen? ⟨gs, j * 2 + 1, none⟩ = false)
    (hown : w.ownsRow 0 54 2 (.slice (some ⟨gp, 0, none⟩) (m + 1) cP) (m + 1) (Pnt.flatL ps)) (hn : ps.length = m + 1) (hm : m + 1 ≤ 25) :
    Calls Try.prog 21 #[.pointer (some ⟨gs, j * 2, none⟩), .agg #[.int .i64 t, .int .i64 v]] w fun e w' => NextTo w w' gs j gp (m + 1) (lastT ps) t (Pnt.flatL (ps ++ [(t, v)])) e := by
  obtain ⟨i0, hi0, hz0, hz1, hz2⟩ := info_parts Pnt.info38
  have hlast := last_cell hown hn
  have hgp : gp < w.heap.size := (hown.lt gp rfl).2
  obtain ⟨T, hT⟩ : ∃ T, lastT ps = T := ⟨_, rfl⟩
  rw [hT] at hlast ⊢
  have HL := Lib.hid (Pnt.flatL_snoc ps (t, v))
  have HO := Lib.hid hown
  clear hown hT hn
  generalize Pnt.flatL (ps ++ [(t, v)]) = L2 at HL ⊢
  generalize Pnt.flatL ps = L at HO HL
  obtain ⟨W, hW⟩ : ∃ W, w.alloc (Obj.cells #[.int .i64 t, .int .i64 v] 54) = W := ⟨_, rfl⟩
  have hB : Below w.heap.size w W := by rw [← hW]; exact (Below.refl _ _).alloc (Nat.le_refl _) _
  have hWs : W.heap.size = w.heap.size + 1 := by rw [← hW]; simp
  have hWx : W.heap[w.heap.size]? = some (.cells #[.int .i64 t, .int .i64 v] 54 (0, 0)) := by rw [← hW]; exact Array.getElem?_push_size
  have b0 : W.cell? ⟨w.heap.size, 0, none⟩ = some (.int .i64 t) := by simp [World.cell?, hWx]
  have b1 : W.cell? ⟨w.heap.size, 1, none⟩ = some (.int .i64 v) := by simp [World.cell?, hWx]
  have d0 : W.cell? ⟨gs, j * 2, none⟩ = some uL := (hB.cell (p := ⟨gs, j * 2, none⟩) hgs).trans c0
  have d1 : W.cell? ⟨gs, j * 2 + 1, none⟩ = some (.slice (some ⟨gp, 0, none⟩) (m + 1) cP) := (hB.cell (p := ⟨gs, j * 2 + 1, none⟩) hgs).trans c1
  have d2 : W.frozen? ⟨gs, j * 2 + 1, none⟩ = false := (hB.frozen (p := ⟨gs, j * 2 + 1, none⟩) hgs).trans fz
  have d3 : W.cell? ⟨gp, m * 2, none⟩ = some (.int .i64 T) := (hB.cell (p := ⟨gp, m * 2, none⟩) hgp).trans hlast
  have HB := Lib.hid hB
  have HW := Lib.hid hWx
  have HS := Lib.hid hWs
  have j1 : IntKind.i64.wrap (m : Int) = m := by rw [IntKind.wrap_i64]; omega
  clear hB hWx c0 c1 fz hlast hWs
  by_cases ht : t ≤ T
  · go_enter Try.func21, Try.ntmps21
    go_wp2_with fail
    go_quiet (fail)
    go_wp2
    go_ret
    exact .inl ⟨ht, rfl, HB.out.trans ⟨rfl, rfl, rfl, Nat.le_refl _, fun _ _ => rfl⟩⟩
  · have ht2 : T < t := by omega
    by_cases h25 : 25 ≤ m + 1
    · have h25i : (25 : Int) ≤ (m : Int) + 1 := by omega
      go_enter Try.func21, Try.ntmps21
      go_wp2_with fail
      go_quiet (fail)
      go_wp2
      go_ret
      exact .inr (.inl ⟨by omega, h25, rfl, HB.out.trans ⟨rfl, rfl, rfl, Nat.le_refl _, fun _ _ => rfl⟩⟩)
    · have h25i : ¬ (25 : Int) ≤ (m : Int) + 1 := by omega
      go_enter Try.func21, Try.ntmps21
      go_wp2_with fail
      go_quiet (fail)
      obtain ⟨V, hV⟩ : ∃ V, W.drewN nq = V := ⟨_, rfl⟩
      have v0 : V.cell? ⟨w.heap.size, 0, none⟩ = some (.int .i64 t) := by rw [← hV]; exact b0
      have v1 : V.cell? ⟨w.heap.size, 1, none⟩ = some (.int .i64 v) := by rw [← hV]; exact b1
      have v2 : V.cell? ⟨gs, j * 2, none⟩ = some uL := by rw [← hV]; exact d0
      have v3 : V.cell? ⟨gs, j * 2 + 1, none⟩ = some (.slice (some ⟨gp, 0, none⟩) (m + 1) cP) := by rw [← hV]; exact d1
      have v4 : V.frozen? ⟨gs, j * 2 + 1, none⟩ = false := by rw [← hV]; exact d2
      have hgV : gs < V.heap.size := by rw [← hV]; have := HS.out; show gs < W.heap.size; omega
      have v5 : (V.alloc (Obj.cells #[.int .i64 t, .int .i64 v] 54)).cell? ⟨gs, j * 2 + 1, none⟩ = some (.slice (some ⟨gp, 0, none⟩) (m + 1) cP) := (((Below.refl V.heap.size V).alloc (Nat.le_refl _) _).cell (p := ⟨gs, j * 2 + 1, none⟩) hgV).trans v3
      have HBV := Lib.hid (show Below w.heap.size w V from HB.out.trans (by rw [← hV]; exact ⟨rfl, rfl, rfl, Nat.le_refl _, fun _ _ => rfl⟩))
      have HOV := Lib.hid (show V.drew.ownsRow 0 54 2 (.slice (some ⟨gp, 0, none⟩) (m + 1) cP) (m + 1) L from own_grown HO.out HBV.out.drew)
      rw [hV]
      clear b0 b1 d0 d1 d2 d3 hV hW
      go_wp2
      go_region_law (refine step_append_lies _ rfl _ _ 50 rfl 0 54 i0 (.agg #[.int .i64 0, .int .i64 0]) 2 16 Try.underlying50 hi0 hz0 hz1 hz2 rfl (by decide) (.slice (some ⟨gp, 0, none⟩) (m + 1) cP) (m + 1) L rfl (HOV.out.alloc _) ⟨V.heap.size, 0, none⟩ 1 1 [.int .i64 t, .int .i64 v] rfl rfl (Pnt.cells_2 _ _ _ _) (Pnt.one_2 _ _) (by decide) (by unfold maxLen; omega) (by omega) (Nat.zero_le _) _ rfl ?_; intro g1 c1 w1 ho1 hg1 hat1 hlt1; have hsz := HBV.out.size; have e1 := (hg1.cell_far ⟨gs, j * 2 + 1, none⟩ (by simp; omega) (by simp [Value.ownBlock]; exact hne)).trans (((Below.refl V.drew.heap.size V.drew).alloc (Nat.le_refl _) _).cell (p := ⟨gs, j * 2 + 1, none⟩) (by simp; omega)); have e2 := (hg1.frozen_far ⟨gs, j * 2 + 1, none⟩ (by simp; omega) (by simp [Value.ownBlock]; exact hne)).trans (((Below.refl V.drew.heap.size V.drew).alloc (Nat.le_refl _) _).frozen (p := ⟨gs, j * 2 + 1, none⟩) (by simp; omega)); have e3 := e1.trans v3; have e4 := e2.trans v4; clear e1 e2 hsz)
      all_goals
        have HG := Lib.hid (show w.grownBy w1 (some gp) from grown_trans ⟨HBV.out.os, HBV.out.tape, HBV.out.output, HBV.out.size, fun k hk _ => HBV.out.block k hk⟩ (grown_trans (grown_trans (grown_drew V _) (World.grownBy_alloc _ _ _)) hg1))
        have HO1 := Lib.hid ho1
        have HAT := Lib.hid (show g1 = gp ∨ w.heap.size ≤ g1 from hat1.imp (fun h => by simpa [Value.ownBlock] using h.symm) (fun h => by have := HBV.out.size; simp at h; omega))
        have HLT := Lib.hid hlt1
        clear ho1 hg1 hat1 hlt1
        go_wp2
        go_ret
        exact .inr (.inr ⟨by omega, h25, rfl, w1, g1, c1, HG.out, by rw [HL.out]; exact HO1.out, HAT.out, HLT.out, rfl⟩)
end Go.Proofs.Ytmidpekkomhogaa.Sto
end

section
/- The store: a series put in at its place. -/

namespace Go.Proofs.Ytmidpekkomhogaa.Sto
open Go.RowKit

theorem ins_get {A : Type} (l : List A) (i j : Nat) (a : A) (hi : i ≤ l.length) : (l.take i ++ a :: l.drop i)[j]? = if j < i then l[j]? else if j = i then some a else l[j - 1]? := by
  have h1 : (l.take i).length = i := by rw [List.length_take]; omega
  by_cases hj : j < i
  · rw [if_pos hj, List.getElem?_append_left (by omega), List.getElem?_take, if_pos hj]
  · rw [if_neg hj, List.getElem?_append_right (by omega), h1]
    by_cases he : j = i
    · rw [if_pos he, he]; simp
    · rw [if_neg he]
      obtain ⟨k, rfl⟩ : ∃ k, j = i + k + 1 := ⟨j - i - 1, by omega⟩
      rw [show i + k + 1 - i = k + 1 by omega, List.getElem?_cons_succ, List.getElem?_drop]
      rfl
theorem told_lab {B : Nat} {w : World} {x : Srs} {u v : Value} (h : Told B w x u v) : ∃ oL cL, u = .slice oL x.1.length cL ∧ SeesO w oL x.1 ∧ Ser.Typ w oL 49 ∧ ∀ b off, oL = some ⟨b, off, none⟩ → B ≤ b ∧ b < w.heap.size := by
  obtain ⟨o, c, rfl, hs, _⟩ := own_sees h.1
  exact ⟨o, c, rfl, hs, Ser.typ_own h.1, fun b off e => by subst e; exact h.1.lt b rfl⟩
/-- The series' row with one more series in it. -/
theorem Row.ins {F : Nat → Prop} {w w1 w2 : World} {p n i g cap : Nat} {v u1 u2 : Value} {us : List (Value × Value)} {xs : List Srs} {y : Srs} (h : Row F w v us xs) (hl : ∀ k, F k → k < w.heap.size) (hb : Below w.heap.size w w1) (hp : F p) (hpt : ∃ cs m, w.heap[p]? = some (.cells cs 31 m))
    (ht : Told w.heap.size w1 y u1 u2) (hn : us.length = n) (hi : i ≤ n) (hown : w2.ownsRow 0 52 2 (.slice (some ⟨g, 0, none⟩) (n + 1) cap) (n + 1) (Ser.flatU (us.take i ++ (u1, u2) :: us.drop i))) (hg : w1.grownBy w2 v.ownBlock) (hat : v.ownBlock = some g ∨ g = w1.heap.size) :
    Row (Grow F w w2) (w2.setCell ⟨p, 0, none⟩ (.slice (some ⟨g, 0, none⟩) (n + 1) cap)) (.slice (some ⟨g, 0, none⟩) (n + 1) cap) (us.take i ++ (u1, u2) :: us.drop i) (xs.take i ++ y :: xs.drop i) ∧ Sep F w (w2.setCell ⟨p, 0, none⟩ (.slice (some ⟨g, 0, none⟩) (n + 1) cap)) := by
  subst hn
  have hlen := h.len
  have h1 : Row F w1 v us xs := h.same hb.size (fun k hk => hb.block k (hl k hk)) fun _ h => h
  have hp1 : ∃ cs m, w1.heap[p]? = some (.cells cs 31 m) := by
    obtain ⟨cs, m, hh⟩ := hpt
    exact ⟨cs, m, (hb.block p (hl p hp)).trans hh⟩
  have hg2 : g < w2.heap.size := (hown.lt g rfl).2
  have hSep : Sep F w (w2.setCell ⟨p, 0, none⟩ (.slice (some ⟨g, 0, none⟩) (us.length + 1) cap)) :=
    ((Sep.of_below hb).next (Sep.of_grown hg fun k hk => h.ownF k hk)).next (Sep.of_set w2 (p := ⟨p, 0, none⟩) hp _)
  obtain ⟨W, hW⟩ : ∃ W, w2.setCell ⟨p, 0, none⟩ (.slice (some ⟨g, 0, none⟩) (us.length + 1) cap) = W := ⟨_, rfl⟩
  have hsz : W.heap.size = w2.heap.size := by rw [← hW]; simp [World.setCell]
  have hother : ∀ k, k ≠ p → W.heap[k]? = w2.heap[k]? := fun k hk => by rw [← hW]; exact Below.heap_setCell _ _ _ _ hk
  have hs : w1.heap.size ≤ W.heap.size := by rw [hsz]; exact hg.size
  -- a block of labels, or of points, is what it was
  have hk : ∀ (t : TypeId), t ≠ 52 → t ≠ 31 → ∀ (k : Nat) cs m, w1.heap[k]? = some (Obj.cells cs t m) → W.heap[k]? = w1.heap[k]? := fun t t1 t2 k cs m hh => by
    rw [hother k (typ_ne ⟨cs, m, hh⟩ hp1 t2)]
    exact hg.block k (Array.getElem?_eq_some_iff.1 hh).1 fun e => typ_ne ⟨cs, m, hh⟩ (own_typ h1.own e.symm) t1 rfl
  have hLk := hk 49 (by decide) (by decide)
  have hPk : ∀ {B n : Nat} {v : Value} {L : List Value}, w1.ownsRow B 54 2 v n L → ∀ g, v.ownBlock = some g → W.heap[g]? = w1.heap[g]? := fun ho g hgg => by
    obtain ⟨cs, m, hh⟩ := own_typ ho hgg
    exact hk 54 (by decide) (by decide) g cs m hh
  have hG : ∀ k, F k → Grow F w w2 k := fun _ h => .inl h
  have hnew : ∀ k, w.heap.size ≤ k → k < w1.heap.size → Grow F w w2 k := fun k h1 h2 => .inr ⟨h1, Nat.lt_of_lt_of_le h2 hg.size⟩
  rw [hW] at hSep ⊢
  have hptsNew : ∀ g, u2.ownBlock = some g → w.heap.size ≤ g ∧ g < w1.heap.size := fun g hgg => ht.2.lt g hgg
  have hold : ∀ (j : Nat) (r : Value × Value), us[j]? = some r → ∀ g, r.2.ownBlock = some g → g < w.heap.size := fun j r hr g hgg => by
    have hin : j < xs.length := by rw [← hlen]; exact (List.getElem?_eq_some_iff.1 hr).1
    obtain ⟨r', hr', hor⟩ := h.one j xs[j] (List.getElem?_eq_getElem hin)
    rw [hr] at hr'
    cases hr'
    exact hl g (hor.ptsF g hgg)
  refine ⟨⟨by simp [hlen], ?_, fun g' hgg => ?_, fun j x hx => ?_, fun j k r s hjk hr hs' => ?_⟩, hSep⟩
  · have e : (us.take i ++ (u1, u2) :: us.drop i).length = us.length + 1 := by simp; omega
    rw [e]
    exact own_same hown fun g' hgg => hother g' (by
      have h5 := own_typ hown hgg
      obtain ⟨cs, m, hh⟩ := hp1
      rintro rfl
      by_cases hvp : v.ownBlock = some g'
      · exact typ_ne (own_typ h1.own hvp) ⟨cs, m, hh⟩ (by decide) rfl
      · have h6 : w2.heap[g']? = w1.heap[g']? := hg.block g' (Array.getElem?_eq_some_iff.1 hh).1 fun e => hvp e.symm
        exact typ_ne h5 ⟨cs, m, h6.trans hh⟩ (by decide) rfl)
  · have : g = g' := by simpa [Value.ownBlock] using hgg
    subst this
    rcases hat with e | e
    · exact .inl (h.ownF _ e)
    · exact .inr ⟨by rw [e]; exact hb.size, hg2⟩
  · rw [ins_get xs i j y (by rw [← hlen]; exact hi)] at hx
    have hold' : ∀ j' : Nat, xs[j']? = some x → ∃ q : Value × Value, us[j']? = some q ∧ OneS (Grow F w w2) W q.1 q.2 x := fun j' hx' => by
      obtain ⟨q, hq, ho⟩ := h1.one j' x hx'
      exact ⟨q, hq, ho.kept hs hLk (hPk ho.pts) hG⟩
    by_cases hj : j < i
    · rw [if_pos hj] at hx
      obtain ⟨q, hq, ho⟩ := hold' j hx
      exact ⟨q, by rw [ins_get us i j _ hi, if_pos hj]; exact hq, ho⟩
    · rw [if_neg hj] at hx
      by_cases he : j = i
      · rw [if_pos he] at hx
        cases hx
        refine ⟨(u1, u2), by rw [ins_get us i j _ hi, if_neg hj, if_pos he], ?_, own_same (own_mono ht.2 (Nat.zero_le _)) (hPk ht.2), fun g' hgg => hnew g' (hptsNew g' hgg).1 (hptsNew g' hgg).2⟩
        obtain ⟨oL, cL, a1, a2, a3, a4⟩ := told_lab ht
        exact lab_kept (F := fun b => w.heap.size ≤ b ∧ b < w1.heap.size) ⟨oL, cL, a1, a2, a3, a4⟩ hs hLk fun k hk => hnew k hk.1 hk.2
      · rw [if_neg he] at hx
        obtain ⟨q, hq, ho⟩ := hold' (j - 1) hx
        exact ⟨q, by rw [ins_get us i j _ hi, if_neg hj, if_neg he]; exact hq, ho⟩
  · rw [ins_get us i j _ hi] at hr
    rw [ins_get us i k _ hi] at hs'
    have new_old : ∀ (j' : Nat) (r : Value × Value), us[j']? = some r → u2.ownBlock = none ∨ u2.ownBlock ≠ r.2.ownBlock := fun j' r hr => by
      cases ho : u2.ownBlock with
      | none => exact .inl rfl
      | some g' => exact .inr fun e => by have := hold j' r hr g' e.symm; have := (hptsNew g' ho).1; omega
    have old_new : ∀ (j' : Nat) (r : Value × Value), us[j']? = some r → r.2.ownBlock = none ∨ r.2.ownBlock ≠ u2.ownBlock := fun j' r hr => by
      cases ho : r.2.ownBlock with
      | none => exact .inl rfl
      | some g' => exact .inr fun e => by have := hold j' r hr g' ho; have := (hptsNew g' e.symm).1; omega
    by_cases hj : j < i
    · rw [if_pos hj] at hr
      by_cases hk' : k < i
      · rw [if_pos hk'] at hs'; exact h.apart j k r s hjk hr hs'
      · rw [if_neg hk'] at hs'
        by_cases hke : k = i
        · rw [if_pos hke] at hs'; cases hs'; exact old_new j r hr
        · rw [if_neg hke] at hs'; exact h.apart j (k - 1) r s (by omega) hr hs'
    · rw [if_neg hj] at hr
      by_cases hje : j = i
      · rw [if_pos hje] at hr
        cases hr
        by_cases hk' : k < i
        · rw [if_pos hk'] at hs'; exact new_old k s hs'
        · rw [if_neg hk', if_neg (by omega)] at hs'; exact new_old (k - 1) s hs'
      · rw [if_neg hje] at hr
        by_cases hk' : k < i
        · rw [if_pos hk'] at hs'; exact h.apart (j - 1) k r s (by omega) hr hs'
        · rw [if_neg hk'] at hs'
          by_cases hke : k = i
          · rw [if_pos hke] at hs'; cases hs'; exact old_new (j - 1) r hr
          · rw [if_neg hke] at hs'; exact h.apart (j - 1) (k - 1) r s (by omega) hr hs'
end Go.Proofs.Ytmidpekkomhogaa.Sto
end

section
/- The store: putFirst. -/

namespace Go.Proofs.Ytmidpekkomhogaa.Sto
open Go.RowKit

theorem st_put {F : Nat → Prop} {w w2 : World} {p : Nat} {v c0 : Value} {us : List (Value × Value)} {xs : List Srs} (hl : ∀ k, F k → k < w.heap.size) (hp : F p) (hs : w.heap.size ≤ w2.heap.size) (hc : w2.heap[p]? = some (.cells #[c0] 31 (0, 0)))
    (hr : Row (Grow F w w2) (w2.setCell ⟨p, 0, none⟩ v) v us xs) : St (Grow F w (w2.setCell ⟨p, 0, none⟩ v)) (w2.setCell ⟨p, 0, none⟩ v) p xs := by
  have hsz : (w2.setCell ⟨p, 0, none⟩ v).heap.size = w2.heap.size := by simp [World.setCell]
  refine ⟨grow_low hl (by rw [hsz]; exact hs), .inl hp, v, us, heap_setCell_same w2 p 0 #[c0] 31 v hc, hr.same (Nat.le_refl _) (fun _ _ => rfl) fun k hk => ?_⟩
  rcases hk with hk | hk
  · exact .inl hk
  · exact .inr ⟨hk.1, by rw [hsz]; exact hk.2⟩
set_option maxHeartbeats 4000000 in
set_option maxRecDepth 100000 in
theorem putFirst_any (F : Nat → Prop) (w : World) (p n i m c2 : Nat) (v : Value) (us : List (Value × Value)) (xs : List Srs) (o2 : Option Addr) (l : Labs) (t z : Int) (hl : ∀ k, F k → k < w.heap.size) (hp : F p) (hw : w.heap[p]? = some (.cells #[v] 31 (0, 0))) (h : Row F w v us xs)
    (hn : us.length = n) (hn40 : n ≤ 40) (hi : i ≤ n) (hm : l.length = m) (hls : Small l) (hS : SeesO w o2 l) :
    Calls Try.prog 20 #[.pointer (some ⟨p, 0, none⟩), .int .i64 i, .slice o2 m c2, .agg #[.int .i64 t, .int .i64 z]] w fun e w' =>
      (40 ≤ n ∧ e = .returned (.int .i64 8) ∧ Below w.heap.size w w') ∨ (¬ 40 ≤ n ∧ e = .returned (.int .i64 0) ∧ Sep F w w' ∧ St (Grow F w w') w' p (xs.take i ++ (l, [(t, z)]) :: xs.drop i)) := by
  obtain ⟨o, c, rfl, _⟩ := own_shape h.own
  rw [hn] at hw h
  have hpl := hl p hp
  have q0 : w.cell? ⟨p, 0, none⟩ = some (.slice o n c) := by simp [World.cell?, hw]
  obtain ⟨W, hW⟩ : ∃ W, w.alloc (Obj.cells #[.int .i64 t, .int .i64 z] 54) = W := ⟨_, rfl⟩
  have hB : Below w.heap.size w W := by rw [← hW]; exact (Below.refl _ _).alloc (Nat.le_refl _) _
  have hWs : W.heap.size = w.heap.size + 1 := by rw [← hW]; simp
  have hWx : W.heap[w.heap.size]? = some (.cells #[.int .i64 t, .int .i64 z] 54 (0, 0)) := by rw [← hW]; exact Array.getElem?_push_size
  have b0 : W.cell? ⟨w.heap.size, 0, none⟩ = some (.int .i64 t) := by simp [World.cell?, hWx]
  have b1 : W.cell? ⟨w.heap.size, 1, none⟩ = some (.int .i64 z) := by simp [World.cell?, hWx]
  have d0 : W.cell? ⟨p, 0, none⟩ = some (.slice o n c) := (hB.cell (p := ⟨p, 0, none⟩) hpl).trans q0
  have HB := Lib.hid hB
  have HX := Lib.hid hWx
  clear hB hWx q0
  by_cases h40 : 40 ≤ n
  · have h4 : (40 : Int) ≤ n := by omega
    go_enter Try.func20, Try.ntmps20
    go_wp2
    go_ret
    exact .inl ⟨h40, rfl, HB.out⟩
  · have h4 : ¬ (40 : Int) ≤ n := by omega
    -- the series told anew
    have HC := Lib.hid (fun (V : World) (b : Nat) (hb : Below w.heap.size w V) (hx : V.heap[b]? = some (.cells #[.int .i64 t, .int .i64 z] 54 (0, 0))) => clone_ser o2 m c2 b 0 1 1 (l, [(t, z)]) V hm rfl hls (by decide) (by decide) (hS.below hb) ⟨(Array.getElem?_eq_some_iff.1 hx).1, fun j y hy => by
        match j, hy with
        | 0, hy => simp at hy; subst hy; simp [World.cell?, hx]
        | j + 1, hy => simp at hy, fun j y hy => by
        match j, hy with
        | 0, hy => simp at hy; subst hy; simp [World.cell?, hx]
        | j + 1, hy => simp at hy⟩)
    go_enter Try.func20, Try.ntmps20
    go_wp2_with fail
    have hWB : Below w.heap.size w (W.alloc (Obj.cells #[.int .i64 t, .int .i64 z] 54)) := HB.out.alloc (by omega) _
    have hWb : (W.alloc (Obj.cells #[.int .i64 t, .int .i64 z] 54)).heap[w.heap.size + 1]? = some (.cells #[.int .i64 t, .int .i64 z] 54 (0, 0)) := by rw [← hWs]; exact Array.getElem?_push_size
    refine (HC.out _ _ hWB hWb).mono ?_
    rintro e V ⟨⟨u, v', rfl, hT⟩, bV⟩
    obtain ⟨oA, cA, rfl, _⟩ := own_shape hT.1
    obtain ⟨oB, cB, rfl, _⟩ := own_shape hT.2
    have HBV := Lib.hid (hWB.trans (bV.mono hWB.size))
    have HT := Lib.hid (hT.mono hWB.size)
    have HLn := Lib.hid (show l.length ≤ maxLen by have := hls.len; unfold maxLen; omega)
    have g0 : V.cell? ⟨p, 0, none⟩ = some (.slice o n c) := (HBV.out.cell (p := ⟨p, 0, none⟩) hpl).trans (by simp [World.cell?, hw])
    clear bV hWB hWb hT b0 b1 d0 hW hWs HX HC HB
    dsimp only at HT ⊢
    rw [show ([(t, z)] : List Pt).length = 1 from rfl] at HT ⊢
    have HTm := Lib.hid (show Told w.heap.size V (l, [(t, z)]) (.slice oA m cA) (.slice oB 1 cB) by rw [← hm]; exact HT.out)
    rw [hm]
    clear HT HLn
    obtain ⟨V1, hV1⟩ : ∃ V1, V.alloc (Obj.cells #[.slice oA m cA, .slice oB 1 cB] 52) = V1 := ⟨_, rfl⟩
    have hB1 : Below V.heap.size V V1 := by rw [← hV1]; exact (Below.refl _ _).alloc (Nat.le_refl _) _
    have hX1 : V1.heap[V.heap.size]? = some (.cells #[.slice oA m cA, .slice oB 1 cB] 52 (0, 0)) := by rw [← hV1]; exact Array.getElem?_push_size
    have r0 : V1.cell? ⟨V.heap.size, 0, none⟩ = some (.slice oA m cA) := by simp [World.cell?, hX1]
    have r1 : V1.cell? ⟨V.heap.size, 1, none⟩ = some (.slice oB 1 cB) := by simp [World.cell?, hX1]
    have hpV : p < V.heap.size := Nat.lt_of_lt_of_le hpl HBV.out.size
    have r2 : V1.cell? ⟨p, 0, none⟩ = some (.slice o n c) := (hB1.cell (p := ⟨p, 0, none⟩) hpV).trans g0
    have hpV1 : p < V1.heap.size := Nat.lt_of_lt_of_le hpV hB1.size
    have hB2 : Below V1.heap.size V1 (V1.alloc (Obj.cells #[.slice oA m cA, .slice oB 1 cB] 52)) := (Below.refl _ _).alloc (Nat.le_refl _) _
    have r3 : (V1.alloc (Obj.cells #[.slice oA m cA, .slice oB 1 cB] 52)).cell? ⟨p, 0, none⟩ = some (.slice o n c) := (hB2.cell (p := ⟨p, 0, none⟩) hpV1).trans r2
    have hwV1 : Below w.heap.size w V1 := HBV.out.trans (hB1.mono HBV.out.size)
    have hU : Below w.heap.size w (V1.drew.alloc (Obj.cells #[.slice oA m cA, .slice oB 1 cB] 52)) := hwV1.drew.alloc hwV1.size _
    have hUx : (V1.drew.alloc (Obj.cells #[.slice oA m cA, .slice oB 1 cB] 52)).heap[V1.heap.size]? = some (.cells #[.slice oA m cA, .slice oB 1 cB] 52 (0, 0)) := Array.getElem?_push_size
    have hUn : ∀ g, (Value.slice o n c).ownBlock = some g → V1.heap.size ≠ g := fun g hg => by have := hl g (h.ownF g hg); have := hwV1.size; omega
    have hflat : ∀ z ∈ Ser.flatU us, z.oneCell' = true := by
      intro y hy
      unfold Ser.flatU at hy
      obtain ⟨q, hq, hy⟩ := List.mem_flatMap.1 hy
      obtain ⟨j, hj⟩ := List.getElem?_of_mem hq
      have hin : j < xs.length := by rw [← h.len]; exact (List.getElem?_eq_some_iff.1 hj).1
      obtain ⟨q', hq', ho⟩ := h.one j xs[j] (List.getElem?_eq_getElem hin)
      rw [hj] at hq'
      cases hq'
      obtain ⟨oL, cL, e1, _⟩ := ho.lab
      obtain ⟨oP, cP, e2, _⟩ := own_shape ho.pts
      simp at hy
      rcases hy with hy | hy
      · rw [hy, e1]; rfl
      · rw [hy, e2]; rfl
    have hownU : (V1.drew.alloc (Obj.cells #[.slice oA m cA, .slice oB 1 cB] 52)).ownsRow 0 52 2 (.slice o n c) n (Ser.flatU us) := by
      have := own_same (w' := V1.drew.alloc (Obj.cells #[.slice oA m cA, .slice oB 1 cB] 52)) h.own fun g hg => hU.block g (hl g (h.ownF g hg))
      rw [hn] at this
      exact this
    have HI := Lib.hid (insert_any 0 n i V1.heap.size (.slice o n c) (.slice oA m cA) (.slice oB 1 cB) us (V1.drew.alloc (Obj.cells #[.slice oA m cA, .slice oB 1 cB] 52)) (Nat.zero_le _) hn hi (by omega) hownU hUx hUn (Ser.one_2v _ _ _ _ _ _) hflat)
    have hne : some p ≠ (Value.slice o n c).ownBlock := fun e => typ_ne ⟨_, _, hw⟩ (own_typ h.own e.symm) (by decide) rfl
    have HNE := Lib.hid hne
    have HU := Lib.hid hU
    have hpU : p < (V1.drew.alloc (Obj.cells #[.slice oA m cA, .slice oB 1 cB] 52)).heap.size := by have := hU.size; omega
    have hcU : (V1.drew.alloc (Obj.cells #[.slice oA m cA, .slice oB 1 cB] 52)).cell? ⟨p, 0, none⟩ = some (.slice o n c) := r3
    have hfU : (V1.drew.alloc (Obj.cells #[.slice oA m cA, .slice oB 1 cB] 52)).frozen? ⟨p, 0, none⟩ = false := by
      have h1 := hU.block p hpl
      simp [World.frozen?, h1, hw]
    have HCU := Lib.hid (And.intro hcU hfU)
    have HTU := Lib.hid (HTm.out.below (show Below V.heap.size V (V1.drew.alloc (Obj.cells #[.slice oA m cA, .slice oB 1 cB] 52)) from (hB1.drew).alloc hB1.size _))
    have HR := Lib.hid h
    clear hU hUx hUn hflat hownU hne hcU hfU hwV1 hB1 hB2 hX1 h HTm
    go_wp2_with fail
    go_region_with (go_at_call 31; refine HI.out.mono ?_; rintro e w2 ⟨⟨g, cap, rfl, hi2, ha2⟩, hg2⟩; have k0 := (hg2.cell_far ⟨p, 0, none⟩ hpU HNE.out).trans HCU.out.1; have k1 := (hg2.frozen_far ⟨p, 0, none⟩ hpU HNE.out).trans HCU.out.2)
    all_goals
      have HRI := Lib.hid (Row.ins HR.out hl HU.out hp ⟨_, _, hw⟩ HTU.out hn hi hi2 hg2 ha2)
      have HF2 := Lib.hid (And.intro (Nat.le_trans HU.out.size hg2.size) (((hg2.block p hpU HNE.out).trans (HU.out.block p hpl)).trans hw))
      clear hi2 hg2 ha2
      go_wp2
      go_ret
      exact .inr ⟨h40, rfl, HRI.out.2, st_put hl hp HF2.out.1 HF2.out.2 HRI.out.1⟩
end Go.Proofs.Ytmidpekkomhogaa.Sto
end

section
/- The store: Put. -/

namespace Go.Proofs.Ytmidpekkomhogaa.Sto
open Go.RowKit

/-- What Put makes of a store, and the error. -/
def putC (xs : List Srs) (l : Labs) (t z : Int) : List Srs × Int := if mayB l = true ∧ (0 ≤ t ∧ t ≤ 1000000000) ∧ Fix.rgtB z = true then putF (K := Labs) xs l (t, z) else (xs, 1)
theorem St.quiet {F : Nat → Prop} {w w' : World} {p : Nat} {xs : List Srs} (h : St F w p xs) (hb : Below w.heap.size w w') : Sep F w w' ∧ St (Grow F w w') w' p xs :=
  ⟨Sep.of_below hb, h.grow hb.size fun k hk => hb.block k (h.low k hk)⟩
/-- Where the place is of labels that no series has. -/
theorem no_has {xs : List Srs} {l : Labs} (hr : Rises (K := Labs) xs) (h : hasB l xs = false) : xs[rank (K := Labs) l xs]? = none ∨ ∃ a, xs[rank (K := Labs) l xs]? = some a ∧ Keys.lt l a.1 = true := by
  unfold hasB at h
  cases hx : xs[rank (K := Labs) l xs]? with
  | none => exact .inl rfl
  | some a =>
    rw [hx] at h
    right
    refine ⟨a, rfl, ?_⟩
    have h1 := rank_ge (K := Labs) hr hx (Nat.le_refl _)
    rw [lt_no] at h1
    rw [lt_iff]
    have h2 := cmpL_swap a.1 l
    simp at h
    omega
theorem has_is {xs : List Srs} {l : Labs} (h : hasB l xs = true) : ∃ a, xs[rank (K := Labs) l xs]? = some a ∧ a.1 = l ∧ Keys.lt l a.1 = false := by
  unfold hasB at h
  cases hx : xs[rank (K := Labs) l xs]? with
  | none => rw [hx] at h; cases h
  | some a =>
    rw [hx] at h
    have e := (cmpL_zero a.1 l).1 (by simpa using h)
    refine ⟨a, rfl, e, ?_⟩
    rw [e]
    exact Keys.irr l
theorem fine_put {xs : List Srs} {l : Labs} (t z : Int) (hf : Fine xs) (hl : Small l) : Fine (putC xs l t z).1 := by
  unfold putC
  split
  · have hR := rises_putF (K := Labs) hf.rises l (t, z)
    refine ⟨?_, ?_, hR⟩
    · unfold putF
      split
      · split
        · exact hf.few
        · split
          · exact hf.few
          · next h _ _ =>
            show (ins (K := Labs) l (t, z) xs).length ≤ 40
            rw [len_ins, h]; simp; exact hf.few
      · next h =>
        split
        · exact hf.few
        · show (ins (K := Labs) l (t, z) xs).length ≤ 40
          rw [len_ins, h]; simp; omega
    · cases hh : hasB l xs with
      | false =>
        rw [putF_new (no_has hf.rises hh)]
        split
        · exact hf.each
        · intro x hx
          simp only [List.mem_append, List.mem_cons] at hx
          rcases hx with hx | rfl | hx
          · exact hf.each x (List.mem_of_mem_take hx)
          · exact ⟨hl, by simp, by simp⟩
          · exact hf.each x (List.mem_of_mem_drop hx)
      | true =>
        obtain ⟨a, ha, _, hlt⟩ := has_is hh
        rw [putF_old ha hlt]
        split
        · exact hf.each
        · split
          · exact hf.each
          · next h25 =>
            intro x hx
            rcases List.mem_or_eq_of_mem_set hx with hx | rfl
            · exact hf.each x hx
            · have h1 := hf.each a (List.mem_of_getElem? ha)
              refine ⟨h1.1, by simp, by simp; omega⟩
  · exact hf

theorem next_k {P : Program} {f : FuncId} {args : Array Value} {w : World} {gs j gp nP : Nat} {T t : Int} {L2 : List Value} (h : Calls P f args w fun e w' => NextTo w w' gs j gp nP T t L2 e) : Calls P f args w fun e w' => ∃ k, e = .returned (.int .i64 k) ∧ NextTo w w' gs j gp nP T t L2 (.returned (.int .i64 k)) :=
  h.mono fun e w' q => by
    have q2 := q
    rcases q with ⟨_, rfl, _⟩ | ⟨_, _, rfl, _⟩ | ⟨_, _, rfl, _⟩ <;> exact ⟨_, rfl, q2⟩
theorem St.wide {F : Nat → Prop} {a b c : World} {p : Nat} {xs : List Srs} (h : St (Grow F b c) c p xs) (hs : a.heap.size ≤ b.heap.size) (_hc : b.heap.size ≤ c.heap.size) : St (Grow F a c) c p xs :=
  h.same (Nat.le_refl _) (fun _ _ => rfl) (fun k hk => by
    rcases hk with hk | hk
    · exact .inl hk
    · exact .inr ⟨by omega, hk.2⟩) fun k hk => by
    rcases hk with hk | hk
    · exact h.low k (.inl hk)
    · exact hk.2

set_option maxHeartbeats 4000000 in
set_option maxRecDepth 100000 in
theorem put_any (F : Nat → Prop) (w : World) (p m c2 : Nat) (xs : List Srs) (o2 : Option Addr) (l : Labs) (t z : Int) (h : St F w p xs) (hf : Fine xs) (hm : l.length = m) (hls : Small l) (hS : SeesO w o2 l) :
    Calls Try.prog 7 #[.pointer (some ⟨p, 0, none⟩), .slice o2 m c2, .int .i64 t, .int .i64 z] w fun e w' =>
      e = .returned (.int .i64 (putC xs l t z).2) ∧ Sep F w w' ∧ St (Grow F w w') w' p (putC xs l t z).1 := by
  have HMay := Lib.hid (fun W (hb : Below w.heap.size w W) => (show Calls Try.prog 15 #[.slice o2 m c2] W fun e w' => e = .returned (.bool (mayB l)) ∧ Below W.heap.size W w' by
    rw [← hm]; exact may_any o2 c2 l W hls (hS.below hb)))
  have HTime := Lib.hid (fun W => inTime_any t W)
  have HRgt := Lib.hid (fun W => (Fix.right_any z W).mono fun e w' (q : _ ∧ W = w') => (show e = .returned (.bool (Fix.rgtB z)) ∧ w' = W from ⟨q.1, q.2.symm⟩))
  obtain ⟨W, hW⟩ : ∃ W, w.alloc (Obj.cells #[.int .i64 t, .int .i64 z] 54) = W := ⟨_, rfl⟩
  have hB : Below w.heap.size w W := by rw [← hW]; exact (Below.refl _ _).alloc (Nat.le_refl _) _
  have hWx : W.heap[w.heap.size]? = some (.cells #[.int .i64 t, .int .i64 z] 54 (0, 0)) := by rw [← hW]; exact Array.getElem?_push_size
  have HB := Lib.hid hB
  have HX := Lib.hid hWx
  clear hB hWx
  by_cases hok : mayB l = true ∧ (0 ≤ t ∧ t ≤ 1000000000) ∧ Fix.rgtB z = true
  · obtain ⟨k1, k2, k3⟩ := hok
    rw [k1] at HMay
    rw [decide_eq_true k2] at HTime
    rw [k3] at HRgt
    have HE := Lib.hid (show putC xs l t z = putF (K := Labs) xs l (t, z) by unfold putC; rw [if_pos ⟨k1, k2, k3⟩])
    rw [HE.out]
    obtain ⟨v, us, hw, hrow⟩ := h.row
    have hlow := h.low
    have hp := h.fp
    have hpl := hlow p hp
    obtain ⟨o, c, rfl, hse, hnm⟩ := hrow.sees fun x hx => by have := (hf.each x hx).1.len; unfold maxLen; omega
    obtain ⟨n, hn⟩ : ∃ n, xs.length = n := ⟨_, rfl⟩
    have hun : us.length = n := by rw [hrow.len, hn]
    have hn40 : n ≤ 40 := by rw [← hn]; exact hf.few
    obtain ⟨r, hr⟩ : ∃ r, rank (K := Labs) l xs = r := ⟨_, rfl⟩
    have hrn : r ≤ n := by rw [← hr, ← hn]; exact rank_le _ _
    rw [hn] at hw hrow
    have HSe := Lib.hid (fun W (hb : Below w.heap.size w W) => (show Calls Try.prog 18 #[.slice o n c, .slice o2 m c2, .func (.func 19) #[] #[]] W fun e w' => e = .returned (.tuple #[.int .i64 (r : Nat), .bool (hasB l xs)]) ∧ Below W.heap.size W w' by
      rw [← hr]
      exact search_any o o2 n c m c2 xs l W hn hm hf (by have := hls.len; omega) (hse.below hb) (hS.below hb)))
    have HROW := Lib.hid hrow
    have HF := Lib.hid hf
    have HSL := Lib.hid hS
    have HWP := Lib.hid hw
    have rp : ∀ W, Below w.heap.size w W → W.cell? ⟨p, 0, none⟩ = some (.slice o n c) := fun W hb => (hb.cell (p := ⟨p, 0, none⟩) hpl).trans (by simp [World.cell?, hw])
    have RP := Lib.hid rp
    have rx : ∀ W', Below W.heap.size W W' → W'.cell? ⟨w.heap.size, 0, none⟩ = some (.int .i64 t) ∧ W'.cell? ⟨w.heap.size, 1, none⟩ = some (.int .i64 z) := fun W' hb => by
      have h1 := (hb.block _ (Array.getElem?_eq_some_iff.1 HX.out).1).trans HX.out
      constructor <;> simp [World.cell?, h1]
    have RX := Lib.hid rx
    clear h hrow hse hf hS hw rp rx k1 k2 k3
    go_enter Try.func7, Try.ntmps7
    go_wp2_with fail
    refine (HMay.out _ HB.out).mono ?_
    rintro e w1 ⟨rfl, b1⟩
    have HB1 := Lib.hid (And.intro b1 (HB.out.trans (b1.mono HB.out.size)))
    clear b1
    go_wp2_with fail
    refine (HTime.out _).mono ?_
    rintro e w2 ⟨rfl, rfl⟩
    go_wp2_with fail
    refine (HRgt.out _).mono ?_
    rintro e w3 ⟨rfl, rfl⟩
    have q1 := RP.out w3 HB1.out.2
    go_wp2_with fail
    refine (HSe.out _ HB1.out.2).mono ?_
    rintro e w4 ⟨rfl, b4⟩
    have HB4 := Lib.hid (show Below W.heap.size W w4 from HB1.out.1.trans (b4.mono HB1.out.1.size))
    have HB5 := Lib.hid (show Below w.heap.size w w4 from HB1.out.2.trans (b4.mono HB1.out.2.size))
    have q2 := RP.out w4 HB5.out
    obtain ⟨q3, q4⟩ := RX.out w4 HB4.out
    clear b4 q1
    cases hh : hasB l xs with
    | false =>
      have HPF := Lib.hid (no_has HF.out.rises hh)
      rw [hr] at HPF
      have HPN := Lib.hid (putF_new (K := Labs) (x := (t, z)) (no_has HF.out.rises hh))
      rw [hr, hn] at HPN
      have HCall := Lib.hid (putFirst_any F w4 p n r m c2 (.slice o n c) us xs o2 l t z (fun k hk => Nat.lt_of_lt_of_le (hlow k hk) HB5.out.size) hp ((HB5.out.block p hpl).trans HWP.out) (HROW.out.same HB5.out.size (fun k hk => HB5.out.block k (hlow k hk)) fun _ h => h) hun hn40 hrn hm hls (HSL.out.below HB5.out))
      clear hh
      go_wp2_with fail
      refine HCall.out.mono ?_
      rintro e w5 hq
      have HQ := Lib.hid hq
      clear hq
      rcases HQ.out with ⟨h1, rfl, h3⟩ | ⟨h1, rfl, h3, h4⟩
      · have HD := Lib.hid (And.intro h1 h3)
        clear h1 h3 HQ
        go_wp2
        go_ret
        have hb := HB5.out.trans (HD.out.2.mono HB5.out.size)
        rw [HPN.out, if_pos HD.out.1]
        exact ⟨rfl, Sep.of_below hb, St.grow (w' := w5) ⟨hlow, hp, _, us, HWP.out, HROW.out⟩ hb.size fun k hk => hb.block k (hlow k hk)⟩
      · have HD := Lib.hid (And.intro h1 (And.intro h3 h4))
        clear h1 h3 h4 HQ
        go_wp2
        go_ret
        rw [HPN.out, if_neg HD.out.1]
        exact ⟨rfl, (Sep.of_below HB5.out).next HD.out.2.1, St.wide HD.out.2.2 HB5.out.size HD.out.2.1.size⟩
    | true =>
      obtain ⟨a, ha, hal, hlt⟩ := has_is hh
      have HPO := Lib.hid (putF_old (K := Labs) (x := (t, z)) ha hlt)
      rw [hr] at ha HPO
      have hfa := HF.out.each a (List.mem_of_getElem? ha)
      obtain ⟨q, hq, hone⟩ := HROW.out.one r a ha
      have hown := HROW.out.own
      rw [hun] at hown
      obtain ⟨gs, hgs, rfl⟩ : ∃ gs, (Value.slice o n c).ownBlock = some gs ∧ o = some ⟨gs, 0, none⟩ := by
        rcases hown.2 with ⟨e, h0⟩ | ⟨g', cap', cur, e, _⟩
        · have := (List.getElem?_eq_some_iff.1 ha).1; omega
        · cases e; exact ⟨g', rfl, rfl⟩
      have hgF : F gs := HROW.out.ownF gs hgs
      have hgl := hlow gs hgF
      obtain ⟨f0, f1⟩ := Ser.flatU_at us r q hq
      have e0 := hown.cells (g := gs) rfl (r * 2) _ f0
      have e1 := hown.cells (g := gs) rfl (r * 2 + 1) _ f1
      have hadd : ∀ k, (⟨gs, 0, none⟩ : Addr).add k = ⟨gs, k, none⟩ := fun k => by unfold Addr.add; split <;> simp_all
      rw [hadd] at e0 e1
      have e2 := hown.frozenAt (r * 2 + 1)
      obtain ⟨oL, cL, a1, _⟩ := hone.lab
      obtain ⟨m', hm'⟩ : ∃ m', a.2.length = m' + 1 := ⟨a.2.length - 1, by omega⟩
      have hpts := hone.pts
      rw [hm'] at hpts
      obtain ⟨gp, cP, a2⟩ : ∃ gp cP, q.2 = .slice (some ⟨gp, 0, none⟩) (m' + 1) cP := by
        rcases hpts.2 with ⟨_, h0⟩ | ⟨g', cap', cur, e, _⟩
        · omega
        · exact ⟨g', cap', e⟩
      rw [a1] at e0
      rw [a2] at e1 hpts
      have hgp : gs ≠ gp := fun e => by
        subst e
        exact typ_ne (own_typ hown hgs) (own_typ hpts rfl) (by decide) rfl
      have HNx := Lib.hid (next_k (putNext_any w4.drew gs r gp m' cP a.2 t z (.slice oL a.1.length cL) (Nat.lt_of_lt_of_le hgl HB5.out.size) hgp ((HB5.out.cell (p := ⟨gs, r * 2, none⟩) hgl).trans e0) ((HB5.out.cell (p := ⟨gs, r * 2 + 1, none⟩) hgl).trans e1) ((HB5.out.frozen (p := ⟨gs, r * 2 + 1, none⟩) hgl).trans e2) (own_grown hpts HB5.out.drew) hm' (by omega)))
      have h25 : a.2.length ≤ 25 := hfa.2.2
      have HQ := Lib.hid hq
      have HA := Lib.hid ha
      have HAL := Lib.hid hal
      have HM := Lib.hid hm'
      have HA2 := Lib.hid a2
      have HGS := Lib.hid hgs
      have hrn2 : r < n := by have := (List.getElem?_eq_some_iff.1 ha).1; omega
      have hri : (r : Int) < n := by omega
      clear hh ha hal hlt hq hone hown f0 f1 e0 e1 e2 hadd a1 hpts a2 hfa hm' hgs
      go_wp2_with fail
      go_region_with (go_at_call 21; refine HNx.out.mono ?_; rintro e w5 ⟨ke, rfl, hq⟩)
      all_goals
        have HN5 := Lib.hid hq
        clear hq
        have hbd : Below w.heap.size w w4.drew := HB5.out.drew
        have HBD := Lib.hid hbd
        clear hbd
        rcases HN5.out with ⟨h1, he, h3⟩ | ⟨h1, h2, he, h3⟩ | ⟨h1, h2, he, w6, g1, c1, g2, g3, g4, g5, g6⟩ <;> cases he
        · have HD := Lib.hid (And.intro h1 h3)
          clear h1 h3 HN5
          go_wp2
          go_ret
          have hb := HBD.out.trans (HD.out.2.mono HBD.out.size)
          rw [HPO.out, if_pos HD.out.1]
          exact ⟨rfl, Sep.of_below hb, St.grow (w' := w5) ⟨hlow, hp, _, us, HWP.out, HROW.out⟩ hb.size fun k hk => hb.block k (hlow k hk)⟩
        · have HD := Lib.hid (And.intro h1 (And.intro h2 h3))
          clear h1 h2 h3 HN5
          go_wp2
          go_ret
          have hb := HBD.out.trans (HD.out.2.2.mono HBD.out.size)
          rw [HPO.out, if_neg (Int.not_le.2 HD.out.1), HM.out, if_pos HD.out.2.1]
          exact ⟨rfl, Sep.of_below hb, St.grow (w' := w5) ⟨hlow, hp, _, us, HWP.out, HROW.out⟩ hb.size fun k hk => hb.block k (hlow k hk)⟩
        · have HD := Lib.hid (And.intro h1 (And.intro h2 (And.intro g2 (And.intro g3 (And.intro g4 (And.intro g5 g6))))))
          clear h1 h2 g2 g3 g4 g5 g6 HN5
          go_wp2
          go_ret
          obtain ⟨h1, h2, g2, g3, g4, g5, rfl⟩ := HD.out
          rw [HPO.out, if_neg (Int.not_le.2 h1), HM.out, if_neg (by omega)]
          have hM := HM.out
          have hrow4 : Row F w4.drew (.slice (some ⟨gs, 0, none⟩) n c) us xs := HROW.out.same HBD.out.size (fun k hk => HBD.out.block k (hlow k hk)) fun _ h => h
          have hmore := Row.more (w := w4.drew) (w1 := w6) (gs := gs) (g1 := g1) (c1 := c1) (pt := (t, z)) hrow4 (fun k hk => Nat.lt_of_lt_of_le (hlow k hk) HBD.out.size) HGS.out HQ.out HA.out (by rw [HA2.out]; exact g2) (by rw [hM]; exact g3) (by rw [HA2.out]; exact g4.imp (fun e => by rw [e]; rfl) id) g5
          rw [hM] at hmore
          obtain ⟨m1, m2⟩ := hmore
          have hsz : (w6.setCell ⟨gs, r * 2 + 1, none⟩ (.slice (some ⟨g1, 0, none⟩) (m' + 1 + 1) c1)).heap.size = w6.heap.size := by simp [World.setCell]
          have hpF : (w6.setCell ⟨gs, r * 2 + 1, none⟩ (.slice (some ⟨g1, 0, none⟩) (m' + 1 + 1) c1)).heap[p]? = some (.cells #[.slice (some ⟨gs, 0, none⟩) n c] 31 (0, 0)) := by
            have t1 : ∃ cs m, w4.drew.heap[p]? = some (.cells cs 31 m) := ⟨_, _, (HBD.out.block p hpl).trans HWP.out⟩
            rw [Below.heap_setCell _ _ _ _ (typ_ne t1 (own_typ hrow4.own HGS.out) (by decide))]
            rw [g2.block p (Nat.lt_of_lt_of_le hpl HBD.out.size) (fun e => by
              cases e
              obtain ⟨q', hq', ho'⟩ := hrow4.one r a HA.out
              rw [HQ.out] at hq'
              cases hq'
              exact typ_ne t1 (own_typ ho'.pts (by rw [HA2.out]; rfl)) (by decide) rfl)]
            exact (HBD.out.block p hpl).trans HWP.out
          refine ⟨rfl, (Sep.of_below HBD.out).next m2, grow_low hlow (Nat.le_trans HBD.out.size m2.size), .inl hp, _, _, hpF, m1.same (Nat.le_refl _) (fun _ _ => rfl) fun k hk => ?_⟩
          have := HBD.out.size
          rcases hk with hk | hk
          · exact .inl hk
          · exact .inr ⟨by omega, by rw [hsz]; exact hk.2⟩
  · have HE := Lib.hid (show putC xs l t z = (xs, 1) by unfold putC; rw [if_neg hok])
    rw [HE.out]
    have HH := Lib.hid h
    clear h hf hS hls
    cases h1 : mayB l with
    | false =>
      rw [h1] at HMay
      clear h1 hok
      go_enter Try.func7, Try.ntmps7
      go_wp2_with fail
      refine (HMay.out _ HB.out).mono ?_
      rintro e w1 ⟨rfl, b1⟩
      go_wp2
      go_ret
      exact ⟨rfl, HH.out.quiet (HB.out.trans (b1.mono HB.out.size))⟩
    | true =>
      rw [h1] at HMay
      cases h2 : decide (0 ≤ t ∧ t ≤ 1000000000) with
      | false =>
        rw [h2] at HTime
        clear h1 h2 hok
        go_enter Try.func7, Try.ntmps7
        go_wp2_with fail
        refine (HMay.out _ HB.out).mono ?_
        rintro e w1 ⟨rfl, b1⟩
        go_wp2_with fail
        refine (HTime.out _).mono ?_
        rintro e w2 ⟨rfl, rfl⟩
        go_wp2
        go_ret
        exact ⟨rfl, HH.out.quiet (HB.out.trans (b1.mono HB.out.size))⟩
      | true =>
        have h3 : Fix.rgtB z = false := by
          cases h : Fix.rgtB z with
          | false => rfl
          | true => exact absurd ⟨h1, by simpa using h2, h⟩ hok
        rw [h2] at HTime
        rw [h3] at HRgt
        clear h1 h2 h3 hok
        go_enter Try.func7, Try.ntmps7
        go_wp2_with fail
        refine (HMay.out _ HB.out).mono ?_
        rintro e w1 ⟨rfl, b1⟩
        go_wp2_with fail
        refine (HTime.out _).mono ?_
        rintro e w2 ⟨rfl, rfl⟩
        go_wp2_with fail
        refine (HRgt.out _).mono ?_
        rintro e w3 ⟨rfl, rfl⟩
        go_wp2
        go_ret
        exact ⟨rfl, HH.out.quiet (HB.out.trans (b1.mono HB.out.size))⟩
end Go.Proofs.Ytmidpekkomhogaa.Sto
end
