/- The book of rows: copies of rows, with copies of their labels. -/
import Derived.Test.YtbdnonphkobkoaaGreatKrj
import Derived.Deep.RegionHeld3
import Derived.Deep.DeepFit
namespace Go.Proofs.YtbdnonphkobkoaaGreat.BkR
open Go.RowKit
open Go.Proofs.YtbdnonphkobkoaaGreat (Lab SeesO Sees flatL flatL_len)
open Go.Proofs.YtbdnonphkobkoaaGreat.Vec (Rw RowsS ERow OwnG LabS SeesG Firm firmRow get_ltG drop_atG row_at labs_own)

theorem flatL_atK (xs : List Lab) : ∀ (j : Nat) (x : Lab), xs[j]? = some x → (flatL xs)[j * 2]? = some (.string x.1) ∧ (flatL xs)[j * 2 + 1]? = some (.string x.2) := by
  induction xs with
  | nil => intro j x h; simp at h
  | cons y ys ih =>
    intro j x h
    cases j with
    | zero => simp at h; subst h; exact ⟨rfl, rfl⟩
    | succ j =>
      have := ih j x (by simpa using h)
      rw [show (j + 1) * 2 = j * 2 + 1 + 1 by omega]
      exact this
theorem seesK {w : World} {b off : Nat} {xs : List Lab} (h : Sees w b off xs) : ∀ j u, (flatL xs)[j]? = some u → w.cell? ((⟨b, off, none⟩ : Addr).add j) = some u := by
  intro j u hj
  have hjl : j < xs.length * 2 := by have := (List.getElem?_eq_some_iff.1 hj).1; rw [flatL_len] at this; exact this
  have ha : (⟨b, off, none⟩ : Addr).add j = ⟨b, off + j, none⟩ := by
    unfold Addr.add; split
    · next h => subst h; rfl
    · rfl
  rw [ha]
  obtain ⟨x, hx⟩ : ∃ x, xs[j / 2]? = some x := ⟨_, List.getElem?_eq_getElem (by omega)⟩
  have hf := flatL_atK _ _ _ hx
  rcases Nat.mod_two_eq_zero_or_one j with hm | hm
  · rw [show j = j / 2 * 2 by omega, hf.1] at hj
    have := h.at0 _ _ hx
    rw [show off + j / 2 * 2 = off + j by omega] at this
    rw [this]; exact hj
  · rw [show j = j / 2 * 2 + 1 by omega, hf.2] at hj
    have := h.at1 _ _ hx
    rw [show off + j / 2 * 2 + 1 = off + j by omega] at this
    rw [this]; exact hj
theorem flatL_one (xs : List Lab) : ∀ v ∈ flatL xs, v.oneCell' = true := by
  intro v hv
  obtain ⟨x, _, hv⟩ := List.mem_flatMap.1 hv
  simp at hv
  rcases hv with rfl | rfl <;> rfl
theorem infoL : (Tryz.prog.info? 62).map (fun i => (i.zero, i.size, i.bytes)) = some (some (.agg #[.string ⟨#[]⟩, .string ⟨#[]⟩]), 2, 32) := by kernel_rfl

set_option maxHeartbeats 2000000 in
set_option maxRecDepth 100000 in
theorem copyLabs_any (o : Option Addr) (n cap : Nat) (xs : List Lab) (hn : xs.length = n) (hx : n ≤ 1000000) (w : World) (hS : SeesO w o xs) :
    Calls Tryz.prog 104 #[.slice o n cap] w fun e w' => (∃ o2 c2, e = .returned (.slice o2 n c2) ∧ LabS w' 0 o2 xs) ∧ Below w.heap.size w w' := by
  obtain ⟨i0, hi, hz0, hz1, hz2⟩ := info_parts infoL
  cases o with
  | none =>
    have h0 : xs = [] := by rcases hS with h | ⟨b, off, e, _⟩; exact h; cases e
    subst h0
    obtain rfl : n = 0 := hn.symm
    go_enter Tryz.func104, Tryz.ntmps104
    go_wp2
    go_ret
    exact ⟨⟨_, _, rfl, ⟨.inl rfl, fun h => absurd rfl h⟩⟩, Below.refl _ _⟩
  | some a =>
    have hnews : ∀ j u, (flatL xs)[j]? = some u → w.cell? (a.add j) = some u := by
      rcases hS with rfl | ⟨b, off, e, hc⟩
      · intro j u hu; simp [flatL] at hu
      · cases e; exact seesK hc
    clear hS
    go_enter Tryz.func104, Tryz.ntmps104
    go_wp2_with (at_builtin; go_must (refine wpList_append_own _ rfl _ _ 50 rfl w.heap.size 62 i0 (.agg #[.string ⟨#[]⟩, .string ⟨#[]⟩]) 2 32 Tryz.underlying50 hi hz0 hz1 hz2 rfl (by decide) _ 0 [] rfl (World.ownsRow_nil _ _ _ _) a n cap (flatL xs) rfl (by rw [flatL_len, hn]) hnews (flatL_one xs) (by unfold maxLen; omega) (by omega) (Nat.le_refl _) ?_); intro v' w3 hown' hgrow3 hnil3)
    have hg3 : w.grownBy w3 none := hgrow3
    clear hnil3 hgrow3
    have hown : w3.ownsRow w.heap.size 62 2 v' xs.length (flatL xs) := by rw [hn]; simpa using hown'
    obtain ⟨o2, c2, rfl, hL, _⟩ := labs_own (C := 0) hown
    rw [hn]
    go_ret
    exact ⟨⟨o2, c2, rfl, hL⟩, Below.grown (Below.refl _ _) hg3 (Nat.le_refl _) (fun j hj => by cases hj)⟩

theorem flat_set : ∀ (zs : List El) (k : Nat) (x : El) (s : Option Addr × Nat × Nat), zs[k]? = some x → (flatE zs).set (k * 2) (.slice s.1 s.2.1 s.2.2) = flatE (zs.set k (s, x.2))
  | [], _, _, _, h => by simp at h
  | y :: r, 0, x, s, h => by simp at h; subst h; rfl
  | y :: r, k + 1, x, s, h => by
    have ih := flat_set r k x s (by simpa using h)
    rw [show (k + 1) * 2 = k * 2 + 1 + 1 by omega]
    show encE y ++ (flatE r).set (k * 2) _ = encE y ++ flatE (r.set k (s, x.2))
    rw [ih]
/-- Rows in memory: their raw cells. -/
theorem raws {w : World} {B b off : Nat} {ms : List Rw} (h : SeesG (ERow B) 2 w b off ms) : ∃ xs : List El, Means B w xs ms ∧ ∀ j u, (flatE xs)[j]? = some u → w.cell? ((⟨b, off, none⟩ : Addr).add j) = some u := by
  have H : ∀ j, ∃ x : El, ∀ m, ms[j]? = some m → ERow B w (encE x) m ∧ w.cell? ⟨b, off + j * 2, none⟩ = some (.slice x.1.1 x.1.2.1 x.1.2.2) ∧ w.cell? ⟨b, off + j * 2 + 1, none⟩ = some (.int .i64 x.2) := by
    intro j
    cases hj : ms[j]? with
    | none => exact ⟨((none, 0, 0), 0), fun m hm => by cases hm⟩
    | some m =>
      obtain ⟨o, c, c0, c1, hL, lL⟩ := row_at h hj
      exact ⟨((o, m.1.length, c), m.2), fun m' hm => by cases hm; exact ⟨⟨o, c, rfl, hL, lL⟩, c0, c1⟩⟩
  obtain ⟨f, hf⟩ : ∃ f : Nat → El, ∀ j m, ms[j]? = some m → ERow B w (encE (f j)) m ∧ w.cell? ⟨b, off + j * 2, none⟩ = some (.slice (f j).1.1 (f j).1.2.1 (f j).1.2.2) ∧ w.cell? ⟨b, off + j * 2 + 1, none⟩ = some (.int .i64 (f j).2) :=
    ⟨fun j => Classical.choose (H j), fun j => Classical.choose_spec (H j)⟩
  have hat : ∀ j x, ((List.range ms.length).map f)[j]? = some x → x = f j ∧ ∃ m, ms[j]? = some m := by
    intro j x hx
    have hl : j < ms.length := by have := (List.getElem?_eq_some_iff.1 hx).1; simpa using this
    rw [List.getElem?_map, List.getElem?_range hl] at hx
    exact ⟨(Option.some.inj hx).symm, _, List.getElem?_eq_getElem hl⟩
  refine ⟨(List.range ms.length).map f, ⟨by simp, fun j x m hx hm => ?_⟩, fun j u hj => ?_⟩
  · obtain ⟨rfl, _⟩ := hat j x hx
    exact (hf j m hm).1
  · have hjl : j < ms.length * 2 := by have := (List.getElem?_eq_some_iff.1 hj).1; rw [flatE_len] at this; simpa using this
    have ha : (⟨b, off, none⟩ : Addr).add j = ⟨b, off + j, none⟩ := by
      unfold Addr.add; split
      · next h => subst h; rfl
      · rfl
    rw [ha]
    obtain ⟨x, hx⟩ : ∃ x, ((List.range ms.length).map f)[j / 2]? = some x := ⟨_, List.getElem?_eq_getElem (by simp; omega)⟩
    obtain ⟨rfl, m, hm⟩ := hat _ _ hx
    obtain ⟨_, h0, h1⟩ := hf _ _ hm
    rcases Nat.mod_two_eq_zero_or_one j with hmod | hmod
    · have e := flatE_at _ _ _ hx 0 _ rfl
      rw [show j / 2 * 2 + 0 = j by omega, hj] at e
      rw [show off + j / 2 * 2 = off + j by omega] at h0
      rw [h0]; exact e.symm
    · have e := flatE_at _ _ _ hx 1 _ rfl
      rw [show j / 2 * 2 + 1 = j by omega, hj] at e
      rw [show off + j / 2 * 2 + 1 = off + j by omega] at h1
      rw [h1]; exact e.symm
theorem own_formK {B e sz n : Nat} {v : Value} {xs : List Value} {w : World} (h : w.ownsRow B e sz v n xs) : ∃ o c, v = .slice o n c := by
  rcases own_open h with ⟨rfl, h0, _⟩ | ⟨g, cap, rfl, _⟩
  · exact ⟨none, 0, by rw [h0]⟩
  · exact ⟨_, cap, rfl⟩
theorem Means.set {B C g n c k : Nat} {w : World} {zs : List El} {ms : List Rw} {x : El} {m : Rw} (hM : Means B w zs ms) (hBC : B ≤ C) (hown : w.ownsRow C 53 2 (.slice (some ⟨g, 0, none⟩) n c) n (flatE zs)) (hx : zs[k]? = some x) (hm : ms[k]? = some m) {o2 : Option Addr} {c2 : Nat} (hL : LabS w 0 o2 m.1) :
    Means B (w.setCell ⟨g, k * 2, none⟩ (.slice o2 m.1.length c2)) (zs.set k ((o2, m.1.length, c2), x.2)) ms := by
  have hg := (hown.stored (k * 2) (.slice o2 m.1.length c2)).2
  have hr : ∀ g', some g = some g' → B ≤ g' ∧ ∃ cs q, w.heap[g']? = some (.cells cs 53 q) := by
    intro g' e
    have := Vec.own_row hown g' e
    exact ⟨Nat.le_trans hBC this.1, this.2⟩
  refine ⟨by rw [List.length_set]; exact hM.len, fun j y m' hy hm' => ?_⟩
  refine (frow0 (B := B)).grown w _ _ _ (some g) ?_ hr hg
  by_cases hjk : j = k
  · subst hjk
    rw [List.getElem?_set_self (List.getElem?_eq_some_iff.1 hx).1] at hy
    obtain rfl := Option.some.inj hy
    rw [hm] at hm'
    obtain rfl := Option.some.inj hm'
    obtain ⟨o, c', hu, _, hl⟩ := hM.one j x m hx hm
    have hv : x.2 = m.2 := by
      simp only [encE, List.cons.injEq, Value.int.injEq] at hu
      exact hu.2.1.2
    exact ⟨o2, c2, by rw [← hv]; rfl, hL.mono (Nat.zero_le _), hl⟩
  · rw [List.getElem?_set_ne (fun e => hjk e.symm)] at hy
    exact hM.one j y m' hy hm'
end Go.Proofs.YtbdnonphkobkoaaGreat.BkR
