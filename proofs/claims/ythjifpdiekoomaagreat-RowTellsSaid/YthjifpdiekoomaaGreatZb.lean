/- Walks: labels lent with room behind them, in which a mark stands; are they as they were. -/
import Derived.Test.YthjifpdiekoomaaGreatGf
import Derived.Laws.OwnMore
import Derived.Deep.DeepMust
namespace Go.Proofs.YthjifpdiekoomaaGreat
open Go.RowKit

set_option maxHeartbeats 2000000 in
set_option maxRecDepth 100000 in
theorem copyL_any (o : Option Addr) (cap : Nat) (xs : List Lab) (hx : xs.length ≤ 1000000) (hcap : o = none → cap = 0) (w : World) (hS : SeesO w o xs) :
    Calls Tryz.prog 20 #[.slice o xs.length cap] w fun e w' => (∃ v, e = .returned v ∧ w'.ownsRow w.heap.size 58 2 v xs.length (flatL xs)) ∧ Below w.heap.size w w' := by
  obtain ⟨i0, hi, hz0, hz1, hz2⟩ := info_parts info38
  cases o with
  | none =>
    obtain rfl := hcap rfl
    have h0 : xs = [] := by rcases hS with h | ⟨b, off, e, _⟩; exact h; cases e
    subst h0
    go_enter Tryz.func20, Tryz.ntmps20
    go_wp2
    go_ret
    exact ⟨⟨_, rfl, World.ownsRow_nil _ _ _ _⟩, Below.refl _ _⟩
  | some a =>
    have hnews : ∀ j u, (flatL xs)[j]? = some u → w.cell? (a.add j) = some u := by
      rcases hS with rfl | ⟨b, off, e, hc⟩
      · intro j u hu; simp [flatL] at hu
      · cases e; exact sees_all hc
    clear hS hcap
    go_enter Tryz.func20, Tryz.ntmps20
    go_wp2_with (at_builtin; go_must (refine wpList_append_own _ rfl _ _ 22 rfl w.heap.size 58 i0 (.agg #[.string ⟨#[]⟩, .string ⟨#[]⟩]) 2 32 Tryz.underlying22 hi hz0 hz1 hz2 rfl (by decide) _ 0 [] rfl (World.ownsRow_nil _ _ _ _) a xs.length cap (flatL xs) rfl (flatL_len xs) hnews (flatL_cells xs) (by unfold maxLen; omega) (by omega) (Nat.le_refl _) ?_); intro v' w3 hown' hgrow3 hnil3)
    have hg3 : w.grownBy w3 none := hgrow3
    clear hnil3 hgrow3
    go_ret
    refine ⟨⟨_, rfl, ?_⟩, Below.grown (Below.refl _ _) hg3 (Nat.le_refl _) (fun j hj => by cases hj)⟩
    simpa using hown'

/-- The mark behind labels that are lent. -/
def markL : Lab := (⟨#[109, 97, 114, 107]⟩, ⟨#[]⟩)
/-- Labels lent: the labels, and a mark behind them. -/
def LentL (w : World) (g cap : Nat) (xs : List Lab) : Prop := g < w.heap.size ∧ xs.length + 1 ≤ cap ∧ cap ≤ maxLen ∧ Sees w g 0 (xs ++ [markL])
theorem LentL.below {w w' : World} {g cap : Nat} {xs : List Lab} (h : LentL w g cap xs) (hb : Below w.heap.size w w') : LentL w' g cap xs :=
  ⟨Nat.lt_of_lt_of_le h.1 hb.size, h.2.1, h.2.2.1, h.2.2.2.below hb⟩
theorem LentL.sees {w : World} {g cap : Nat} {xs : List Lab} (h : LentL w g cap xs) : SeesO w (some ⟨g, 0, none⟩) xs :=
  .inr ⟨g, 0, rfl, h.1, fun j x hx => h.2.2.2.at0 j x (by rw [List.getElem?_append_left (List.getElem?_eq_some_iff.1 hx).1]; exact hx), fun j x hx => h.2.2.2.at1 j x (by rw [List.getElem?_append_left (List.getElem?_eq_some_iff.1 hx).1]; exact hx)⟩
theorem LentL.mark {w : World} {g cap : Nat} {xs : List Lab} (h : LentL w g cap xs) : w.cell? ⟨g, xs.length * 2, none⟩ = some (.string ⟨#[109, 97, 114, 107]⟩) := by
  have := h.2.2.2.at0 xs.length markL (by simp)
  rwa [Nat.zero_add] at this
theorem own_someL {B n : Nat} {v : Value} {xs : List Lab} {w : World} (hx : xs.length = n + 1) (h : w.ownsRow B 58 2 v (n + 1) (flatL xs)) : ∃ g cap, v = .slice (some ⟨g, 0, none⟩) (n + 1) cap ∧ (n : Int) ≤ cap ∧ g < w.heap.size ∧ n + 1 ≤ cap ∧ cap ≤ maxLen ∧ Sees w g 0 xs := by
  rw [← hx] at h ⊢
  obtain ⟨o, c, rfl, hs, hm⟩ := own_sees h
  rcases h.2 with ⟨_, h0⟩ | ⟨g, cap, cur, e, hg, hh, hn, hcap, hsz, htake⟩
  · omega
  · cases e
    rcases hs with rfl | ⟨b, off, e, hs⟩
    · simp at hx
    · cases e
      exact ⟨g, c, rfl, by omega, (Array.getElem?_eq_some_iff.1 hh).1, hn, hcap, hs⟩

set_option maxHeartbeats 2000000 in
set_option maxRecDepth 100000 in
theorem lentL_any (o : Option Addr) (cap : Nat) (xs : List Lab) (hx : xs.length ≤ 1000000) (hcap : o = none → cap = 0) (w : World) (hS : SeesO w o xs) :
    Calls Tryz.prog 7 #[.slice o xs.length cap] w fun e w' => (∃ g c, e = .returned (.slice (some ⟨g, 0, none⟩) xs.length c) ∧ LentL w' g c xs) ∧ Below w.heap.size w w' := by
  have HC := Lib.hid (fun W (hb : Below w.heap.size w W) => copyL_any o cap xs hx hcap W (hS.below hb))
  obtain ⟨i0, hi, hz0, hz1, hz2⟩ := info_parts info38
  obtain ⟨n, hn⟩ : ∃ n, xs.length = n := ⟨_, rfl⟩
  have HN := Lib.hid hn
  rw [hn] at hx HC ⊢
  clear hS hcap hn
  go_enter Tryz.func7, Tryz.ntmps7
  go_wp2_with fail
  refine (HC.out _ (Below.refl _ _)).mono ?_
  rintro e w1 ⟨⟨v, rfl, ho⟩, b1⟩
  have hl := b1.size
  have HB1 := Lib.hid b1
  clear b1
  go_wp2_with (at_builtin; go_must (refine wpList_append_own _ rfl _ _ 22 rfl w.heap.size 58 i0 (.agg #[.string ⟨#[]⟩, .string ⟨#[]⟩]) 2 32 Tryz.underlying22 hi hz0 hz1 hz2 rfl (by decide) v n (flatL xs) rfl (ho.alloc _) ⟨w1.heap.size, 0, none⟩ 1 1 [.string ⟨#[109, 97, 114, 107]⟩, .string ⟨#[]⟩] rfl rfl (cells_2 _ _ _ _) (one_2 _ _) (by unfold maxLen; omega) (by omega) (by simp; omega) ?_); intro v' w3 hown' hgrow3 hnil3; obtain ⟨g, cap', rfl, q1, F⟩ := own_someL (xs := xs ++ [markL]) (by rw [List.length_append, HN.out]; rfl) (by rw [flatL_snoc]; exact hown'); have HG := Lib.hid hgrow3; clear hown' hgrow3 hnil3)
  have HB3 := Lib.hid (Below.grown (HB1.out.alloc hl _) HG.out (by simp; omega) (fun j hj => by have := (ho.lt _ hj).1; omega) : Below w.heap.size w w3)
  go_ret
  exact ⟨⟨g, cap', rfl, F.1, by rw [HN.out]; exact F.2.1, F.2.2.1, F.2.2.2⟩, HB3.out⟩

set_option maxHeartbeats 2000000 in
set_option maxRecDepth 100000 in
theorem staysL_any (g c : Nat) (o : Option Addr) (cap : Nat) (xs : List Lab) (hx : xs.length ≤ 1000000) (w : World) (hL : LentL w g c xs) (hS : SeesO w o xs) :
    Calls Tryz.prog 13 #[.slice (some ⟨g, 0, none⟩) xs.length c, .slice o xs.length cap] w fun e w' => e = .returned (.bool true) ∧ Below w.heap.size w w' := by
  have HC := Lib.hid ((sameLabels_any (some ⟨g, 0, none⟩) o c cap xs xs w (by unfold maxLen; omega) (by unfold maxLen; omega) hL.sees hS).mono fun e w' h => (show e = .returned (.bool true) ∧ Below w.heap.size w w' from by rw [sameL_refl] at h; exact h))
  have HM := Lib.hid (fun W (hb : Below w.heap.size w W) => (hL.below hb).mark)
  have q1 := hL.2.1
  have q2 := hL.2.2.1
  obtain ⟨n, hn⟩ : ∃ n, xs.length = n := ⟨_, rfl⟩
  rw [hn] at hx q1 HC HM ⊢
  unfold maxLen at q2
  clear hL hS hn
  go_enter Tryz.func13, Tryz.ntmps13
  go_wp2_with fail
  refine HC.out.mono ?_
  rintro e w1 ⟨rfl, b1⟩
  have hm := HM.out _ b1
  have HB := Lib.hid b1
  clear b1
  go_wp2
  go_ret
  exact ⟨by simp, HB.out⟩
end Go.Proofs.YthjifpdiekoomaaGreat
