/- Walks: the number at a place. -/
import Derived.Test.YtbdnonphkobkoaaGreatFf
import Derived.Test.YtbdnonphkobkoaaGreatShelfI
namespace Go.Proofs.YtbdnonphkobkoaaGreat.Fix
open Go.RowKit Go.Lib Go.Sort

def risen (zs : List Int) : List Int := zs.mergeSort fun x y => decide (x ≤ y)
theorem risen_length (zs : List Int) : (risen zs).length = zs.length := List.length_mergeSort _
theorem risen_perm (zs : List Int) : (risen zs).Perm zs := List.mergeSort_perm _ _
theorem risen_sorted (zs : List Int) : (risen zs).Pairwise (fun a b => a ≤ b) := by
  have := List.pairwise_mergeSort (le := fun x y : Int => decide (x ≤ y)) (by intro a b c h1 h2; simp at *; omega) (by intro a b; simp; omega) zs
  exact this.imp fun h => by simpa using h

/-- Whatever is in order, and has the same numbers, is what the sort leaves. -/
theorem risen_eq {zs ys : List Int} (hp : ys.Perm zs) (hs : ys.Pairwise (fun a b => a ≤ b)) : risen zs = ys :=
  List.Perm.eq_of_pairwise (le := fun a b : Int => a ≤ b) (fun _ _ _ _ h1 h2 => Int.le_antisymm h1 h2) (risen_sorted zs) hs ((risen_perm zs).trans hp.symm)

theorem holds_own {w : World} {B g cap : Nat} {zs : List Int} (h : w.ownsRow B 3 1 (.slice (some ⟨g, 0, none⟩) zs.length cap) zs.length (zs.map (Value.int .i64))) : Holds (Value.int .i64) w g 0 zs.toArray ∧ g < w.heap.size ∧ B ≤ g := by
  rcases h.2 with ⟨e, _⟩ | ⟨g', cap', cur, e, hbg, hb, h1, h2, h3, h4⟩
  · cases e
  · cases e
    refine ⟨fun j hj => ⟨?_, by simp [World.frozen?, hb]⟩, (Array.getElem?_eq_some_iff.1 hb).1, hbg⟩
    have hj' : j < zs.length := by simpa using hj
    rw [Nat.zero_add, h.cellAt j (by omega)]
    rw [getElem!_pos zs.toArray j hj]
    simp [hj']

/-- The sort of a row of the call's own. -/
theorem sort_any {B cap g : Nat} {zs : List Int} {w : World} (hm : zs.length ≤ 1000000) (h : w.ownsRow B 3 1 (.slice (some ⟨g, 0, none⟩) zs.length cap) zs.length (zs.map (Value.int .i64))) :
    Calls Tryz.prog 195 #[.slice (some ⟨g, 0, none⟩) zs.length cap] w fun e w' => e = .returned (.tuple #[]) ∧ (∀ (j : Nat) (x : Int), (risen zs)[j]? = some x → w'.cell? ⟨g, j, none⟩ = some (.int .i64 x)) ∧ ∀ w0, B ≤ w0.heap.size → Below B w0 w → Below B w0 w' := by
  obtain ⟨hH, hg, hBg⟩ := holds_own h
  refine (Tryz.slices_Sort_int g 0 cap zs w hH hg (by omega)).mono ?_
  rintro e w' ⟨rfl, n, os, rfl⟩
  refine ⟨rfl, fun j x hx => ?_, fun w0 hB0 hw0 => ?_⟩
  · have hj : j < (risen zs).length := (List.getElem?_eq_some_iff.1 hx).1
    have hl := risen_length zs
    rw [cell?_grow _ _ _ (by simpa using hg)]
    have := cell?_putRow (Value.int .i64) (Sort.ahead w n) g 0 zs.toArray (risen zs).toArray (holds_ahead _ _ _ _ _ _ hH) (by simp [hl]) j (by simpa using hj)
    rw [Nat.zero_add] at this
    refine this.trans ?_
    rw [getElem!_pos _ _ (by simpa using hj)]
    have h2 := List.getElem?_eq_getElem hj
    rw [hx] at h2
    simpa using (Option.some.inj h2).symm
  · refine hw0.trans ⟨rfl, rfl, rfl, ?_, fun k hk => ?_⟩
    · simp [grow]
    · have hkw : k < w.heap.size := by have := hw0.size; omega
      rw [heap_grow_old _ _ (by simpa using hkw)]
      have : g ≠ k := by omega
      simp [putRow, mapBlock, Sort.ahead, Array.getElem?_modify, this]

def placeF (p : Int) (n : Nat) : Nat := max ((p.toNat * n + 99) / 100) 1
def rankF (p : Int) (zs : List Int) : Int × Bool := if zs = [] ∨ p < 0 ∨ 100 < p then (0, false) else ((risen zs).getD (placeF p zs.length - 1) 0, true)

set_option maxHeartbeats 1000000 in
set_option maxRecDepth 100000 in
theorem rank_any (p : Int) (o : Option Addr) (cap : Nat) (zs : List Int) (w : World) (hm : zs.length ≤ 1000) (hS : SeesI w o zs) :
    Calls Tryz.prog 167 #[.int .i64 p, .slice o zs.length cap] w fun e w' => e = .returned (.tuple #[.int .i64 (rankF p zs).1, .bool (rankF p zs).2]) ∧ Below w.heap.size w w' := by
  by_cases h0 : zs = []
  · have e : rankF p zs = (0, false) := by unfold rankF; rw [if_pos (.inl h0)]
    rw [e]; subst h0; clear e
    go_enter Tryz.func167, Tryz.ntmps167
    go_wp2
    go_ret2
    exact ⟨rfl, Below.refl _ _⟩
  obtain ⟨b, off, rfl, hb, hc⟩ := hS.resolve_left h0
  obtain ⟨n, hn⟩ : ∃ n, zs.length = n := ⟨_, rfl⟩
  have HN := Lib.hid hn
  have hn0 : n ≠ 0 := by rw [← hn]; exact fun h => h0 (List.length_eq_zero_iff.1 h)
  have t0 : ((n : Int) == 0) = false := beq_eq_false_iff_ne.2 (by omega)
  by_cases hp0 : p < 0
  · have e : rankF p zs = (0, false) := by unfold rankF; rw [if_pos (.inr (.inl hp0))]
    have t1 : decide (p < 0) = true := by simpa using hp0
    rw [e, hn]; clear e hb hc h0 hn hn0
    go_enter Tryz.func167, Tryz.ntmps167
    go_wp2
    go_ret2
    exact ⟨rfl, Below.refl _ _⟩
  have t1 : decide (p < 0) = false := by simpa using hp0
  by_cases hp1 : 100 < p
  · have e : rankF p zs = (0, false) := by unfold rankF; rw [if_pos (.inr (.inr hp1))]
    have t2 : decide (100 < p) = true := by simpa using hp1
    rw [e, hn]; clear e hb hc h0 hn hn0
    go_enter Tryz.func167, Tryz.ntmps167
    go_wp2
    go_ret2
    exact ⟨rfl, Below.refl _ _⟩
  have t2 : decide (100 < p) = false := by simpa using hp1
  have e : rankF p zs = ((risen zs).getD (placeF p n - 1) 0, true) := by unfold rankF; rw [if_neg (by simp [h0]; omega), hn]
  rw [e]
  have HC := Lib.hid (Tryz.slices_Clone_int b off n cap zs w (by omega) (by omega) (fun j hj => by rw [hc j (zs.getD j 0) (by simp [List.getD, hj])]))
  have HT : Hid (zs.take n = zs) := Lib.hid (List.take_of_length_le (by omega))
  have HL := Lib.hid (show (risen zs).length = n by rw [risen_length, hn])
  rw [hn]
  rw [HT.out] at HC
  have hp2 : 0 ≤ p := by omega
  have hp3 : p ≤ 100 := by omega
  have hn1 : 1 ≤ n := by omega
  have hn2 : n ≤ 1000 := by omega
  obtain ⟨q, rfl⟩ : ∃ q : Nat, p = q := ⟨p.toNat, by omega⟩
  have hqn : ((q * n : Nat) : Int) = (q : Int) * n := Int.natCast_mul q n
  have hq3 := Nat.mul_le_mul_right n (show q ≤ 100 by omega)
  have q1 : (0 : Int) ≤ (q : Int) * n := by omega
  have q2 : (q : Int) * n ≤ 100000 := by omega
  have q3 : (q : Int) * n ≤ 100 * n := by omega
  clear hqn hq3
  have hpl : placeF (q : Int) n = max ((q * n + 99) / 100) 1 := by unfold placeF; rw [Int.toNat_natCast]
  have HPL := Lib.hid hpl
  obtain ⟨r, hr⟩ : ∃ r, (risen zs).getD (placeF (q : Int) n - 1) 0 = r := ⟨_, rfl⟩
  rw [hr]
  have HRR := Lib.hid hr
  clear hb hc h0 hn hn0 hp0 hp1 e hm hpl hr
  go_enter Tryz.func167, Tryz.ntmps167
  go_wp2_with fail
  refine HC.out.mono ?_
  rintro e w1 ⟨v, rfl, ho, hne, b1⟩
  rcases ho.2 with ⟨rfl, h0⟩ | ⟨g, cap', cur, rfl, hbg, hb, h1, h2, h3, h4⟩
  · exact absurd rfl hne
  have HSO := Lib.hid (sort_any (w := w1) (B := w.heap.size) (g := g) (cap := cap') (zs := zs) (by rw [HN.out]; omega) (by rw [HN.out]; exact ho))
  rw [HN.out] at HSO
  have HB := Lib.hid b1
  clear ho hne b1 hb h1 h2 h3 h4 hbg
  go_wp2_with fail
  refine HSO.out.mono ?_
  rintro e w2 ⟨rfl, hc, hb⟩
  have HB2 := Lib.hid (hb w (Nat.le_refl _) HB.out)
  have hi : max ((q * n + 99) / 100) 1 - 1 = (max (((q : Int) * n + 99) / 100) 1).toNat - 1 := by
    have h1 : ((q : Int) * n + 99) / 100 = (((q * n + 99) / 100 : Nat) : Int) := by simp
    rw [h1]; omega
  have hk : placeF (q : Int) n - 1 < n := by
    have hqn : ((q * n : Nat) : Int) = (q : Int) * n := Int.natCast_mul q n
    rw [HPL.out]; omega
  have hx := hc (placeF (q : Int) n - 1) r (by rw [← HRR.out]; simp [List.getD, HL.out, hk])
  rw [HPL.out, hi] at hx
  clear hb hc HSO hk hi
  go_wp2_with fail
  go_ret2
  exact ⟨rfl, HB2.out⟩
end Go.Proofs.YtbdnonphkobkoaaGreat.Fix
