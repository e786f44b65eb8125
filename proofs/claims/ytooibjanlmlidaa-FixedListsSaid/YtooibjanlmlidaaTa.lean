/- Walks: a list lent with room behind it, in which a mark stands; is it as it was. -/
import Derived.Test.YtooibjanlmlidaaSa
import Derived.Laws.OwnMore
namespace Go.Proofs.Ytooibjanlmlidaa
open Go.RowKit

theorem info3 : (Try.prog.info? 3).map (fun i => (i.zero, i.size, i.bytes)) = some (some (.int .i64 0), 1, 8) := by kernel_rfl
theorem cell_1 (w : World) (v : Value) (t : TypeId) : ∀ j u, [v][j]? = some u → (w.alloc (.cells #[v] t)).cell? ((⟨w.heap.size, 0, none⟩ : Addr).add j) = some u := by
  intro j u hj
  match j, hj with
  | 0, hj => simp at hj; subst hj; simp [Addr.add]
  | j + 1, hj => simp at hj
theorem one_int (xs : List Int) : ∀ u ∈ xs.map (Value.int .i64), u.oneCell' = true := by
  intro u hu; obtain ⟨x, _, rfl⟩ := List.mem_map.1 hu; rfl
/-- The cells of numbers that are read, as a source. -/
theorem sees_src {w : World} {b off : Nat} {zs : List Int} (hc : ∀ (j : Nat) (x : Int), zs[j]? = some x → w.cell? ⟨b, off + j, none⟩ = some (.int .i64 x)) : ∀ j u, (zs.map (Value.int .i64))[j]? = some u → w.cell? ((⟨b, off, none⟩ : Addr).add j) = some u := by
  intro j u hu
  have e : ((⟨b, off, none⟩ : Addr).add j) = ⟨b, off + j, none⟩ := by
    unfold Addr.add; split
    · next h => subst h; rfl
    · rfl
  rw [List.getElem?_map] at hu
  cases hz : zs[j]? with
  | none => rw [hz] at hu; simp at hu
  | some x => rw [hz] at hu; simp at hu; subst hu; rw [e]; exact hc j x hz

set_option maxHeartbeats 2000000 in
set_option maxRecDepth 100000 in
theorem copy_any (o : Option Addr) (cap : Nat) (zs : List Int) (hx : zs.length ≤ 1000000) (hcap : o = none → cap = 0) (w : World) (hS : SeesI w o zs) :
    Calls Try.prog 29 #[.slice o zs.length cap] w fun e w' => (∃ v, e = .returned v ∧ w'.ownsRow w.heap.size 3 1 v zs.length (zs.map (Value.int .i64))) ∧ Below w.heap.size w w' := by
  obtain ⟨i0, hi, hz0, hz1, hz2⟩ := info_parts info3
  cases o with
  | none =>
    obtain rfl := hcap rfl
    have h0 : zs = [] := by rcases hS with h | ⟨b, off, e, _⟩; exact h; cases e
    subst h0
    go_enter Try.func29, Try.ntmps29
    go_wp2
    go_ret
    exact ⟨⟨_, rfl, World.ownsRow_nil _ _ _ _⟩, Below.refl _ _⟩
  | some a =>
    have hnews : ∀ j u, (zs.map (Value.int .i64))[j]? = some u → w.cell? (a.add j) = some u := by
      rcases hS with rfl | ⟨b, off, e, _, hc⟩
      · intro j u hu; simp at hu
      · cases e; exact sees_src hc
    clear hS hcap
    go_enter Try.func29, Try.ntmps29
    go_wp2_with (at_builtin; go_must (refine wpList_append_own _ rfl _ _ 29 rfl w.heap.size 3 i0 (.int .i64 0) 1 8 Try.underlying29 hi hz0 hz1 hz2 rfl (by decide) _ 0 [] rfl (World.ownsRow_nil _ _ _ _) a zs.length cap (zs.map (Value.int .i64)) rfl (by simp) hnews (one_int zs) (by unfold maxLen; omega) (by omega) (Nat.le_refl _) ?_); intro v' w3 hown' hgrow3 hnil3)
    have hg3 : w.grownBy w3 none := hgrow3
    clear hnil3 hgrow3
    go_ret
    refine ⟨⟨_, rfl, ?_⟩, Below.grown (Below.refl _ _) hg3 (Nat.le_refl _) (fun j hj => by cases hj)⟩
    simpa using hown'

/-- A list lent: its numbers, and a mark behind them. -/
def Lent (w : World) (g cap : Nat) (zs : List Int) : Prop := g < w.heap.size ∧ zs.length + 1 ≤ cap ∧ cap ≤ maxLen ∧ ∀ (j : Nat) (x : Int), (zs ++ [-77])[j]? = some x → w.cell? ⟨g, j, none⟩ = some (.int .i64 x)
theorem Lent.below {w w' : World} {g cap : Nat} {zs : List Int} (h : Lent w g cap zs) (hb : Below w.heap.size w w') : Lent w' g cap zs :=
  ⟨Nat.lt_of_lt_of_le h.1 hb.size, h.2.1, h.2.2.1, fun j x hx => (hb.cell (p := ⟨g, j, none⟩) h.1).trans (h.2.2.2 j x hx)⟩
theorem Lent.sees {w : World} {g cap : Nat} {zs : List Int} (h : Lent w g cap zs) : SeesI w (some ⟨g, 0, none⟩) zs := by
  by_cases h0 : zs = []
  · exact .inl h0
  · refine .inr ⟨g, 0, rfl, h.1, fun j x hx => ?_⟩
    rw [Nat.zero_add]
    exact h.2.2.2 j x (by rw [List.getElem?_append_left (List.getElem?_eq_some_iff.1 hx).1]; exact hx)
theorem Lent.mark {w : World} {g cap : Nat} {zs : List Int} (h : Lent w g cap zs) : w.cell? ⟨g, zs.length, none⟩ = some (.int .i64 (-77)) :=
  h.2.2.2 zs.length (-77) (by simp)

/-- A row of the call's own that holds something lies in memory. -/
theorem own_some {B e n : Nat} {v : Value} {xs : List Value} {w : World} (h : w.ownsRow B e 1 v (n + 1) xs) : ∃ g cap, v = .slice (some ⟨g, 0, none⟩) (n + 1) cap ∧ (n : Int) ≤ cap ∧ g < w.heap.size ∧ n + 1 ≤ cap ∧ cap ≤ maxLen := by
  rcases h.2 with ⟨_, h0⟩ | ⟨g, cap, cur, rfl, hg, hh, hn, hcap, hsz, htake⟩
  · omega
  · exact ⟨g, cap, rfl, by omega, (Array.getElem?_eq_some_iff.1 hh).1, hn, hcap⟩
set_option maxHeartbeats 2000000 in
set_option maxRecDepth 100000 in
theorem lent_any (o : Option Addr) (cap : Nat) (zs : List Int) (hx : zs.length ≤ 1000000) (hcap : o = none → cap = 0) (w : World) (hS : SeesI w o zs) :
    Calls Try.prog 16 #[.slice o zs.length cap] w fun e w' => (∃ g c, e = .returned (.slice (some ⟨g, 0, none⟩) zs.length c) ∧ Lent w' g c zs) ∧ Below w.heap.size w w' := by
  have HC := Lib.hid (fun W (hb : Below w.heap.size w W) => copy_any o cap zs hx hcap W (hS.below hb))
  obtain ⟨i0, hi, hz0, hz1, hz2⟩ := info_parts info3
  obtain ⟨n, hn⟩ : ∃ n, zs.length = n := ⟨_, rfl⟩
  have HN := Lib.hid hn
  rw [hn] at hx HC ⊢
  clear hS hcap hn
  go_enter Try.func16, Try.ntmps16
  go_wp2_with fail
  refine (HC.out _ (Below.refl _ _)).mono ?_
  rintro e w1 ⟨⟨v, rfl, ho⟩, b1⟩
  have hl := b1.size
  have HB1 := Lib.hid b1
  clear b1
  go_wp2_with (at_builtin; go_must (refine wpList_append_own _ rfl _ _ 29 rfl w.heap.size 3 i0 (.int .i64 0) 1 8 Try.underlying29 hi hz0 hz1 hz2 rfl (by decide) v n (zs.map (Value.int .i64)) rfl (ho.alloc _) ⟨w1.heap.size, 0, none⟩ 1 1 [.int .i64 (-77)] rfl rfl (cell_1 _ _ _) (one_int [-77]) (by unfold maxLen; omega) (by omega) (by simp; omega) ?_); intro v' w3 hown' hgrow3 hnil3; obtain ⟨g, cap', rfl, q1, F⟩ := own_some hown'; have HO := Lib.hid hown'; have HG := Lib.hid hgrow3; clear hown' hgrow3 hnil3)
  have HB3 := Lib.hid (Below.grown (HB1.out.alloc hl _) HG.out (by simp; omega) (fun j hj => by have := (ho.lt _ hj).1; omega) : Below w.heap.size w w3)
  have HL := Lib.hid (show Lent w3 g cap' zs from ⟨F.1, by rw [HN.out]; exact F.2.1, F.2.2, fun j x hx => by
    have hj : j < n + 1 := by have := (List.getElem?_eq_some_iff.1 hx).1; simp [HN.out] at this; omega
    rw [HO.out.cellAt j (by omega)]
    rw [show zs.map (Value.int .i64) ++ [.int .i64 (-77)] = (zs ++ [-77]).map (Value.int .i64) by simp, List.getElem?_map, hx]; rfl⟩)
  go_ret
  exact ⟨⟨g, cap', rfl, HL.out⟩, HB3.out⟩

set_option maxHeartbeats 2000000 in
set_option maxRecDepth 100000 in
theorem same_any (o1 o2 : Option Addr) (c1 c2 : Nat) (zs : List Int) (hx : zs.length ≤ 1000000) (w : World) (h1 : SeesI w o1 zs) (h2 : SeesI w o2 zs) :
    Calls Try.prog 32 #[.slice o1 zs.length c1, .slice o2 zs.length c2] w fun e w' => e = .returned (.bool true) ∧ Below w.heap.size w w' := by
  obtain ⟨n, hn⟩ : ∃ n, zs.length = n := ⟨_, rfl⟩
  have HN := Lib.hid hn
  rw [hn] at hx ⊢
  have H1 := Lib.hid h1
  have H2 := Lib.hid h2
  clear hn h1 h2
  go_enter Try.func32, Try.ntmps32
  go_wp2
  go_loopw [5] (fun v wr => ∃ k : Nat, v = .int .i64 k ∧ k ≤ n ∧ Hid (Below w.heap.size w wr)) (fun v _ => n - (intOf v).toNat)
  case atStart => exact ⟨0, rfl, Nat.zero_le _, Lib.hid (Below.refl _ _)⟩
  case round =>
    obtain ⟨k, rfl, hk, HB⟩ := hrel
    by_cases hkn : k < n
    · have i1 : (k : Int) < n := by omega
      have i0 : (0 : Int) ≤ k := by omega
      obtain ⟨x, hx⟩ := get_lt HN.out hkn
      obtain ⟨b, off, rfl, c1⟩ := (H1.out.below HB.out).at hx
      obtain ⟨b2, off2, rfl, c2⟩ := (H2.out.below HB.out).at hx
      clear hx
      go_wp2_with fail
      go_quiet (fail)
      have HBq := Lib.hid (show Below w.heap.size w (wr.drewN nq) from HB.out.trans ((drewN_below wr nq).mono HB.out.size))
      go_wp2
      go_roundw
      case rel => exact ⟨k + 1, by go_num, by omega, HBq⟩
      case measure => simp [intOf]; omega
    · have i1 : (n : Int) ≤ k := by omega
      go_wp2
      go_ret
      exact ⟨rfl, HB.out⟩

set_option maxHeartbeats 2000000 in
set_option maxRecDepth 100000 in
theorem stays_any (g c : Nat) (o : Option Addr) (cap : Nat) (zs : List Int) (hx : zs.length ≤ 1000000) (w : World) (hL : Lent w g c zs) (hS : SeesI w o zs) :
    Calls Try.prog 21 #[.slice (some ⟨g, 0, none⟩) zs.length c, .slice o zs.length cap] w fun e w' => e = .returned (.bool true) ∧ Below w.heap.size w w' := by
  have HC := Lib.hid (same_any (some ⟨g, 0, none⟩) o c cap zs hx w hL.sees hS)
  have HM := Lib.hid (fun W (hb : Below w.heap.size w W) => (hL.below hb).mark)
  have q1 := hL.2.1
  have q2 := hL.2.2.1
  obtain ⟨n, hn⟩ : ∃ n, zs.length = n := ⟨_, rfl⟩
  rw [hn] at hx q1 HC HM ⊢
  unfold maxLen at q2
  clear hL hS hn
  go_enter Try.func21, Try.ntmps21
  go_wp2_with fail
  refine HC.out.mono ?_
  rintro e w1 ⟨rfl, b1⟩
  have hm := HM.out _ b1
  have HB := Lib.hid b1
  clear b1
  go_wp2
  go_ret
  exact ⟨by simp, HB.out⟩
end Go.Proofs.Ytooibjanlmlidaa
