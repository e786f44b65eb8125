/- Walks: lists of texts lent with room behind them, in which a mark stands; are they as they were. -/
import Derived.Test.YtiopnccmhocaaaaGreatKla
import Derived.Test.YtiopnccmhocaaaaGreatLe
import Derived.Laws.OwnMore
namespace Go.Proofs.YtiopnccmhocaaaaGreat.Txt
open Go.RowKit Go.Proofs.YtiopnccmhocaaaaGreat.BkL

theorem get_at {xs : List ByteArray} {n k : Nat} (hn : xs.length = n) (hk : k < n) : ∃ x, xs[k]? = some x := ⟨xs[k]'(by omega), List.getElem?_eq_getElem _⟩
/-- A slice that reads as these texts. -/
def SeesT (w : World) (o : Option Addr) (zs : List ByteArray) : Prop := zs = [] ∨ ∃ b off, o = some ⟨b, off, none⟩ ∧ b < w.heap.size ∧ ∀ (j : Nat) (x : ByteArray), zs[j]? = some x → w.cell? ⟨b, off + j, none⟩ = some (.string x)
theorem SeesT.below {w w' : World} {o : Option Addr} {zs : List ByteArray} (h : SeesT w o zs) (hb : Below w.heap.size w w') : SeesT w' o zs :=
  h.imp id fun ⟨b, off, e, hl, hc⟩ => ⟨b, off, e, Nat.lt_of_lt_of_le hl hb.size, fun j x hx => (hb.cell (p := ⟨b, off + j, none⟩) hl).trans (hc j x hx)⟩
theorem SeesT.at {w : World} {o : Option Addr} {zs : List ByteArray} (h : SeesT w o zs) {k : Nat} {x : ByteArray} (hx : zs[k]? = some x) : ∃ b off, o = some ⟨b, off, none⟩ ∧ w.cell? ⟨b, off + k, none⟩ = some (.string x) := by
  rcases h with rfl | ⟨b, off, e, _, hc⟩
  · simp at hx
  · exact ⟨b, off, e, hc k x hx⟩
theorem infoT : (Tryz.prog.info? 9).map (fun i => (i.zero, i.size, i.bytes)) = some (some (.string ⟨#[]⟩), 1, 16) := by kernel_rfl
theorem one_int (xs : List ByteArray) : ∀ u ∈ xs.map (Value.string), u.oneCell' = true := by
  intro u hu; obtain ⟨x, _, rfl⟩ := List.mem_map.1 hu; rfl
/-- The cells of texts that are read, as a source. -/
theorem sees_src {w : World} {b off : Nat} {zs : List ByteArray} (hc : ∀ (j : Nat) (x : ByteArray), zs[j]? = some x → w.cell? ⟨b, off + j, none⟩ = some (.string x)) : ∀ j u, (zs.map (Value.string))[j]? = some u → w.cell? ((⟨b, off, none⟩ : Addr).add j) = some u := by
  intro j u hu
  have e : ((⟨b, off, none⟩ : Addr).add j) = ⟨b, off + j, none⟩ := by
    unfold Addr.add; split
    · next h => subst h; rfl
    · rfl
  rw [List.getElem?_map] at hu
  cases hz : zs[j]? with
  | none => rw [hz] at hu; simp at hu
  | some x => rw [hz] at hu; simp at hu; subst hu; rw [e]; exact hc j x hz

set_option maxHeartbeats 2000000 in
set_option maxRecDepth 100000 in
theorem copy_any (o : Option Addr) (cap : Nat) (zs : List ByteArray) (hx : zs.length ≤ 1000000) (hcap : o = none → cap = 0) (w : World) (hS : SeesT w o zs) :
    Calls Tryz.prog 28 #[.slice o zs.length cap] w fun e w' => (∃ v, e = .returned v ∧ w'.ownsRow w.heap.size 9 1 v zs.length (zs.map (Value.string))) ∧ Below w.heap.size w w' := by
  obtain ⟨i0, hi, hz0, hz1, hz2⟩ := info_parts infoT
  cases o with
  | none =>
    obtain rfl := hcap rfl
    have h0 : zs = [] := by rcases hS with h | ⟨b, off, e, _⟩; exact h; cases e
    subst h0
    go_enter Tryz.func28, Tryz.ntmps28
    go_wp2
    go_ret
    exact ⟨⟨_, rfl, World.ownsRow_nil _ _ _ _⟩, Below.refl _ _⟩
  | some a =>
    have hnews : ∀ j u, (zs.map (Value.string))[j]? = some u → w.cell? (a.add j) = some u := by
      rcases hS with rfl | ⟨b, off, e, _, hc⟩
      · intro j u hu; simp at hu
      · cases e; exact sees_src hc
    clear hS hcap
    go_enter Tryz.func28, Tryz.ntmps28
    go_wp2_with (at_builtin; go_must (refine wpList_append_own _ rfl _ _ 23 rfl w.heap.size 9 i0 (.string ⟨#[]⟩) 1 16 Tryz.underlying23 hi hz0 hz1 hz2 rfl (by decide) _ 0 [] rfl (World.ownsRow_nil _ _ _ _) a zs.length cap (zs.map (Value.string)) rfl (by simp) hnews (one_int zs) (by unfold maxLen; omega) (by omega) (Nat.le_refl _) ?_); intro v' w3 hown' hgrow3 hnil3)
    have hg3 : w.grownBy w3 none := hgrow3
    clear hnil3 hgrow3
    go_ret
    refine ⟨⟨_, rfl, ?_⟩, Below.grown (Below.refl _ _) hg3 (Nat.le_refl _) (fun j hj => by cases hj)⟩
    simpa using hown'

/-- A list lent: its texts, and a mark behind them. -/
def Lent (w : World) (g cap : Nat) (zs : List ByteArray) : Prop := g < w.heap.size ∧ zs.length + 1 ≤ cap ∧ cap ≤ maxLen ∧ ∀ (j : Nat) (x : ByteArray), (zs ++ [(⟨#[109, 97, 114, 107]⟩ : ByteArray)])[j]? = some x → w.cell? ⟨g, j, none⟩ = some (.string x)
theorem Lent.below {w w' : World} {g cap : Nat} {zs : List ByteArray} (h : Lent w g cap zs) (hb : Below w.heap.size w w') : Lent w' g cap zs :=
  ⟨Nat.lt_of_lt_of_le h.1 hb.size, h.2.1, h.2.2.1, fun j x hx => (hb.cell (p := ⟨g, j, none⟩) h.1).trans (h.2.2.2 j x hx)⟩
theorem Lent.sees {w : World} {g cap : Nat} {zs : List ByteArray} (h : Lent w g cap zs) : SeesT w (some ⟨g, 0, none⟩) zs := by
  by_cases h0 : zs = []
  · exact .inl h0
  · refine .inr ⟨g, 0, rfl, h.1, fun j x hx => ?_⟩
    rw [Nat.zero_add]
    exact h.2.2.2 j x (by rw [List.getElem?_append_left (List.getElem?_eq_some_iff.1 hx).1]; exact hx)
theorem Lent.mark {w : World} {g cap : Nat} {zs : List ByteArray} (h : Lent w g cap zs) : w.cell? ⟨g, zs.length, none⟩ = some (.string ⟨#[109, 97, 114, 107]⟩) :=
  h.2.2.2 zs.length ⟨#[109, 97, 114, 107]⟩ (by simp)

theorem drewN_below (w : World) (n : Nat) : Below w.heap.size w (w.drewN n) := ⟨rfl, rfl, rfl, Nat.le_refl _, fun _ _ => rfl⟩
/-- A row of the call's own that holds something lies in memory. -/
theorem own_some {B e n : Nat} {v : Value} {xs : List Value} {w : World} (h : w.ownsRow B e 1 v (n + 1) xs) : ∃ g cap, v = .slice (some ⟨g, 0, none⟩) (n + 1) cap ∧ (n : Int) ≤ cap ∧ g < w.heap.size ∧ n + 1 ≤ cap ∧ cap ≤ maxLen := by
  rcases h.2 with ⟨_, h0⟩ | ⟨g, cap, cur, rfl, hg, hh, hn, hcap, hsz, htake⟩
  · omega
  · exact ⟨g, cap, rfl, by omega, (Array.getElem?_eq_some_iff.1 hh).1, hn, hcap⟩
set_option maxHeartbeats 2000000 in
set_option maxRecDepth 100000 in
theorem lent_any (o : Option Addr) (cap : Nat) (zs : List ByteArray) (hx : zs.length ≤ 1000000) (hcap : o = none → cap = 0) (w : World) (hS : SeesT w o zs) :
    Calls Tryz.prog 7 #[.slice o zs.length cap] w fun e w' => (∃ g c, e = .returned (.slice (some ⟨g, 0, none⟩) zs.length c) ∧ Lent w' g c zs) ∧ Below w.heap.size w w' := by
  have HC := Lib.hid (fun W (hb : Below w.heap.size w W) => copy_any o cap zs hx hcap W (hS.below hb))
  obtain ⟨i0, hi, hz0, hz1, hz2⟩ := info_parts infoT
  obtain ⟨n, hn⟩ : ∃ n, zs.length = n := ⟨_, rfl⟩
  have HN := Lib.hid hn
  rw [hn] at hx HC ⊢
  clear hS hcap hn
  go_enter Tryz.func7, Tryz.ntmps7
  go_wp2_with fail
  refine (HC.out _ (Below.refl _ _)).mono ?_
  rintro e w1 ⟨⟨v, rfl, ho⟩, b1⟩
  have hl := b1.size
  have HB1 := Lib.hid b1
  clear b1
  go_wp2_with (at_builtin; go_must (refine wpList_append_own _ rfl _ _ 23 rfl w.heap.size 9 i0 (.string ⟨#[]⟩) 1 16 Tryz.underlying23 hi hz0 hz1 hz2 rfl (by decide) v n (zs.map (Value.string)) rfl (ho.alloc _) ⟨w1.heap.size, 0, none⟩ 1 1 [.string ⟨#[109, 97, 114, 107]⟩] rfl rfl (cell_1 _ _ _) (one_int [(⟨#[109, 97, 114, 107]⟩ : ByteArray)]) (by unfold maxLen; omega) (by omega) (by simp; omega) ?_); intro v' w3 hown' hgrow3 hnil3; obtain ⟨g, cap', rfl, q1, F⟩ := own_some hown'; have HO := Lib.hid hown'; have HG := Lib.hid hgrow3; clear hown' hgrow3 hnil3)
  have HB3 := Lib.hid (Below.grown (HB1.out.alloc hl _) HG.out (by simp; omega) (fun j hj => by have := (ho.lt _ hj).1; omega) : Below w.heap.size w w3)
  have HL := Lib.hid (show Lent w3 g cap' zs from ⟨F.1, by rw [HN.out]; exact F.2.1, F.2.2, fun j x hx => by
    have hj : j < n + 1 := by have := (List.getElem?_eq_some_iff.1 hx).1; simp [HN.out] at this; omega
    rw [HO.out.cellAt j (by omega)]
    rw [show zs.map (Value.string) ++ [.string ⟨#[109, 97, 114, 107]⟩] = (zs ++ [(⟨#[109, 97, 114, 107]⟩ : ByteArray)]).map (Value.string) by simp, List.getElem?_map, hx]; rfl⟩)
  go_ret
  exact ⟨⟨g, cap', rfl, HL.out⟩, HB3.out⟩

set_option maxHeartbeats 2000000 in
set_option maxRecDepth 100000 in
theorem same_any (o1 o2 : Option Addr) (c1 c2 : Nat) (zs : List ByteArray) (hx : zs.length ≤ 1000000) (w : World) (h1 : SeesT w o1 zs) (h2 : SeesT w o2 zs) :
    Calls Tryz.prog 49 #[.slice o1 zs.length c1, .slice o2 zs.length c2] w fun e w' => e = .returned (.bool true) ∧ Below w.heap.size w w' := by
  obtain ⟨n, hn⟩ : ∃ n, zs.length = n := ⟨_, rfl⟩
  have HN := Lib.hid hn
  rw [hn] at hx ⊢
  have H1 := Lib.hid h1
  have H2 := Lib.hid h2
  clear hn h1 h2
  go_enter Tryz.func49, Tryz.ntmps49
  go_wp2
  go_loopw [5] (fun v wr => ∃ k : Nat, v = .int .i64 k ∧ k ≤ n ∧ Hid (Below w.heap.size w wr)) (fun v _ => n - (intOf v).toNat)
  case atStart => exact ⟨0, rfl, Nat.zero_le _, Lib.hid (Below.refl _ _)⟩
  case round =>
    obtain ⟨k, rfl, hk, HB⟩ := hrel
    by_cases hkn : k < n
    · have i1 : (k : Int) < n := by omega
      have i0 : (0 : Int) ≤ k := by omega
      obtain ⟨x, hx⟩ := get_at HN.out hkn
      obtain ⟨b, off, rfl, c1⟩ := (H1.out.below HB.out).at hx
      obtain ⟨b2, off2, rfl, c2⟩ := (H2.out.below HB.out).at hx
      clear hx
      go_wp2_with fail
      go_quiet (fail)
      have HBq := Lib.hid (show Below w.heap.size w (wr.drewN nq) from HB.out.trans ((drewN_below wr nq).mono HB.out.size))
      go_wp2
      go_roundw
      case rel => exact ⟨k + 1, by go_num, by omega, HBq⟩
      case measure => simp [intOf]; omega
    · have i1 : (n : Int) ≤ k := by omega
      go_wp2
      go_ret
      exact ⟨rfl, HB.out⟩

set_option maxHeartbeats 2000000 in
set_option maxRecDepth 100000 in
theorem stays_any (g c : Nat) (o : Option Addr) (cap : Nat) (zs : List ByteArray) (hx : zs.length ≤ 1000000) (w : World) (hL : Lent w g c zs) (hS : SeesT w o zs) :
    Calls Tryz.prog 25 #[.slice (some ⟨g, 0, none⟩) zs.length c, .slice o zs.length cap] w fun e w' => e = .returned (.bool true) ∧ Below w.heap.size w w' := by
  have HC := Lib.hid (same_any (some ⟨g, 0, none⟩) o c cap zs hx w hL.sees hS)
  have HM := Lib.hid (fun W (hb : Below w.heap.size w W) => (hL.below hb).mark)
  have q1 := hL.2.1
  have q2 := hL.2.2.1
  obtain ⟨n, hn⟩ : ∃ n, zs.length = n := ⟨_, rfl⟩
  rw [hn] at hx q1 HC HM ⊢
  unfold maxLen at q2
  clear hL hS hn
  go_enter Tryz.func25, Tryz.ntmps25
  go_wp2_with fail
  refine HC.out.mono ?_
  rintro e w1 ⟨rfl, b1⟩
  have hm := HM.out _ b1
  have HB := Lib.hid b1
  clear b1
  go_wp2
  go_ret
  exact ⟨by simp, HB.out⟩
theorem SeesT.of {w : World} {o : Option Addr} {ns : List ByteArray} (h : SeesN w o ns) : SeesT w o ns :=
  h.imp id fun ⟨b, off, e, hl, hc⟩ => ⟨b, off, e, hl, fun j x hx => by
    have hj := (List.getElem?_eq_some_iff.1 hx).1
    rw [hc j hj]; simp [List.getD, hx]⟩
theorem SeesT.to {w : World} {o : Option Addr} {ns : List ByteArray} (h : SeesT w o ns) : SeesN w o ns :=
  h.imp id fun ⟨b, off, e, hl, hc⟩ => ⟨b, off, e, hl, fun j hj => hc j _ (by simp [List.getD, List.getElem?_eq_getElem hj])⟩
end Go.Proofs.YtiopnccmhocaaaaGreat.Txt
