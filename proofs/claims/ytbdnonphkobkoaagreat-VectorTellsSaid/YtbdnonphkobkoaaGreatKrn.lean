/- The book of rows: a copy of rows. -/
import Derived.Test.YtbdnonphkobkoaaGreatKrk
namespace Go.Proofs.YtbdnonphkobkoaaGreat.BkR
open Go.RowKit
open Go.Proofs.YtbdnonphkobkoaaGreat (Lab SeesO)
open Go.Proofs.YtbdnonphkobkoaaGreat.Vec (Rw RowsS ERow OwnG LabS SeesG get_ltG)

/-- What is left: rows of the call's own that mean these. -/
def Copied (C B n : Nat) (ms : List Rw) (e : Ending) (w' : World) : Prop := ∃ v ys, e = .returned v ∧ ys.length = n ∧ w'.ownsRow C 53 2 v n (flatE ys) ∧ Means B w' ys ms
structure Half (C B n : Nat) (ms : List Rw) (v : Value) (zs : List El) (w0 wr : World) : Prop where
  len : zs.length = n
  own : wr.ownsRow C 53 2 v n (flatE zs)
  mean : Means B wr zs ms
  on : Below w0.heap.size w0 wr
set_option maxHeartbeats 4000000 in
set_option maxRecDepth 100000 in
theorem copyRows_any (o : Option Addr) (n c : Nat) (ms : List Rw) (B : Nat) (w : World) (hB : B ≤ w.heap.size) (hn : ms.length = n) (hm : n ≤ 1000000) (hl : ∀ m ∈ ms, m.1.length ≤ 1000000) (hS : RowsS w B o ms) :
    Calls Tryz.prog 36 #[.slice o n c] w fun e w' => Copied w.heap.size B n ms e w' ∧ Below w.heap.size w w' := by
  obtain ⟨i0, hi, hz0, hz1, hz2⟩ := info_parts infoE
  cases o with
  | none =>
    have h0 : ms = [] := by rcases hS with h | ⟨b, off, e, _⟩; exact h; cases e
    subst h0
    obtain rfl : n = 0 := hn.symm
    clear hS
    go_enter Tryz.func36, Tryz.ntmps36
    go_wp2
    go_loopw [3] (fun v3 wr => v3 = .int .i64 0 ∧ wr = w) (fun _ _ => 0)
    case atStart => exact ⟨rfl, rfl⟩
    case round =>
      obtain ⟨rfl, rfl⟩ := hrel
      go_wp2
      go_ret
      exact ⟨⟨_, [], rfl, rfl, World.ownsRow_nil _ _ _ _, ⟨rfl, fun j x m h => by cases h⟩⟩, Below.refl _ _⟩
  | some a =>
    obtain ⟨xs, hM, hnews⟩ : ∃ xs : List El, Means B w xs ms ∧ ∀ j u, (flatE xs)[j]? = some u → w.cell? (a.add j) = some u := by
      rcases hS with rfl | ⟨b, off, e, hc⟩
      · exact ⟨[], ⟨rfl, fun j x m h => by cases h⟩, fun j u h => by cases h⟩
      · cases e; exact raws hc
    have hxn : xs.length = n := hM.len.trans hn
    clear hS
    have HM := Lib.hid hM
    have HN := Lib.hid hn
    have HXN := Lib.hid hxn
    have HL := Lib.hid hl
    clear hM hn hl
    go_enter Tryz.func36, Tryz.ntmps36
    go_wp2_with (at_builtin; go_must (refine wpList_append_own _ rfl _ _ 22 rfl w.heap.size 53 i0 (.agg #[.slice none 0 0, .int .i64 0]) 2 32 Tryz.underlying22 hi hz0 hz1 hz2 rfl (by decide) _ 0 [] rfl (World.ownsRow_nil _ _ _ _) a n c (flatE xs) rfl (by rw [flatE_len, hxn]) hnews (flatE_cells xs) (by unfold maxLen; omega) (by omega) (Nat.le_refl _) ?_); intro v' w3 hown' hgrow3 hnil3)
    have hg3 : w.grownBy w3 none := hgrow3
    clear hnil3 hgrow3 hnews
    have hb3 : Below w.heap.size w w3 := Below.grown (Below.refl _ _) hg3 (Nat.le_refl _) (fun j hj => by cases hj)
    have hown : w3.ownsRow w.heap.size 53 2 v' n (flatE xs) := by simpa using hown'
    obtain ⟨o1, c1, rfl⟩ := own_formK hown
    have H0 := Lib.hid (show Half w.heap.size B n ms (.slice o1 n c1) xs w w3 from ⟨HXN.out, hown, HM.out.below hb3, hb3⟩)
    clear hown hown' hg3 hb3 hxn hi hz0 hz1 hz2
    go_wp2
    go_loopw [3] (fun v3 wr => ∃ (k : Nat) (zs : List El), v3 = .int .i64 k ∧ k ≤ n ∧ Hid (Half w.heap.size B n ms (.slice o1 n c1) zs w wr)) (fun v3 _ => n - (intOf v3).toNat)
    case atStart => exact ⟨0, xs, rfl, Nat.zero_le _, H0⟩
    case round =>
      obtain ⟨k, zs, rfl, hk, H⟩ := hrel
      by_cases hkn : k < n
      · have j1 : (k : Int) < n := by omega
        obtain ⟨x, hx⟩ := get_ltG H.out.len hkn
        obtain ⟨m, hm0⟩ := get_ltG HN.out hkn
        obtain ⟨oL, cL, hu, hL, lL⟩ := H.out.mean.one k x m hx hm0
        have hml := HL.out m (List.mem_of_getElem? hm0)
        rcases own_open H.out.own with ⟨e0, h0, _⟩ | ⟨g, cap, e0, hgB, hgl, hnc, hcm, hcell⟩
        · exact absurd h0 (by omega)
        obtain ⟨rfl, _, rfl⟩ : o1 = some ⟨g, 0, none⟩ ∧ n = n ∧ c1 = cap := by injection e0 with a b c; exact ⟨a, b, c⟩
        clear e0
        have hx1 : x.1 = (oL, m.1.length, cL) := by
          simp only [encE, List.cons.injEq, Value.slice.injEq] at hu
          obtain ⟨⟨a, b, c⟩, _⟩ := hu
          rw [← a, ← b, ← c]
        obtain ⟨nL, hnL⟩ : ∃ nL, m.1.length = nL := ⟨_, rfl⟩
        have r1 : wr.cell? ⟨g, k * 2, none⟩ = some (.slice oL nL cL) := by
          have := hcell _ _ (flatE_at zs k x hx 0 _ rfl)
          rw [hx1, hnL] at this
          exact this
        have r2 : wr.frozen? ⟨g, k * 2, none⟩ = false := H.out.own.frozenAt _
        have rb := Lib.hid (Below.refl wr.heap.size wr)
        have HC := Lib.hid (fun W (hb : Hid (Below wr.heap.size wr W)) => (copyLabs_any oL nL cL m.1 hnL (by omega) W (hL.sees.below hb.out)).mono (fun e w' q => show ∃ o2 c2, e = .returned (.slice o2 nL c2) ∧ (w'.cell? ⟨g, k * 2, none⟩ = some (.slice oL nL cL) ∧ w'.frozen? ⟨g, k * 2, none⟩ = false) ∧ Hid (LabS w' 0 o2 m.1) ∧ Hid (Below wr.heap.size wr w') from by
          obtain ⟨⟨o2, c2, rfl, hl2⟩, hb2⟩ := q
          have h2 := hb.out.trans (hb2.mono hb.out.size)
          have ho2 := own_grown H.out.own h2
          exact ⟨o2, c2, rfl, ⟨(h2.cell (p := ⟨g, _, none⟩) hgl).trans r1, ho2.frozenAt _⟩, hl2, h2⟩))
        have HX := Lib.hid hx
        have HM0 := Lib.hid hm0
        have HNL := Lib.hid hnL
        have HGB := Lib.hid hgB
        clear hx hm0 hnL hu hL lL hml hcell hx1 hgB hgl hnc hcm
        go_wp2_with fail
        refine (HC.out _ rb).mono ?_
        rintro e wq ⟨o2, c2, rfl, ⟨s1, s2⟩, sl, sb⟩
        have HH := Lib.hid (show Half w.heap.size B n ms (.slice (some ⟨g, 0, none⟩) n c1) (zs.set k ((o2, nL, c2), x.2)) w (wq.setCell ⟨g, k * 2, none⟩ (.slice o2 nL c2)) by
          have ho := own_grown H.out.own sb.out
          refine ⟨by rw [List.length_set]; exact H.out.len, ?_, ?_, ?_⟩
          · have := (ho.stored (k * 2) (.slice o2 nL c2)).1
            rw [flat_set zs k x (o2, nL, c2) HX.out] at this
            exact this
          · rw [← HNL.out]
            exact (H.out.mean.below sb.out).set hB ho HX.out HM0.out sl.out
          · exact (H.out.on.trans (sb.out.mono H.out.on.size)).setCell HGB.out _)
        clear HC r1 r2 rb sb sl
        go_wp2
        go_roundw
        case rel => exact ⟨k + 1, _, by go_num, by omega, HH⟩
        case measure => simp [intOf]; omega
      · have j1 : ¬ (k : Int) < n := by omega
        go_wp2
        go_ret
        exact ⟨⟨_, zs, rfl, H.out.len, H.out.own, H.out.mean⟩, H.out.on⟩
end Go.Proofs.YtbdnonphkobkoaaGreat.BkR
