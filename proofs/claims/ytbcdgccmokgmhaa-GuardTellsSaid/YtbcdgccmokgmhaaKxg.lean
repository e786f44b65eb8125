/- The book of lists, seventh part: the walk that grows all lists. -/
import Derived.Test.YtbcdgccmokgmhaaKxf
namespace Go.Proofs.Ytbcdgccmokgmhaa.BkX
open Go.RowKit

theorem marks_news {w : World} {H g cap i k n : Nat} (h : w.ownsRow H 9 1 (.slice (some ⟨g, 0, none⟩) n cap) n (flatE (marksR i k n))) : ∀ j u, (flatE (marksR i k n))[j]? = some u → w.cell? ((⟨g, 0, none⟩ : Addr).add j) = some u :=
  h.cells rfl

set_option maxHeartbeats 8000000 in
set_option maxRecDepth 100000 in
theorem growRunes_any (B bk : Nat) (cs : Array Value) (R : Value) (L : List (Value × List El)) (w : World) (hBw : B ≤ w.heap.size) (h : Kept B w R L) (hbk : w.heap[bk]? = some (.cells cs 44 (0, 0))) (h4 : cs[0]? = some R) (hmk : ∀ i v xs, L[i]? = some (v, xs) → xs = marksR i 0 xs.length) :
    Calls Try.prog 46 #[.pointer (some ⟨bk, 0, none⟩)] w fun e w' => ∃ us vo, e = .returned vo ∧ us.length = L.length ∧ GrowInv B bk cs R L w us vo w' := by
  obtain ⟨i0, hi, hz0, hz1, hz2⟩ := info_parts infoE
  obtain ⟨i1, hi1, hy0, hy1, hy2⟩ := info_parts infoS
  obtain ⟨nL, hnL⟩ : ∃ n, L.length = n := ⟨_, rfl⟩
  have hR : ∃ o c, R = .slice o nL c := by
    rcases own_open h.row with ⟨rfl, h0, _⟩ | ⟨g, cap, rfl, _⟩
    · exact ⟨none, 0, by rw [← hnL, h0]⟩
    · exact ⟨_, cap, by rw [hnL]⟩
  obtain ⟨o, c, rfl⟩ := hR
  have hfew := h.few
  rw [hnL] at hfew
  have HN := Lib.hid hnL
  have HK := Lib.hid h
  have HB := Lib.hid hbk
  have H4 := Lib.hid h4
  have HM := Lib.hid hmk
  clear h hnL hbk h4 hmk
  go_enter Try.func46, Try.ntmps46
  go_wp2
  go_loopw [3, 4, 5, 6] (fun vo vi vl vj wr => ∃ (k : Nat) (us : List Value), vi = .int .i64 k ∧ k ≤ nL ∧ Hid (us.length = k ∧ GrowInv B bk cs (.slice o nL c) L w us vo wr)) (fun _ vi _ _ _ => nL - (intOf vi).toNat)
  case atStart => exact ⟨0, [], rfl, Nat.zero_le _, rfl, World.ownsRow_nil _ _ _ _, HK.out, HB.out, Touch.refl _ _, fun i u hu => by simp at hu⟩
  case round =>
    obtain ⟨k, us, rfl, hk, H⟩ := hrel
    have f4 : wr.cell? ⟨bk, 0, none⟩ = some (.slice o nL c) := by rw [cell_of_row wr bk 0 cs 44 (0, 0) H.out.2.bk]; exact H4.out
    by_cases hkn : k < nL
    · have j1 : (k : Int) < nL := by omega
      obtain ⟨g, cap, v, xs, hR, hv, hcv, hown, hx⟩ := H.out.2.kept.at (k := k) (by rw [HN.out]; exact hkn)
      injection hR with hR x2 x3
      clear x2 x3
      subst hR
      obtain ⟨n, hn⟩ : ∃ n, xs.length = n := ⟨_, rfl⟩
      have hxm := HM.out _ _ _ hv
      rw [hn] at hxm hx hown
      have hvs : ∃ o c, v = .slice o n c := by
        rcases own_open hown with ⟨rfl, h0, _⟩ | ⟨g, cap, rfl, _⟩
        · exact ⟨none, 0, by rw [h0]⟩
        · exact ⟨_, cap, rfl⟩
      obtain ⟨ov, cv, rfl⟩ := hvs
      have HXN := Lib.hid hn
      have HO := Lib.hid hown
      have HV := Lib.hid hv
      have HXM := Lib.hid hxm
      clear hown hv hn hxm
      obtain ⟨w0, hw0⟩ : ∃ w0, w0 = wr := ⟨_, rfl⟩
      subst hw0
      have hw0 : w.heap.size ≤ w0.heap.size := H.out.2.touch.size
      have hB0 : B ≤ w0.heap.size := by omega
      go_wp2
      go_loopw [5, 6] (fun vl vj wq => ∃ (j : Nat) (oc : Option Addr) (cc : Nat), vl = .slice oc (n + j) cc ∧ vj = .int .i64 j ∧ j ≤ 12 ∧ Hid (wq.ownsRow B 9 1 (.slice oc (n + j) cc) (n + j) (flatE (marksR k 0 (n + j))) ∧ wq.ownsRow B 9 1 (.slice ov n cv) n (flatE xs) ∧ w0.grownBy wq (Value.ownBlock (.slice ov n cv)) ∧ (Value.ownBlock (.slice oc (n + j) cc) = Value.ownBlock (.slice ov n cv) ∨ ∀ b, Value.ownBlock (.slice oc (n + j) cc) = some b → w0.heap.size ≤ b))) (fun _ vj _ => 12 - (intOf vj).toNat)
      case atStart => exact ⟨0, ov, cv, rfl, rfl, by omega, by have := HO.out; rw [HXM.out] at this; exact this, HO.out, ⟨rfl, rfl, rfl, Nat.le_refl _, fun _ _ _ => rfl⟩, .inl rfl⟩
      case round =>
        obtain ⟨j, oc, cc, rfl, rfl, hj, HQ⟩ := hrel
        have hq0 := HQ.out.2.2.1.size
        by_cases hjn : j < 12
        · have j2 : (j : Int) < 12 := by omega
          have C := Lib.hid (fun W => markRunes_any k (n + j) 1 (by omega) (by omega) (by omega) W)
          go_wp2_with fail
          refine (C.out _).mono ?_
          rintro e w1 ⟨⟨vm, rfl, hm⟩, hb1⟩
          rw [marksR_length] at hm
          obtain ⟨gm, cm, rfl, _, _⟩ := hm.form (by omega)
          have hown1 := own_grown HQ.out.1 hb1
          have hold1 := own_grown HQ.out.2.1 hb1
          have hnews := marks_news hm
          have hq1 := hb1.size
          go_wp2_with (at_builtin; go_must (refine wpList_append_keeps _ rfl _ _ 31 rfl B 9 i0 (.string ⟨#[]⟩) 1 16 Try.underlying31 hi hz0 hz1 hz2 rfl (by decide) _ _ _ rfl hown1 ⟨gm, 0, none⟩ 1 cm (flatE (marksR k (n + j) 1)) rfl (by rw [flatE_len, marksR_length]) hnews (flatE_cells _) (by unfold maxLen; omega) (by omega) (by omega) ?_); intro v' w3 hown' hgrow3 hat3 hkeep3; obtain ⟨g3, c3, rfl, _, _⟩ := hown'.form (by omega))
          have hold3 := hkeep3 _ _ _ _ (by omega) hold1
          have hs3 := grow_step HQ.out.2.2.1 HQ.out.2.2.2 hb1 hgrow3 hat3
          rw [← flatE_append] at hown'
          have e9 := marksR_app k 0 (n + j) 1
          rw [Nat.zero_add] at e9
          rw [e9] at hown'
          have H3 := Lib.hid (And.intro hown' (And.intro hold3 hs3))
          clear hown' hold3 hs3 hgrow3 hat3 hkeep3 hown1 hold1 hnews hb1 hm e9
          go_roundw
          case rel => exact ⟨j + 1, _, _, rfl, by go_num, by omega, H3.out⟩
          case measure => simp [intOf]; omega
        · have j2 : (12 : Int) ≤ j := by omega
          have C := Lib.hid (fun W => markRunes_any k (n + j) 60 (by omega) (by omega) (by omega) W)
          go_wp2_with fail
          refine (C.out _).mono ?_
          rintro e w1 ⟨⟨vm, rfl, hm⟩, hb1⟩
          rw [marksR_length] at hm
          obtain ⟨gm, cm, rfl, _, _⟩ := hm.form (by omega)
          have hown1 := own_grown HQ.out.1 hb1
          have hold1 := own_grown HQ.out.2.1 hb1
          have hnews := marks_news hm
          have hq1 := hb1.size
          have hul : us.length = k := H.out.1
          have HUL := Lib.hid hul
          clear hul
          go_wp2_with (at_builtin; first
            | (refine wpList_append_keeps _ rfl _ _ 31 rfl B 9 i0 (.string ⟨#[]⟩) 1 16 Try.underlying31 hi hz0 hz1 hz2 rfl (by decide) _ _ _ rfl hown1 ⟨gm, 0, none⟩ 60 cm (flatE (marksR k (n + j) 60)) rfl (by rw [flatE_len, marksR_length]) hnews (flatE_cells _) (by unfold maxLen; omega) (by omega) (by omega) ?_
               intro v' w3 hown' hgrow3 hat3 hkeep3
               obtain ⟨g3, c3, rfl, _, _⟩ := hown'.form (by omega)
               have hold3 := hkeep3 _ _ _ _ (by omega) hold1
               have hs3 := grow_step HQ.out.2.2.1 HQ.out.2.2.2 hb1 hgrow3 hat3
               rw [← flatE_append] at hown'
               have e9 := marksR_app k 0 (n + j) 60
               rw [Nat.zero_add] at e9
               rw [e9] at hown'
               have ho3 := H.out.2.out.kept hs3.1 (own_far H.out.2.out HO.out (by decide))
               have hw3 := hs3.1.size
               have H3 := Lib.hid (And.intro hown' (And.intro hold3 hs3))
               clear hown' hold3 hs3 hgrow3 hat3 hkeep3 hown1 hold1 hnews hb1 hm e9)
            | (refine wpList_append_own _ rfl _ _ 33 rfl w.heap.size 31 i1 (.slice none 0 0) 1 24 Try.underlying33 hi1 hy0 hy1 hy2 rfl (by decide) _ _ _ rfl (ho3.alloc _) ⟨w3.heap.size, 0, none⟩ 1 1 [.slice (some ⟨g3, 0, none⟩) (n + j + 60) c3] rfl rfl (cell_1 _ _ _) (by intro u hu; simp at hu; subst hu; rfl) (by have := HUL.out; unfold maxLen; omega) (by have := HUL.out; omega) (by simp; omega) ?_
               intro vo' w5 hown5 hgrow5 hnil5
               have H5 := Lib.hid (And.intro hown5 hgrow5)
               clear hown5 hgrow5 hnil5 ho3))
          go_roundw
          case rel =>
            have hj12 : j = 12 := by omega
            have hnx := HXN.out
            have hul := HUL.out
            subst hj12
            subst hnx
            subst hul
            exact ⟨us.length + 1, us ++ [_], by go_num, by omega, by simp, GrowInv.step H.out.2 HK.out (Array.getElem?_eq_some_iff.1 HB.out).1 HV.out H3.out.2.2.1 H3.out.2.1 H3.out.1 H3.out.2.2.2 H5.out.2 H5.out.1⟩
          case measure => simp [intOf]; omega
    · have j1 : (nL : Int) ≤ k := by omega
      go_wp2
      go_ret
      exact ⟨us, _, rfl, by have := H.out.1; have := HN.out; omega, H.out.2⟩
end Go.Proofs.Ytbcdgccmokgmhaa.BkX
