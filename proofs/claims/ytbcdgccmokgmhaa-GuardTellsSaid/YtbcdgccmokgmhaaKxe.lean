/- The book of lists, fifth part: all lists are marked. -/
import Derived.Test.YtbcdgccmokgmhaaKxd
import Derived.Deep.RegionWith
import Derived.BigRegion
namespace Go.Proofs.Ytbcdgccmokgmhaa.BkX
open Go.RowKit

theorem grown_trans {a b c : World} {r : Option Nat} (h : a.grownBy b r) (k : b.grownBy c r) : a.grownBy c r :=
  ⟨k.os.trans h.os, k.tape.trans h.tape, k.output.trans h.output, Nat.le_trans h.size k.size, fun i hi hr => (k.block i (Nat.lt_of_lt_of_le hi h.size) hr).trans (h.block i hi hr)⟩
theorem Kept.below {B : Nat} {w w' : World} {R : Value} {L : List (Value × List El)} (h : Kept B w R L) (hb : Below w.heap.size w w') : Kept B w' R L :=
  ⟨own_grown h.row hb, fun i v xs hi => ⟨own_grown (h.each i v xs hi).1 hb, (h.each i v xs hi).2⟩, h.apart, h.few⟩
/-- One list has other contents. -/
theorem Kept.put {B : Nat} {w w' : World} {R : Value} {L : List (Value × List El)} (h : Kept B w R L) {k : Nat} {v : Value} {xs ys : List El} (hk : L[k]? = some (v, xs)) (hg : w.grownBy w' v.ownBlock)
    (hown : w'.ownsRow B 9 1 v ys.length (flatE ys)) (hy : ys.length ≤ 100000) : Kept B w' R (L.set k (v, ys)) := by
  have hkl : k < L.length := (List.getElem?_eq_some_iff.1 hk).1
  have hmap : (L.set k (v, ys)).map (·.1) = L.map (·.1) := by
    apply List.ext_getElem?
    intro i
    simp only [List.getElem?_map, List.getElem?_set]
    by_cases hik : k = i
    · subst hik
      rw [if_pos rfl, if_pos hkl, hk]; rfl
    · rw [if_neg hik]
  have hval : ∀ i p, (L.set k (v, ys))[i]? = some p → ∃ q, L[i]? = some q ∧ q.1 = p.1 ∧ (i ≠ k → q = p) ∧ (i = k → p = (v, ys)) := by
    intro i p hi
    rw [List.getElem?_set] at hi
    by_cases hik : k = i
    · subst hik
      rw [if_pos rfl, if_pos hkl] at hi
      injection hi with hi
      subst hi
      exact ⟨_, hk, rfl, fun h => absurd rfl h, fun _ => rfl⟩
    · rw [if_neg hik] at hi
      exact ⟨p, hi, rfl, fun _ => rfl, fun h => absurd h.symm hik⟩
  refine ⟨?_, ?_, ?_, by rw [List.length_set]; exact h.few⟩
  · rw [List.length_set, hmap]
    exact h.row.kept hg (own_far h.row (h.each k v xs hk).1 (by decide))
  · intro i u zs hi
    obtain ⟨q, hq, h1, h2, h3⟩ := hval i _ hi
    by_cases hik : i = k
    · have := h3 hik
      injection this with e1 e2
      subst e1; subst e2
      exact ⟨hown, hy⟩
    · have := h2 hik
      subst this
      refine ⟨(h.each i _ _ hq).1.kept hg ?_, (h.each i _ _ hq).2⟩
      exact h.apart i k _ _ hik hq hk
  · intro i j p q hij hp hq
    obtain ⟨p', hp', e1, _⟩ := hval i _ hp
    obtain ⟨q', hq', e2, _⟩ := hval j _ hq
    rw [← e1, ← e2]
    exact h.apart i j p' q' hij hp' hq'

theorem mix_step {M xs : List El} {n j : Nat} (hM : M.length = n) (hx : xs.length = n) (hj : j < n) {y : El} (hy : M[j]? = some y) : ((flatE (M.take j ++ xs.drop j)).set (j) (.string y)) = flatE (M.take (j + 1) ++ xs.drop (j + 1)) := by
  obtain ⟨x, hx0⟩ : ∃ x, xs[j]? = some x := ⟨_, List.getElem?_eq_getElem (by omega)⟩
  have e1 : xs.drop j = [x] ++ xs.drop (j + 1) := by
    obtain ⟨h1, h2⟩ := List.getElem?_eq_some_iff.1 hx0
    rw [List.drop_eq_getElem_cons h1, h2]; rfl
  have e2 : M.take (j + 1) = M.take j ++ [y] := by
    obtain ⟨h1, h2⟩ := List.getElem?_eq_some_iff.1 hy
    rw [List.take_succ_eq_append_getElem h1, h2]
  have hA : (flatE (M.take j)).length = j := by rw [flatE_len, List.length_take]; omega
  rw [e1, e2]
  simp only [flatE_append, flatE_one, encE, List.append_assoc]
  generalize flatE (M.take j) = A at hA ⊢
  rw [List.set_append_right _ _ (by omega), show j - A.length = 0 by omega]
  simp

set_option maxHeartbeats 4000000 in
set_option maxRecDepth 100000 in
theorem putRunes_any (B bk : Nat) (cs : Array Value) (R : Value) (L : List (Value × List El)) (w : World) (h : Kept B w R L) (hbk : w.heap[bk]? = some (.cells cs 44 (0, 0))) (h4 : cs[0]? = some R) :
    Calls Try.prog 38 #[.pointer (some ⟨bk, 0, none⟩)] w fun e w' => e = .returned (.tuple #[]) ∧ (∃ L2, Kept B w' R L2 ∧ L2.length = L.length ∧ ∀ i v xs, L[i]? = some (v, xs) → L2[i]? = some (v, marksR i 0 xs.length)) ∧ Touch (L.map (·.1)) w w' := by
  obtain ⟨nL, hnL⟩ : ∃ n, L.length = n := ⟨_, rfl⟩
  have hR : ∃ o c, R = .slice o nL c := by
    rcases own_open h.row with ⟨rfl, h0, _⟩ | ⟨g, cap, rfl, _⟩
    · exact ⟨none, 0, by rw [← hnL, h0]⟩
    · exact ⟨_, cap, by rw [hnL]⟩
  obtain ⟨o, c, rfl⟩ := hR
  have hfew := h.few
  rw [hnL] at hfew
  have HN := Lib.hid hnL
  have HK := Lib.hid h
  have HB := Lib.hid hbk
  have H4 := Lib.hid h4
  clear h hnL hbk h4
  go_enter Try.func38, Try.ntmps38
  go_wp2
  go_loopw [2, 3, 4] (fun vi vm vj wr => ∃ (k : Nat) (L2 : List (Value × List El)), vi = .int .i64 k ∧ k ≤ nL ∧ Hid (Kept B wr (.slice o nL c) L2 ∧ wr.heap[bk]? = some (.cells cs 44 (0, 0)) ∧ L2.length = L.length ∧ (∀ i v xs, L[i]? = some (v, xs) → L2[i]? = some (v, if i < k then marksR i 0 xs.length else xs)) ∧ Touch (L.map (·.1)) w wr)) (fun vi _ _ _ => nL - (intOf vi).toNat)
  case atStart => exact ⟨0, L, rfl, Nat.zero_le _, HK.out, HB.out, rfl, fun i v xs hi => by simpa using hi, Touch.refl _ _⟩
  case round =>
    obtain ⟨k, L2, rfl, hk, H⟩ := hrel
    have f4 : wr.cell? ⟨bk, 0, none⟩ = some (.slice o nL c) := by rw [cell_of_row wr bk 0 cs 44 (0, 0) H.out.2.1]; exact H4.out
    by_cases hkn : k < nL
    · have i1 : (k : Int) < nL := by omega
      obtain ⟨g, cap, v, xs, hR, hv, hcv, hown, hx⟩ := H.out.1.at (k := k) (by rw [H.out.2.2.1, HN.out]; exact hkn)
      injection hR with hR x2 x3; clear x2 x3
      subst hR
      obtain ⟨n, hn⟩ : ∃ n, xs.length = n := ⟨_, rfl⟩
      have HXN := Lib.hid hn
      have hvs : ∃ o c, v = .slice o n c := by
        rcases own_open hown with ⟨rfl, h0, _⟩ | ⟨g, cap, rfl, _⟩
        · exact ⟨none, 0, by rw [← hn, h0]⟩
        · exact ⟨_, cap, by rw [hn]⟩
      obtain ⟨ov, cv, rfl⟩ := hvs
      rw [hn] at hx hown
      have HO := Lib.hid hown
      have HV := Lib.hid hv
      clear hown hv hn
      have C := Lib.hid (fun W => markRunes_any k 0 n (by omega) (by omega) (by omega) W)
      go_wp2_with fail
      refine (C.out _).mono ?_
      rintro e w1 ⟨⟨vm, rfl, hm⟩, hb1⟩
      obtain ⟨M, hM⟩ : ∃ M, M = marksR k 0 n := ⟨_, rfl⟩
      rw [marksR_length, ← hM] at hm
      have hMl : M.length = n := by rw [hM, marksR_length]
      have HM := Lib.hid hM
      have hvm : ∃ o c, vm = .slice o n c := by
        rcases own_open hm with ⟨rfl, h0, _⟩ | ⟨g, cap, rfl, _⟩
        · exact ⟨none, 0, by rw [h0]⟩
        · exact ⟨_, cap, rfl⟩
      obtain ⟨om, cm, rfl⟩ := hvm
      have HMO := Lib.hid hm
      have HML := Lib.hid hMl
      have HB1 := Lib.hid hb1
      clear hm hM hMl hb1 C
      obtain ⟨w0, hw0⟩ : ∃ w0, w0 = wr := ⟨_, rfl⟩
      subst hw0
      go_wp2
      go_loopw [4] (fun vj wq => ∃ (j : Nat), vj = .int .i64 j ∧ j ≤ n ∧ Hid (wq.ownsRow B 9 1 (.slice ov n cv) n (flatE (M.take j ++ xs.drop j)) ∧ w1.grownBy wq (Value.ownBlock (.slice ov n cv)))) (fun vj _ => n - (intOf vj).toNat)
      case atStart => exact ⟨0, rfl, Nat.zero_le _, by simpa using own_grown HO.out HB1.out, ⟨rfl, rfl, rfl, Nat.le_refl _, fun _ _ _ => rfl⟩⟩
      case round =>
        obtain ⟨j, rfl, hj, HQ⟩ := hrel
        by_cases hjn : j < n
        · have j1 : (j : Int) < n := by omega
          rcases own_open HQ.out.1 with ⟨_, h0, _⟩ | ⟨gv, cv', e1, _, _, _, _, _⟩
          · omega
          injection e1 with e1 x2 x3; clear x2 x3
          subst e1
          rcases own_open HMO.out with ⟨_, h0, _⟩ | ⟨gm, cm', e1, hgm, hgm1, _, _, hcm⟩
          · omega
          injection e1 with e1 x2 x3; clear x2 x3
          subst e1
          have hgv : gv < w0.heap.size := (HO.out.lt gv rfl).2
          have hbw := HB1.out
          have hgq := HQ.out.2
          have hbs := (Array.getElem?_eq_some_iff.1 H.out.2.1).1
          have hgs := (H.out.1.row.lt g rfl).2
          have hnb : gv ≠ bk := fun e => own_ne HO.out H.out.2.1 (by decide) (by rw [← e]; rfl)
          have hng : gv ≠ g := fun e => (own_far HO.out H.out.1.row (by decide)).elim (fun h => by cases h) (fun h => h (by rw [e]; rfl))
          have hBK : wr.heap[bk]? = some (.cells cs 44 (0, 0)) := by
            rw [hgq.block bk (Nat.lt_of_lt_of_le hbs hbw.size) (fun e => hnb (Option.some.inj e).symm), hbw.block bk hbs]; exact H.out.2.1
          have hGK : wr.heap[g]? = w0.heap[g]? := by
            rw [hgq.block g (Nat.lt_of_lt_of_le hgs hbw.size) (fun e => hng (Option.some.inj e).symm), hbw.block g hgs]
          have hMK : wr.heap[gm]? = w1.heap[gm]? := hgq.block gm hgm1 (fun e => by have : gm = gv := Option.some.inj e; omega)
          obtain ⟨y, hMj⟩ : ∃ y, M[j]? = some y := ⟨_, List.getElem?_eq_getElem (by have := HML.out; omega)⟩
          have d1 : ∀ n, (wr.drewN n).cell? ⟨bk, 0, none⟩ = some (.slice (some ⟨g, 0, none⟩) nL c) := fun n => by
            show wr.cell? _ = _
            rw [cell_of_row wr bk 0 cs 44 (0, 0) hBK]; exact H4.out
          have d2 : ∀ n', (wr.drewN n').cell? ⟨g, k, none⟩ = some (.slice (some ⟨gv, 0, none⟩) n cv) := fun _ => by
            show wr.cell? _ = _
            rw [World.cell?_of_block (a := ⟨g, k, none⟩) hGK]; exact hcv
          have m0 : wr.cell? ⟨gm, j, none⟩ = some (.string y) := by
            rw [World.cell?_of_block (a := ⟨gm, j, none⟩) hMK]; exact hcm _ _ (by have hh := flatE_at M j y hMj 0 _ rfl; rwa [Nat.mul_one, Nat.add_zero] at hh)
          obtain ⟨u0, v0⟩ : ∃ u, wr.cell? ⟨gv, j, none⟩ = some u := by
            have hl : j < (flatE (M.take j ++ xs.drop j)).length := by rw [HQ.out.1.1]; omega
            exact ⟨_, by rw [HQ.out.1.cellAt (j) (by omega), List.getElem?_eq_getElem hl]⟩
          have z0 : wr.frozen? ⟨gv, j, none⟩ = false := HQ.out.1.frozenAt _
          have hs0 := HQ.out.1.stored (j) (.string y)
          have hso := hs0.1
          rw [mix_step HML.out HXN.out hjn hMj] at hso
          have HST := Lib.hid (And.intro hso (hs0.2))
          have e1 : wr.cell? ⟨bk, 0, none⟩ = _ := d1 0
          have e2 : wr.cell? ⟨g, k, none⟩ = _ := d2 0
          clear hso hs0 hgq hbw hBK hGK hMK hMj hcm d1 d2 f4 hcv
          go_wp2
          go_region
          all_goals
            go_wp2
            go_roundw
            case rel => exact ⟨j + 1, by go_num, by omega, HST.out.1, HQ.out.2.trans (grown_drew HST.out.2)⟩
            case measure => simp [intOf]; omega
        · have j1 : (n : Int) ≤ j := by omega
          have hje : j = n := by omega
          have hl2 : (M.take j ++ xs.drop j) = marksR k 0 n := by
            rw [hje, List.take_of_length_le (by rw [HML.out]; omega), List.drop_eq_nil_of_le (by rw [HXN.out]; omega), List.append_nil]; exact HM.out
          have H9 := Lib.hid hl2
          clear hl2 hje
          go_wp2
          go_roundw
          case rel =>
            have hq := HQ.out
            rw [H9.out] at hq
            have hbs := (Array.getElem?_eq_some_iff.1 H.out.2.1).1
            have hvL : ∃ xs0, L[k]? = some (.slice ov n cv, xs0) := by
              have hkL : k < L.length := by rw [HN.out]; exact hkn
              have h1 := H.out.2.2.2.1 k L[k].1 L[k].2 (by simp [hkL])
              rw [HV.out] at h1
              have h2 := congrArg Prod.fst (Option.some.inj h1)
              exact ⟨L[k].2, by rw [List.getElem?_eq_getElem hkL]; congr 1; exact Prod.ext h2.symm rfl⟩
            refine ⟨k + 1, L2.set k (.slice ov n cv, marksR k 0 n), by go_num, by omega, ?_, ?_, ?_, ?_, ?_⟩
            · exact (H.out.1.below HB1.out).put HV.out hq.2 (by rw [marksR_length]; exact hq.1) (by rw [marksR_length]; exact hx)
            · rw [hq.2.block bk (Nat.lt_of_lt_of_le hbs HB1.out.size) (fun e => own_ne HO.out H.out.2.1 (by decide) e.symm), HB1.out.block bk hbs]
              exact H.out.2.1
            · rw [List.length_set]; exact H.out.2.2.1
            · intro i v' xs' hi
              have h1 := H.out.2.2.2.1 i v' xs' hi
              rw [List.getElem?_set]
              by_cases hik : k = i
              · subst hik
                have hkl := (List.getElem?_eq_some_iff.1 h1).1
                rw [if_pos rfl, if_pos hkl, if_pos (by omega)]
                rw [HV.out, if_neg (by omega)] at h1
                have h2 := Option.some.inj h1
                injection h2 with h2 h3
                rw [← h2, ← h3, HXN.out]
              · rw [if_neg hik, h1]
                by_cases hlt : i < k
                · rw [if_pos hlt, if_pos (by omega)]
                · rw [if_neg hlt, if_neg (by omega)]
            · obtain ⟨xs0, hv0⟩ := hvL
              refine H.out.2.2.2.2.trans ((Touch.of_below HB1.out).trans (Touch.of_grown hq.2 ?_))
              exact List.mem_map.2 ⟨_, List.mem_of_getElem? hv0, rfl⟩
          case measure => simp [intOf]; omega
    · have i1 : (nL : Int) ≤ k := by omega
      go_wp2
      go_end0
      have hH := H.out
      refine ⟨rfl, ⟨L2, hH.1, hH.2.2.1, fun i v xs hi => ?_⟩, hH.2.2.2.2⟩
      have := hH.2.2.2.1 i v xs hi
      rw [if_pos (by have := HN.out; have := (List.getElem?_eq_some_iff.1 hi).1; omega)] at this
      exact this
end Go.Proofs.Ytbcdgccmokgmhaa.BkX
