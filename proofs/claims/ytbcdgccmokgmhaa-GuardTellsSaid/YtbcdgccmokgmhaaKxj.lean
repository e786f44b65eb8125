/- The book of lists, tenth part: are they apart? -/
import Derived.Test.YtbcdgccmokgmhaaKxi
namespace Go.Proofs.Ytbcdgccmokgmhaa.BkX
open Go.RowKit

theorem views_of {C B : Nat} {w : World} {R : Value} {us : List Value} (hrow : w.ownsRow C 31 1 R us.length us) (hfew : us.length ≤ 250) (h : ∀ (i : Nat) (u : Value), us[i]? = some u → ∃ m, m ≤ 200000 ∧ w.ownsRow B 9 1 u m (flatE (marksR i 0 m))) :
    ∃ V, Views C B w R V ∧ ∀ (i : Nat) (v : Value) (xs : List El), V[i]? = some (v, xs) → xs = marksR i 0 xs.length := by
  have h2 : ∀ i : Nat, ∃ m : Nat, ∀ u, us[i]? = some u → m ≤ 200000 ∧ w.ownsRow B 9 1 u m (flatE (marksR i 0 m)) := by
    intro i
    cases hi : us[i]? with
    | none => exact ⟨0, fun u hu => by cases hu⟩
    | some u =>
      obtain ⟨m, hm⟩ := h i u hi
      exact ⟨m, fun u' hu => by cases hu; exact hm⟩
  obtain ⟨f, hf⟩ := Classical.skolem.1 h2
  have hmap : (us.mapIdx fun i u => (u, marksR i 0 (f i))).map (·.1) = us := by
    apply List.ext_getElem?
    intro i
    simp only [List.getElem?_map, List.getElem?_mapIdx, Option.map_map]
    cases us[i]? <;> rfl
  have hlk : ∀ (i : Nat) (v : Value) (xs : List El), (us.mapIdx fun i u => (u, marksR i 0 (f i)))[i]? = some (v, xs) → us[i]? = some v ∧ xs = marksR i 0 (f i) := by
    intro i v xs hi
    rw [List.getElem?_mapIdx] at hi
    cases hu : us[i]? with
    | none => rw [hu] at hi; cases hi
    | some u =>
      rw [hu] at hi
      have := Option.some.inj hi
      injection this with e1 e2
      exact ⟨by rw [e1], e2.symm⟩
  refine ⟨us.mapIdx fun i u => (u, marksR i 0 (f i)), ⟨by rw [hmap, List.length_mapIdx]; exact hrow, fun i v xs hi => ?_, by rw [List.length_mapIdx]; exact hfew⟩, fun i v xs hi => ?_⟩
  · obtain ⟨h3, rfl⟩ := hlk i v xs hi
    rw [marksR_length]
    exact ⟨(hf i v h3).2, (hf i v h3).1⟩
  · obtain ⟨_, rfl⟩ := hlk i v xs hi
    rw [marksR_length]
theorem Kept.views {B : Nat} {w : World} {R : Value} {L : List (Value × List El)} (h : Kept B w R L) : Views B B w R L :=
  ⟨h.row, fun i v xs hi => ⟨(h.each i v xs hi).1, Nat.le_trans (h.each i v xs hi).2 (by decide)⟩, h.few⟩
theorem Kept.touched {B bk : Nat} {w w' : World} {R : Value} {L : List (Value × List El)} {cs : Array Value} (h : Kept B w R L) (hb : w.heap[bk]? = some (.cells cs 44 (0, 0))) (ht : Touch (L.map (·.1)) w w') : w'.heap[bk]? = some (.cells cs 44 (0, 0)) := by
  rw [ht.block bk (Array.getElem?_eq_some_iff.1 hb).1 ?_]
  · exact hb
  · intro v hv
    obtain ⟨p, hp, rfl⟩ := List.mem_map.1 hv
    obtain ⟨i, hi⟩ := List.mem_iff_getElem?.1 hp
    exact own_ne (h.each i p.1 p.2 hi).1 hb (by decide)

set_option maxHeartbeats 16000000 in
set_option maxRecDepth 100000 in
theorem apart_any (B bk : Nat) (cs : Array Value) (R R' : Value) (L L' : List (Value × List El)) (hLL : L.map (·.2) = L'.map (·.2)) (w : World) (hBw : B ≤ w.heap.size) (h : Kept B w R L) (h' : Kept B w R' L') (hbk : w.heap[bk]? = some (.cells cs 44 (0, 0)))
    (h4 : cs[0]? = some R) (h5 : cs[1]? = some R') (hno : ∀ i, i < 20 → i ≠ 0 → i ≠ 1 → cs[i]? = some (.slice none 0 0)) :
    Calls Try.prog 18 #[.pointer (some ⟨bk, 0, none⟩)] w fun e w' => e = .returned (.bool true) ∧ ∃ V, (∀ v ∈ V, v.ownBlock = none ∨ ∃ b, v.ownBlock = some b ∧ B ≤ b) ∧ Touch V w w' := by
  have HL := Lib.hid hLL
  have HK := Lib.hid h
  have HK' := Lib.hid h'
  have HB := Lib.hid hbk
  have H4 := Lib.hid h4
  have H5 := Lib.hid h5
  have HNO := Lib.hid hno
  clear hLL h h' hbk h4 h5 hno
  go_enter Try.func18, Try.ntmps18
  go_wp2_with fail
  refine (stillRunes_any B bk R R' L L' HL.out _ HK.out HK'.out (by rw [cell_of_row _ bk 0 cs 44 (0, 0) HB.out]; exact H4.out) (by rw [cell_of_row _ bk 1 cs 44 (0, 0) HB.out]; exact H5.out)).mono ?_
  rintro e wA ⟨rfl, mA, hwA⟩
  have HBA := Lib.hid (show wA.heap[bk]? = some (.cells cs 44 (0, 0)) by rw [hwA]; exact HB.out)
  have HKA := Lib.hid (show Kept B wA R L by rw [hwA]; exact HK.out.drewN mA)
  have HTA := Lib.hid (show Touch (L.map (·.1)) w wA by rw [hwA]; exact ⟨rfl, rfl, rfl, Nat.le_refl _, fun _ _ _ => rfl⟩)
  clear hwA
  go_wp2_with fail
  refine (stillInts_none bk cs _ HBA.out (HNO.out 2 (by decide) (by decide) (by decide))).mono ?_
  rintro e wz ⟨rfl, hwz⟩
  replace hwz := hwz.symm
  subst hwz
  go_wp2_with fail
  refine (stillRunes_none bk cs _ HBA.out (HNO.out 4 (by decide) (by decide) (by decide))).mono ?_
  rintro e wz ⟨rfl, hwz⟩
  replace hwz := hwz.symm
  subst hwz
  go_wp2_with fail
  refine (stillLabels_none bk cs _ HBA.out (HNO.out 6 (by decide) (by decide) (by decide))).mono ?_
  rintro e wz ⟨rfl, hwz⟩
  replace hwz := hwz.symm
  subst hwz
  go_wp2_with fail
  refine (stillPoints_none bk cs _ HBA.out (HNO.out 8 (by decide) (by decide) (by decide))).mono ?_
  rintro e wz ⟨rfl, hwz⟩
  replace hwz := hwz.symm
  subst hwz
  go_wp2_with fail
  refine (stillTokens_none bk cs _ HBA.out (HNO.out 10 (by decide) (by decide) (by decide))).mono ?_
  rintro e wz ⟨rfl, hwz⟩
  replace hwz := hwz.symm
  subst hwz
  go_wp2_with fail
  refine (stillCursors_none bk cs _ HBA.out (HNO.out 12 (by decide) (by decide) (by decide))).mono ?_
  rintro e wz ⟨rfl, hwz⟩
  replace hwz := hwz.symm
  subst hwz
  go_wp2_with fail
  refine (stillNotes_none bk cs _ HBA.out (HNO.out 14 (by decide) (by decide) (by decide))).mono ?_
  rintro e wz ⟨rfl, hwz⟩
  replace hwz := hwz.symm
  subst hwz
  go_wp2_with fail
  refine (stillRows_none bk cs _ HBA.out (HNO.out 16 (by decide) (by decide) (by decide))).mono ?_
  rintro e wz ⟨rfl, hwz⟩
  replace hwz := hwz.symm
  subst hwz
  go_wp2_with fail
  refine (stillSeries_none bk cs _ HBA.out (HNO.out 18 (by decide) (by decide) (by decide))).mono ?_
  rintro e wz ⟨rfl, hwz⟩
  replace hwz := hwz.symm
  subst hwz
  go_wp2_with fail
  refine (putRows_none bk cs _ HBA.out (HNO.out 16 (by decide) (by decide) (by decide))).mono ?_
  rintro e wz ⟨rfl, hwz⟩
  replace hwz := hwz.symm
  subst hwz
  go_wp2_with fail
  refine (putSeries_none bk cs _ HBA.out (HNO.out 18 (by decide) (by decide) (by decide))).mono ?_
  rintro e wz ⟨rfl, hwz⟩
  replace hwz := hwz.symm
  subst hwz
  go_wp2_with fail
  refine (putRunes_any B bk cs R L _ HKA.out HBA.out H4.out).mono ?_
  rintro e wB ⟨rfl, ⟨L2, hK2, hl2, hm2⟩, hT2⟩
  have HBB := Lib.hid (HKA.out.touched HBA.out hT2)
  have HTB := Lib.hid (HTA.out.trans hT2)
  have HKB := Lib.hid hK2
  have HLB := Lib.hid hl2
  have HMB := Lib.hid (show ∀ (i : Nat) (v : Value) (xs : List El), L2[i]? = some (v, xs) → xs = marksR i 0 xs.length by
    intro i v xs hi
    have hil : i < L.length := by rw [← hl2]; exact (List.getElem?_eq_some_iff.1 hi).1
    have h1 := hm2 i L[i].1 L[i].2 (by simp [hil])
    rw [hi] at h1
    have h2 := congrArg Prod.snd (Option.some.inj h1)
    simp only at h2
    rw [h2, marksR_length])
  have HVB := Lib.hid (show L2.map (·.1) = L.map (·.1) by
    apply List.ext_getElem?
    intro i
    rw [List.getElem?_map, List.getElem?_map]
    by_cases hil : i < L.length
    · rw [hm2 i L[i].1 L[i].2 (by simp [hil]), List.getElem?_eq_getElem hil]; rfl
    · rw [List.getElem?_eq_none (by omega), List.getElem?_eq_none (by omega)])
  clear hT2 hK2 hl2 hm2
  go_wp2_with fail
  refine (putInts_none bk cs _ HBB.out (HNO.out 2 (by decide) (by decide) (by decide))).mono ?_
  rintro e wz ⟨rfl, hwz⟩
  replace hwz := hwz.symm
  subst hwz
  go_wp2_with fail
  refine (putRunes_none bk cs _ HBB.out (HNO.out 4 (by decide) (by decide) (by decide))).mono ?_
  rintro e wz ⟨rfl, hwz⟩
  replace hwz := hwz.symm
  subst hwz
  go_wp2_with fail
  refine (putLabels_none bk cs _ HBB.out (HNO.out 6 (by decide) (by decide) (by decide))).mono ?_
  rintro e wz ⟨rfl, hwz⟩
  replace hwz := hwz.symm
  subst hwz
  go_wp2_with fail
  refine (putPoints_none bk cs _ HBB.out (HNO.out 8 (by decide) (by decide) (by decide))).mono ?_
  rintro e wz ⟨rfl, hwz⟩
  replace hwz := hwz.symm
  subst hwz
  go_wp2_with fail
  refine (putTokens_none bk cs _ HBB.out (HNO.out 10 (by decide) (by decide) (by decide))).mono ?_
  rintro e wz ⟨rfl, hwz⟩
  replace hwz := hwz.symm
  subst hwz
  go_wp2_with fail
  refine (putCursors_none bk cs _ HBB.out (HNO.out 12 (by decide) (by decide) (by decide))).mono ?_
  rintro e wz ⟨rfl, hwz⟩
  replace hwz := hwz.symm
  subst hwz
  go_wp2_with fail
  refine (putNotes_none bk cs _ HBB.out (HNO.out 14 (by decide) (by decide) (by decide))).mono ?_
  rintro e wz ⟨rfl, hwz⟩
  replace hwz := hwz.symm
  subst hwz
  go_wp2_with fail
  refine (growRunes_any B bk cs R L2 _ (Nat.le_trans hBw HTB.out.size) HKB.out HBB.out H4.out HMB.out).mono ?_
  rintro e wC ⟨us, vo, rfl, hul, hG⟩
  have HBC := Lib.hid hG.bk
  have HTC := Lib.hid (HTB.out.trans (show Touch (L.map (·.1)) wB wC by rw [← HVB.out]; exact hG.touch))
  have HKC := Lib.hid hG.kept
  obtain ⟨V, hV, hVm⟩ := views_of (B := B) hG.out (by rw [hul]; exact hG.kept.few) (fun i u hu => by
    obtain ⟨v, xs, h1, h2, _⟩ := hG.each i u hu
    exact ⟨_, by have := (hG.kept.each i v xs h1).2; omega, h2⟩)
  have HV := Lib.hid hV
  have HVM := Lib.hid hVm
  clear hG hul hV hVm
  go_wp2_with fail
  refine (growInts_none bk cs _ HBC.out (HNO.out 2 (by decide) (by decide) (by decide))).mono ?_
  rintro e wz ⟨rfl, hwz⟩
  replace hwz := hwz.symm
  subst hwz
  go_wp2_with fail
  refine (growRunes_none bk cs _ HBC.out (HNO.out 4 (by decide) (by decide) (by decide))).mono ?_
  rintro e wz ⟨rfl, hwz⟩
  replace hwz := hwz.symm
  subst hwz
  go_wp2_with fail
  refine (growLabels_none bk cs _ HBC.out (HNO.out 6 (by decide) (by decide) (by decide))).mono ?_
  rintro e wz ⟨rfl, hwz⟩
  replace hwz := hwz.symm
  subst hwz
  go_wp2_with fail
  refine (growPoints_none bk cs _ HBC.out (HNO.out 8 (by decide) (by decide) (by decide))).mono ?_
  rintro e wz ⟨rfl, hwz⟩
  replace hwz := hwz.symm
  subst hwz
  go_wp2_with fail
  refine (growTokens_none bk cs _ HBC.out (HNO.out 10 (by decide) (by decide) (by decide))).mono ?_
  rintro e wz ⟨rfl, hwz⟩
  replace hwz := hwz.symm
  subst hwz
  go_wp2_with fail
  refine (growCursors_none bk cs _ HBC.out (HNO.out 12 (by decide) (by decide) (by decide))).mono ?_
  rintro e wz ⟨rfl, hwz⟩
  replace hwz := hwz.symm
  subst hwz
  go_wp2_with fail
  refine (growNotes_none bk cs _ HBC.out (HNO.out 14 (by decide) (by decide) (by decide))).mono ?_
  rintro e wz ⟨rfl, hwz⟩
  replace hwz := hwz.symm
  subst hwz
  go_wp2_with fail
  refine (growRows_none bk cs _ HBC.out (HNO.out 16 (by decide) (by decide) (by decide))).mono ?_
  rintro e wz ⟨rfl, hwz⟩
  replace hwz := hwz.symm
  subst hwz
  go_wp2_with fail
  refine (growSeries_none bk cs _ HBC.out (HNO.out 18 (by decide) (by decide) (by decide))).mono ?_
  rintro e wz ⟨rfl, hwz⟩
  replace hwz := hwz.symm
  subst hwz
  have q4 : wC.cell? ⟨bk, 0, none⟩ = some R := by rw [cell_of_row _ bk 0 cs 44 (0, 0) HBC.out]; exact H4.out
  go_wp2_with fail
  refine (markedRunes_any _ B vo V _ HV.out HVM.out).mono ?_
  rintro e wD ⟨rfl, hbD⟩
  have q4 : wD.cell? ⟨bk, 0, none⟩ = some R := by rw [hbD.cell (p := ⟨bk, 0, none⟩) (Array.getElem?_eq_some_iff.1 HBC.out).1]; exact q4
  have HBD := Lib.hid (show wD.heap[bk]? = some (.cells cs 44 (0, 0)) by rw [hbD.block bk (Array.getElem?_eq_some_iff.1 HBC.out).1]; exact HBC.out)
  have HKD := Lib.hid (HKC.out.below hbD)
  have HTD := Lib.hid (HTC.out.trans (Touch.of_below hbD))
  clear hbD
  go_wp2_with fail
  refine (markedRunes_any B B R L2 _ HKD.out.views HMB.out).mono ?_
  rintro e wE ⟨rfl, hbE⟩
  have HBE := Lib.hid (show wE.heap[bk]? = some (.cells cs 44 (0, 0)) by rw [hbE.block bk (Array.getElem?_eq_some_iff.1 HBD.out).1]; exact HBD.out)
  have HTE := Lib.hid (HTD.out.trans (Touch.of_below hbE))
  clear q4
  have q2 : wE.cell? ⟨bk, 2, none⟩ = some (.slice none 0 0) := by rw [cell_of_row _ bk 2 cs 44 (0, 0) HBE.out]; exact HNO.out 2 (by decide) (by decide) (by decide)
  have q4 : wE.cell? ⟨bk, 4, none⟩ = some (.slice none 0 0) := by rw [cell_of_row _ bk 4 cs 44 (0, 0) HBE.out]; exact HNO.out 4 (by decide) (by decide) (by decide)
  have q6 : wE.cell? ⟨bk, 6, none⟩ = some (.slice none 0 0) := by rw [cell_of_row _ bk 6 cs 44 (0, 0) HBE.out]; exact HNO.out 6 (by decide) (by decide) (by decide)
  have q8 : wE.cell? ⟨bk, 8, none⟩ = some (.slice none 0 0) := by rw [cell_of_row _ bk 8 cs 44 (0, 0) HBE.out]; exact HNO.out 8 (by decide) (by decide) (by decide)
  have q10 : wE.cell? ⟨bk, 10, none⟩ = some (.slice none 0 0) := by rw [cell_of_row _ bk 10 cs 44 (0, 0) HBE.out]; exact HNO.out 10 (by decide) (by decide) (by decide)
  have q12 : wE.cell? ⟨bk, 12, none⟩ = some (.slice none 0 0) := by rw [cell_of_row _ bk 12 cs 44 (0, 0) HBE.out]; exact HNO.out 12 (by decide) (by decide) (by decide)
  have q14 : wE.cell? ⟨bk, 14, none⟩ = some (.slice none 0 0) := by rw [cell_of_row _ bk 14 cs 44 (0, 0) HBE.out]; exact HNO.out 14 (by decide) (by decide) (by decide)
  have q16 : wE.cell? ⟨bk, 16, none⟩ = some (.slice none 0 0) := by rw [cell_of_row _ bk 16 cs 44 (0, 0) HBE.out]; exact HNO.out 16 (by decide) (by decide) (by decide)
  have q18 : wE.cell? ⟨bk, 18, none⟩ = some (.slice none 0 0) := by rw [cell_of_row _ bk 18 cs 44 (0, 0) HBE.out]; exact HNO.out 18 (by decide) (by decide) (by decide)
  go_wp2_with fail
  refine (markedInts_none _).mono ?_
  rintro e wz ⟨rfl, hwz⟩
  replace hwz := hwz.symm
  subst hwz
  go_wp2_with fail
  refine (markedInts_none _).mono ?_
  rintro e wz ⟨rfl, hwz⟩
  replace hwz := hwz.symm
  subst hwz
  go_wp2_with fail
  refine (markedRunes_none _).mono ?_
  rintro e wz ⟨rfl, hwz⟩
  replace hwz := hwz.symm
  subst hwz
  go_wp2_with fail
  refine (markedRunes_none _).mono ?_
  rintro e wz ⟨rfl, hwz⟩
  replace hwz := hwz.symm
  subst hwz
  go_wp2_with fail
  refine (markedLabels_none _).mono ?_
  rintro e wz ⟨rfl, hwz⟩
  replace hwz := hwz.symm
  subst hwz
  go_wp2_with fail
  refine (markedLabels_none _).mono ?_
  rintro e wz ⟨rfl, hwz⟩
  replace hwz := hwz.symm
  subst hwz
  go_wp2_with fail
  refine (markedPoints_none _).mono ?_
  rintro e wz ⟨rfl, hwz⟩
  replace hwz := hwz.symm
  subst hwz
  go_wp2_with fail
  refine (markedPoints_none _).mono ?_
  rintro e wz ⟨rfl, hwz⟩
  replace hwz := hwz.symm
  subst hwz
  go_wp2_with fail
  refine (markedTokens_none _).mono ?_
  rintro e wz ⟨rfl, hwz⟩
  replace hwz := hwz.symm
  subst hwz
  go_wp2_with fail
  refine (markedTokens_none _).mono ?_
  rintro e wz ⟨rfl, hwz⟩
  replace hwz := hwz.symm
  subst hwz
  go_wp2_with fail
  refine (markedCursors_none _).mono ?_
  rintro e wz ⟨rfl, hwz⟩
  replace hwz := hwz.symm
  subst hwz
  go_wp2_with fail
  refine (markedCursors_none _).mono ?_
  rintro e wz ⟨rfl, hwz⟩
  replace hwz := hwz.symm
  subst hwz
  go_wp2_with fail
  refine (markedNotes_none _).mono ?_
  rintro e wz ⟨rfl, hwz⟩
  replace hwz := hwz.symm
  subst hwz
  go_wp2_with fail
  refine (markedNotes_none _).mono ?_
  rintro e wz ⟨rfl, hwz⟩
  replace hwz := hwz.symm
  subst hwz
  go_wp2_with fail
  refine (markedRows_none _).mono ?_
  rintro e wz ⟨rfl, hwz⟩
  replace hwz := hwz.symm
  subst hwz
  go_wp2_with fail
  refine (markedRows_none _).mono ?_
  rintro e wz ⟨rfl, hwz⟩
  replace hwz := hwz.symm
  subst hwz
  go_wp2_with fail
  refine (markedSeries_none _).mono ?_
  rintro e wz ⟨rfl, hwz⟩
  replace hwz := hwz.symm
  subst hwz
  go_wp2_with fail
  refine (markedSeries_none _).mono ?_
  rintro e wz ⟨rfl, hwz⟩
  replace hwz := hwz.symm
  subst hwz
  go_wp2
  go_ret
  refine ⟨rfl, L.map (·.1), ?_, HTE.out⟩
  intro v hv
  obtain ⟨p, hp, rfl⟩ := List.mem_map.1 hv
  obtain ⟨i, hi⟩ := List.mem_iff_getElem?.1 hp
  have h1 := (HK.out.each i p.1 p.2 hi).1
  cases hx : p.1.ownBlock with
  | none => exact .inl rfl
  | some b => exact .inr ⟨b, rfl, (h1.lt b hx).1⟩
end Go.Proofs.Ytbcdgccmokgmhaa.BkX
