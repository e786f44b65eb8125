/- The book of lists, with rows and with numbers in it: are they apart? -/
import Derived.Test.YtlnlbahggbbaeaaGreatKr
import Derived.Test.YtlnlbahggbbaeaaGreatKi
namespace Go.Proofs.YtlnlbahggbbaeaaGreat.BkM
open Go.RowKit

theorem own_other {w w' : World} {V : List Value} {N s n : Nat} {e : TypeId} {v : Value} {xs : List Value} (h : w.ownsRow N e s v n xs) (hb : ∀ k, k < w.heap.size → (∀ u ∈ V, u.ownBlock ≠ some k) → w'.heap[k]? = w.heap[k]?) (hV : ∀ u ∈ V, ∃ N2 s2 n2 xs2 e2, w.ownsRow N2 e2 s2 u n2 xs2 ∧ e2 ≠ e) : w'.ownsRow N e s v n xs := by
  refine ⟨h.1, ?_⟩
  rcases h.2 with h2 | ⟨g, cap, cur, h2, h3, h4, h5⟩
  · exact .inl h2
  · refine .inr ⟨g, cap, cur, h2, h3, ?_, h5⟩
    rw [hb g (Array.getElem?_eq_some_iff.1 h4).1 (fun u hu e2 => ?_)]
    · exact h4
    · obtain ⟨N2, s2, n2, xs2, e2', h6, h7⟩ := hV u hu
      rcases h6.2 with ⟨rfl, _⟩ | ⟨g2, cap2, cur2, rfl, _, h8, _⟩
      · cases e2
      · have : g2 = g := by simpa [Value.ownBlock] using e2
        subst this
        rw [h4] at h8
        cases h8
        exact h7 rfl
theorem ownI {B : Nat} {w : World} {R : Value} {L : List (Value × List BkI.El)} (h : BkI.Kept B w R L) {e : TypeId} (he : 3 ≠ e) : ∀ u ∈ L.map (·.1), ∃ N2 s2 n2 xs2 e2, w.ownsRow N2 e2 s2 u n2 xs2 ∧ e2 ≠ e := fun u hu => by
  obtain ⟨p, hp, rfl⟩ := List.mem_map.1 hu
  obtain ⟨i, hi⟩ := List.mem_iff_getElem?.1 hp
  exact ⟨_, _, _, _, _, (h.each i p.1 p.2 hi).1, he⟩
theorem ownR {B : Nat} {w : World} {R : Value} {L : List (Value × List BkR.El)} (h : BkR.Kept B w R L) {e : TypeId} (he : 51 ≠ e) : ∀ u ∈ L.map (·.1), ∃ N2 s2 n2 xs2 e2, w.ownsRow N2 e2 s2 u n2 xs2 ∧ e2 ≠ e := fun u hu => by
  obtain ⟨p, hp, rfl⟩ := List.mem_map.1 hu
  obtain ⟨i, hi⟩ := List.mem_iff_getElem?.1 hp
  exact ⟨_, _, _, _, _, (h.each i p.1 p.2 hi).1, he⟩
/-- What is kept of one kind, where lists of the other one are written. -/
theorem keepR {B B2 : Nat} {w w' : World} {R R2 : Value} {L : List (Value × List BkR.El)} {L2 : List (Value × List BkI.El)} (h : BkR.Kept B w R L) (h2 : BkI.Kept B2 w R2 L2) (ht : BkI.Touch (L2.map (·.1)) w w') : BkR.Kept B w' R L :=
  ⟨own_other h.row ht.block (ownI h2 (by decide)), fun i v xs hi => ⟨own_other (h.each i v xs hi).1 ht.block (ownI h2 (by decide)), (h.each i v xs hi).2⟩, h.apart, h.few⟩
theorem keepI {B B2 : Nat} {w w' : World} {R R2 : Value} {L : List (Value × List BkI.El)} {L2 : List (Value × List BkR.El)} (h : BkI.Kept B w R L) (h2 : BkR.Kept B2 w R2 L2) (ht : BkR.Touch (L2.map (·.1)) w w') : BkI.Kept B w' R L :=
  ⟨own_other h.row ht.block (ownR h2 (by decide)), fun i v xs hi => ⟨own_other (h.each i v xs hi).1 ht.block (ownR h2 (by decide)), (h.each i v xs hi).2⟩, h.apart, h.few⟩
theorem keepV {C B B2 : Nat} {w w' : World} {R R2 : Value} {L : List (Value × List BkI.El)} {L2 : List (Value × List BkR.El)} (h : BkI.Views C B w R L) (h2 : BkR.Kept B2 w R2 L2) (ht : BkR.Touch (L2.map (·.1)) w w') : BkI.Views C B w' R L :=
  ⟨own_other h.row ht.block (ownR h2 (by decide)), fun i v xs hi => ⟨own_other (h.each i v xs hi).1 ht.block (ownR h2 (by decide)), (h.each i v xs hi).2⟩, h.few⟩
theorem touchI {V V2 : List Value} {w w' : World} (h : BkI.Touch V w w') (hV : ∀ v ∈ V, v ∈ V2) : BkR.Touch V2 w w' := ⟨h.os, h.tape, h.output, h.size, fun k hk hv => h.block k hk (fun v hm => hv v (hV v hm))⟩
theorem touchR {V V2 : List Value} {w w' : World} (h : BkR.Touch V w w') (hV : ∀ v ∈ V, v ∈ V2) : BkR.Touch V2 w w' := ⟨h.os, h.tape, h.output, h.size, fun k hk hv => h.block k hk (fun v hm => hv v (hV v hm))⟩

set_option maxHeartbeats 16000000 in
set_option maxRecDepth 100000 in
theorem apart_any (B bk : Nat) (cs : Array Value) (R R' RI RI' : Value) (L L' : List (Value × List BkR.El)) (LI LI' : List (Value × List BkI.El)) (hlen : L'.length = L.length) (w : World) (hM : ∀ (i : Nat) (v : Value) (xs : List BkR.El) (v' : Value) (xs' : List BkR.El), L[i]? = some (v, xs) → L'[i]? = some (v', xs') → ∃ BM ms, BkR.Means BM w xs ms ∧ BkR.Means BM w xs' ms) (hLI : LI.map (·.2) = LI'.map (·.2)) (hBw : B ≤ w.heap.size)
    (h : BkR.Kept B w R L) (h' : BkR.Kept B w R' L') (g : BkI.Kept B w RI LI) (g' : BkI.Kept B w RI' LI') (hbk : w.heap[bk]? = some (.cells cs 38 (0, 0)))
    (h4 : cs[16]? = some R) (h5 : cs[17]? = some R') (g4 : cs[2]? = some RI) (g5 : cs[3]? = some RI') (hno : ∀ i, i < 20 → i ≠ 2 → i ≠ 3 → i ≠ 16 → i ≠ 17 → cs[i]? = some (.slice none 0 0)) :
    Calls Tryz.prog 18 #[.pointer (some ⟨bk, 0, none⟩)] w fun e w' => e = .returned (.bool true) ∧ ∃ V, (∀ v ∈ V, v.ownBlock = none ∨ ∃ b, v.ownBlock = some b ∧ B ≤ b) ∧ BkR.Touch V w w' := by
  have HL := Lib.hid (And.intro hlen hM)
  have HLI := Lib.hid hLI
  have HK := Lib.hid h
  have HK' := Lib.hid h'
  have GK := Lib.hid g
  have GK' := Lib.hid g'
  have HB := Lib.hid hbk
  have H4 := Lib.hid h4
  have H5 := Lib.hid h5
  have G4 := Lib.hid g4
  have G5 := Lib.hid g5
  have HNO := Lib.hid hno
  obtain ⟨VV, hVV⟩ : ∃ VV, L.map (·.1) ++ LI.map (·.1) = VV := ⟨_, rfl⟩
  have HVR := Lib.hid (show ∀ v ∈ L.map (·.1), v ∈ VV from fun v hv => by rw [← hVV]; exact List.mem_append_left _ hv)
  have HVI := Lib.hid (show ∀ v ∈ LI.map (·.1), v ∈ VV from fun v hv => by rw [← hVV]; exact List.mem_append_right _ hv)
  have HVV := Lib.hid hVV
  clear hlen hM hLI h h' g g' hbk h4 h5 g4 g5 hno hVV
  go_enter Tryz.func18, Tryz.ntmps18
  go_wp2_with fail
  refine (BkR.stillTexts_none bk cs _ HB.out (HNO.out 0 (by decide) (by decide) (by decide) (by decide) (by decide))).mono ?_
  rintro e wz ⟨rfl, hwz⟩
  replace hwz := hwz.symm
  subst hwz
  go_wp2_with fail
  refine (BkI.stillRunes_any B bk RI RI' LI LI' HLI.out _ GK.out GK'.out (by rw [cell_of_row _ bk 2 cs 38 (0, 0) HB.out]; exact G4.out) (by rw [cell_of_row _ bk 3 cs 38 (0, 0) HB.out]; exact G5.out)).mono ?_
  rintro e wA ⟨rfl, mA, hwA⟩
  have HBA := Lib.hid (show wA.heap[bk]? = some (.cells cs 38 (0, 0)) by rw [hwA]; exact HB.out)
  have HKA := Lib.hid (show BkR.Kept B wA R L by rw [hwA]; exact HK.out.drewN mA)
  have HKA' := Lib.hid (show BkR.Kept B wA R' L' by rw [hwA]; exact HK'.out.drewN mA)
  have GKA := Lib.hid (show BkI.Kept B wA RI LI by rw [hwA]; exact GK.out.drewN mA)
  have HLA := Lib.hid (show ∀ (i : Nat) (v : Value) (xs : List BkR.El) (v' : Value) (xs' : List BkR.El), L[i]? = some (v, xs) → L'[i]? = some (v', xs') → ∃ BM ms, BkR.Means BM wA xs ms ∧ BkR.Means BM wA xs' ms from fun i v xs v' xs' h1 h2 => by
    obtain ⟨BM, ms, a1, a2⟩ := HL.out.2 i v xs v' xs' h1 h2
    exact ⟨BM, ms, a1.below (quietB ⟨mA, hwA⟩), a2.below (quietB ⟨mA, hwA⟩)⟩)
  have HTA := Lib.hid (show BkR.Touch VV w wA by rw [hwA]; exact ⟨rfl, rfl, rfl, Nat.le_refl _, fun _ _ _ => rfl⟩)
  clear hwA
  go_wp2_with fail
  refine (BkR.stillRunes_none bk cs _ HBA.out (HNO.out 4 (by decide) (by decide) (by decide) (by decide) (by decide))).mono ?_
  rintro e wz ⟨rfl, hwz⟩
  replace hwz := hwz.symm
  subst hwz
  go_wp2_with fail
  refine (BkR.stillLabels_none bk cs _ HBA.out (HNO.out 6 (by decide) (by decide) (by decide) (by decide) (by decide))).mono ?_
  rintro e wz ⟨rfl, hwz⟩
  replace hwz := hwz.symm
  subst hwz
  go_wp2_with fail
  refine (BkR.stillPoints_none bk cs _ HBA.out (HNO.out 8 (by decide) (by decide) (by decide) (by decide) (by decide))).mono ?_
  rintro e wz ⟨rfl, hwz⟩
  replace hwz := hwz.symm
  subst hwz
  go_wp2_with fail
  refine (BkR.stillTokens_none bk cs _ HBA.out (HNO.out 10 (by decide) (by decide) (by decide) (by decide) (by decide))).mono ?_
  rintro e wz ⟨rfl, hwz⟩
  replace hwz := hwz.symm
  subst hwz
  go_wp2_with fail
  refine (BkR.stillCursors_none bk cs _ HBA.out (HNO.out 12 (by decide) (by decide) (by decide) (by decide) (by decide))).mono ?_
  rintro e wz ⟨rfl, hwz⟩
  replace hwz := hwz.symm
  subst hwz
  go_wp2_with fail
  refine (BkR.stillNotes_none bk cs _ HBA.out (HNO.out 14 (by decide) (by decide) (by decide) (by decide) (by decide))).mono ?_
  rintro e wz ⟨rfl, hwz⟩
  replace hwz := hwz.symm
  subst hwz
  go_wp2_with fail
  refine (BkR.stillRunes_any B bk R R' L L' HL.out.1 _ HLA.out HKA.out HKA'.out (by rw [cell_of_row _ bk 16 cs 38 (0, 0) HBA.out]; exact H4.out) (by rw [cell_of_row _ bk 17 cs 38 (0, 0) HBA.out]; exact H5.out)).mono ?_
  rintro e wA2 ⟨rfl, mA2, hwA⟩
  have HBA2 := Lib.hid (show wA2.heap[bk]? = some (.cells cs 38 (0, 0)) by rw [hwA]; exact HBA.out)
  have HKA2 := Lib.hid (show BkR.Kept B wA2 R L by rw [hwA]; exact HKA.out.drewN mA2)
  have GKA2 := Lib.hid (show BkI.Kept B wA2 RI LI by rw [hwA]; exact GKA.out.drewN mA2)
  have HTA2 := Lib.hid (HTA.out.trans (show BkR.Touch VV wA wA2 by rw [hwA]; exact ⟨rfl, rfl, rfl, Nat.le_refl _, fun _ _ _ => rfl⟩))
  clear hwA HLA HKA' HTA HBA HKA GKA
  go_wp2_with fail
  refine (BkR.stillSeries_none bk cs _ HBA2.out (HNO.out 18 (by decide) (by decide) (by decide) (by decide) (by decide))).mono ?_
  rintro e wz ⟨rfl, hwz⟩
  replace hwz := hwz.symm
  subst hwz
  go_wp2_with fail
  refine (BkR.putRunes_any B bk cs R L _ HKA2.out HBA2.out H4.out).mono ?_
  rintro e wB ⟨rfl, ⟨L2, hK2, hl2, hm2⟩, hT2⟩
  have HBB := Lib.hid (HKA2.out.touched HBA2.out hT2)
  have HTB := Lib.hid (HTA2.out.trans (touchR hT2 HVR.out))
  have HKB := Lib.hid hK2
  have GKB := Lib.hid (keepI GKA2.out HKA2.out hT2)
  have HMB := Lib.hid (show ∀ (i : Nat) (v : Value) (xs : List BkR.El), L2[i]? = some (v, xs) → xs = BkR.marksR i 0 xs.length by
    intro i v xs hi
    have hil : i < L.length := by rw [← hl2]; exact (List.getElem?_eq_some_iff.1 hi).1
    have h1 := hm2 i L[i].1 L[i].2 (by simp [hil])
    rw [hi] at h1
    have h2 := congrArg Prod.snd (Option.some.inj h1)
    simp only at h2
    rw [h2, BkR.marksR_length])
  have HVB := Lib.hid (show L2.map (·.1) = L.map (·.1) by
    apply List.ext_getElem?
    intro i
    rw [List.getElem?_map, List.getElem?_map]
    by_cases hil : i < L.length
    · rw [hm2 i L[i].1 L[i].2 (by simp [hil]), List.getElem?_eq_getElem hil]; rfl
    · rw [List.getElem?_eq_none (by omega), List.getElem?_eq_none (by omega)])
  clear hT2 hK2 hl2 hm2
  clear HBA2 HTA2 HKA2 GKA2
  go_wp2_with fail
  refine (BkR.putSeries_none bk cs _ HBB.out (HNO.out 18 (by decide) (by decide) (by decide) (by decide) (by decide))).mono ?_
  rintro e wz ⟨rfl, hwz⟩
  replace hwz := hwz.symm
  subst hwz
  go_wp2_with fail
  refine (BkR.putTexts_none bk cs _ HBB.out (HNO.out 0 (by decide) (by decide) (by decide) (by decide) (by decide))).mono ?_
  rintro e wz ⟨rfl, hwz⟩
  replace hwz := hwz.symm
  subst hwz
  go_wp2_with fail
  refine (BkI.putRunes_any B bk cs RI LI _ GKB.out HBB.out G4.out).mono ?_
  rintro e wB2 ⟨rfl, ⟨LI2, hK2, hl2, hm2⟩, hT2⟩
  have HBB2 := Lib.hid (GKB.out.touched HBB.out hT2)
  have HTB2 := Lib.hid (HTB.out.trans (touchI hT2 HVI.out))
  have GKB2 := Lib.hid hK2
  have HKB2 := Lib.hid (keepR HKB.out GKB.out hT2)
  have GMB := Lib.hid (show ∀ (i : Nat) (v : Value) (xs : List BkI.El), LI2[i]? = some (v, xs) → xs = BkI.marksR i 0 xs.length by
    intro i v xs hi
    have hil : i < LI.length := by rw [← hl2]; exact (List.getElem?_eq_some_iff.1 hi).1
    have h1 := hm2 i LI[i].1 LI[i].2 (by simp [hil])
    rw [hi] at h1
    have h2 := congrArg Prod.snd (Option.some.inj h1)
    simp only at h2
    rw [h2, BkI.marksR_length])
  have GVB := Lib.hid (show LI2.map (·.1) = LI.map (·.1) by
    apply List.ext_getElem?
    intro i
    rw [List.getElem?_map, List.getElem?_map]
    by_cases hil : i < LI.length
    · rw [hm2 i LI[i].1 LI[i].2 (by simp [hil]), List.getElem?_eq_getElem hil]; rfl
    · rw [List.getElem?_eq_none (by omega), List.getElem?_eq_none (by omega)])
  clear hT2 hK2 hl2 hm2
  clear HBB HTB HKB GKB
  go_wp2_with fail
  refine (BkR.putRunes_none bk cs _ HBB2.out (HNO.out 4 (by decide) (by decide) (by decide) (by decide) (by decide))).mono ?_
  rintro e wz ⟨rfl, hwz⟩
  replace hwz := hwz.symm
  subst hwz
  go_wp2_with fail
  refine (BkR.putLabels_none bk cs _ HBB2.out (HNO.out 6 (by decide) (by decide) (by decide) (by decide) (by decide))).mono ?_
  rintro e wz ⟨rfl, hwz⟩
  replace hwz := hwz.symm
  subst hwz
  go_wp2_with fail
  refine (BkR.putPoints_none bk cs _ HBB2.out (HNO.out 8 (by decide) (by decide) (by decide) (by decide) (by decide))).mono ?_
  rintro e wz ⟨rfl, hwz⟩
  replace hwz := hwz.symm
  subst hwz
  go_wp2_with fail
  refine (BkR.putTokens_none bk cs _ HBB2.out (HNO.out 10 (by decide) (by decide) (by decide) (by decide) (by decide))).mono ?_
  rintro e wz ⟨rfl, hwz⟩
  replace hwz := hwz.symm
  subst hwz
  go_wp2_with fail
  refine (BkR.putCursors_none bk cs _ HBB2.out (HNO.out 12 (by decide) (by decide) (by decide) (by decide) (by decide))).mono ?_
  rintro e wz ⟨rfl, hwz⟩
  replace hwz := hwz.symm
  subst hwz
  go_wp2_with fail
  refine (BkR.putNotes_none bk cs _ HBB2.out (HNO.out 14 (by decide) (by decide) (by decide) (by decide) (by decide))).mono ?_
  rintro e wz ⟨rfl, hwz⟩
  replace hwz := hwz.symm
  subst hwz
  go_wp2_with fail
  refine (BkR.growTexts_none bk cs _ HBB2.out (HNO.out 0 (by decide) (by decide) (by decide) (by decide) (by decide))).mono ?_
  rintro e wz ⟨rfl, hwz⟩
  replace hwz := hwz.symm
  subst hwz
  go_wp2_with fail
  refine (BkI.growRunes_any B bk cs RI LI2 _ (Nat.le_trans hBw HTB2.out.size) GKB2.out HBB2.out G4.out GMB.out).mono ?_
  rintro e wC ⟨usI, voI, rfl, hul, hG⟩
  have HBC := Lib.hid hG.bk
  have HTC := Lib.hid (HTB2.out.trans (touchI hG.touch (fun v hv => HVI.out v (by rw [← GVB.out]; exact hv))))
  have GKC := Lib.hid hG.kept
  have HKC := Lib.hid (keepR HKB2.out GKB2.out hG.touch)
  obtain ⟨VI, hV, hVm⟩ := BkI.views_of (B := B) hG.out (by rw [hul]; exact hG.kept.few) (fun i u hu => by
    obtain ⟨v, xs, h1, h2, _⟩ := hG.each i u hu
    exact ⟨_, by have := (hG.kept.each i v xs h1).2; omega, h2⟩)
  have GV := Lib.hid hV
  have GVM := Lib.hid hVm
  clear hG hul hV hVm HBB2 HTB2 GKB2 HKB2
  go_wp2_with fail
  refine (BkR.growRunes_none bk cs _ HBC.out (HNO.out 4 (by decide) (by decide) (by decide) (by decide) (by decide))).mono ?_
  rintro e wz ⟨rfl, hwz⟩
  replace hwz := hwz.symm
  subst hwz
  go_wp2_with fail
  refine (BkR.growLabels_none bk cs _ HBC.out (HNO.out 6 (by decide) (by decide) (by decide) (by decide) (by decide))).mono ?_
  rintro e wz ⟨rfl, hwz⟩
  replace hwz := hwz.symm
  subst hwz
  go_wp2_with fail
  refine (BkR.growPoints_none bk cs _ HBC.out (HNO.out 8 (by decide) (by decide) (by decide) (by decide) (by decide))).mono ?_
  rintro e wz ⟨rfl, hwz⟩
  replace hwz := hwz.symm
  subst hwz
  go_wp2_with fail
  refine (BkR.growTokens_none bk cs _ HBC.out (HNO.out 10 (by decide) (by decide) (by decide) (by decide) (by decide))).mono ?_
  rintro e wz ⟨rfl, hwz⟩
  replace hwz := hwz.symm
  subst hwz
  go_wp2_with fail
  refine (BkR.growCursors_none bk cs _ HBC.out (HNO.out 12 (by decide) (by decide) (by decide) (by decide) (by decide))).mono ?_
  rintro e wz ⟨rfl, hwz⟩
  replace hwz := hwz.symm
  subst hwz
  go_wp2_with fail
  refine (BkR.growNotes_none bk cs _ HBC.out (HNO.out 14 (by decide) (by decide) (by decide) (by decide) (by decide))).mono ?_
  rintro e wz ⟨rfl, hwz⟩
  replace hwz := hwz.symm
  subst hwz
  go_wp2_with fail
  refine (BkR.growRunes_any B bk cs R L2 _ (Nat.le_trans hBw HTC.out.size) HKC.out HBC.out H4.out HMB.out).mono ?_
  rintro e wD ⟨us, vo, rfl, hul, hG⟩
  have HBD := Lib.hid hG.bk
  have HTD := Lib.hid (HTC.out.trans (touchR hG.touch (fun v hv => HVR.out v (by rw [← HVB.out]; exact hv))))
  have HKD := Lib.hid hG.kept
  have GKD := Lib.hid (keepI GKC.out HKC.out hG.touch)
  have GVD := Lib.hid (keepV GV.out HKC.out hG.touch)
  obtain ⟨V, hV, hVm⟩ := BkR.views_of (B := B) hG.out (by rw [hul]; exact hG.kept.few) (fun i u hu => by
    obtain ⟨v, xs, h1, h2, _⟩ := hG.each i u hu
    exact ⟨_, by have := (hG.kept.each i v xs h1).2; omega, h2⟩)
  have HV := Lib.hid hV
  have HVM := Lib.hid hVm
  clear hG hul hV hVm HBC HTC GKC HKC GV
  go_wp2_with fail
  refine (BkR.growSeries_none bk cs _ HBD.out (HNO.out 18 (by decide) (by decide) (by decide) (by decide) (by decide))).mono ?_
  rintro e wz ⟨rfl, hwz⟩
  replace hwz := hwz.symm
  subst hwz
  have q0 : wD.cell? ⟨bk, 0, none⟩ = some (.slice none 0 0) := by rw [cell_of_row _ bk 0 cs 38 (0, 0) HBD.out]; exact HNO.out 0 (by decide) (by decide) (by decide) (by decide) (by decide)
  go_wp2_with fail
  refine (BkR.markedTexts_none _).mono ?_
  rintro e wz ⟨rfl, hwz⟩
  replace hwz := hwz.symm
  subst hwz
  go_wp2_with fail
  refine (BkR.markedTexts_none _).mono ?_
  rintro e wz ⟨rfl, hwz⟩
  replace hwz := hwz.symm
  subst hwz
  clear q0
  go_wp2_with fail
  refine (BkI.markedRunes_any _ B voI VI _ GVD.out GVM.out).mono ?_
  have HVD := HV
  rintro e wE ⟨rfl, hb⟩
  have HBE := Lib.hid (show wE.heap[bk]? = some (.cells cs 38 (0, 0)) by rw [hb.block bk (Array.getElem?_eq_some_iff.1 HBD.out).1]; exact HBD.out)
  have HTE := Lib.hid (HTD.out.trans (BkR.Touch.of_below hb))
  have HKE := Lib.hid (HKD.out.below hb)
  have GKE := Lib.hid (GKD.out.below hb)
  have HVE := Lib.hid (HVD.out.below hb)
  clear hb
  have q2 : wE.cell? ⟨bk, 2, none⟩ = some (RI) := by rw [cell_of_row _ bk 2 cs 38 (0, 0) HBE.out]; exact G4.out
  go_wp2_with fail
  refine (BkI.markedRunes_any B B RI LI2 _ GKE.out.views GMB.out).mono ?_
  rintro e wF ⟨rfl, hb⟩
  have HBF := Lib.hid (show wF.heap[bk]? = some (.cells cs 38 (0, 0)) by rw [hb.block bk (Array.getElem?_eq_some_iff.1 HBE.out).1]; exact HBE.out)
  have HTF := Lib.hid (HTE.out.trans (BkR.Touch.of_below hb))
  have HKF := Lib.hid (HKE.out.below hb)
  have HVF := Lib.hid (HVE.out.below hb)
  clear hb
  clear q2
  have q4 : wF.cell? ⟨bk, 4, none⟩ = some (.slice none 0 0) := by rw [cell_of_row _ bk 4 cs 38 (0, 0) HBF.out]; exact HNO.out 4 (by decide) (by decide) (by decide) (by decide) (by decide)
  have q6 : wF.cell? ⟨bk, 6, none⟩ = some (.slice none 0 0) := by rw [cell_of_row _ bk 6 cs 38 (0, 0) HBF.out]; exact HNO.out 6 (by decide) (by decide) (by decide) (by decide) (by decide)
  have q8 : wF.cell? ⟨bk, 8, none⟩ = some (.slice none 0 0) := by rw [cell_of_row _ bk 8 cs 38 (0, 0) HBF.out]; exact HNO.out 8 (by decide) (by decide) (by decide) (by decide) (by decide)
  have q10 : wF.cell? ⟨bk, 10, none⟩ = some (.slice none 0 0) := by rw [cell_of_row _ bk 10 cs 38 (0, 0) HBF.out]; exact HNO.out 10 (by decide) (by decide) (by decide) (by decide) (by decide)
  have q12 : wF.cell? ⟨bk, 12, none⟩ = some (.slice none 0 0) := by rw [cell_of_row _ bk 12 cs 38 (0, 0) HBF.out]; exact HNO.out 12 (by decide) (by decide) (by decide) (by decide) (by decide)
  have q14 : wF.cell? ⟨bk, 14, none⟩ = some (.slice none 0 0) := by rw [cell_of_row _ bk 14 cs 38 (0, 0) HBF.out]; exact HNO.out 14 (by decide) (by decide) (by decide) (by decide) (by decide)
  go_wp2_with fail
  refine (BkR.markedRunes_none _).mono ?_
  rintro e wz ⟨rfl, hwz⟩
  replace hwz := hwz.symm
  subst hwz
  go_wp2_with fail
  refine (BkR.markedRunes_none _).mono ?_
  rintro e wz ⟨rfl, hwz⟩
  replace hwz := hwz.symm
  subst hwz
  go_wp2_with fail
  refine (BkR.markedLabels_none _).mono ?_
  rintro e wz ⟨rfl, hwz⟩
  replace hwz := hwz.symm
  subst hwz
  go_wp2_with fail
  refine (BkR.markedLabels_none _).mono ?_
  rintro e wz ⟨rfl, hwz⟩
  replace hwz := hwz.symm
  subst hwz
  go_wp2_with fail
  refine (BkR.markedPoints_none _).mono ?_
  rintro e wz ⟨rfl, hwz⟩
  replace hwz := hwz.symm
  subst hwz
  go_wp2_with fail
  refine (BkR.markedPoints_none _).mono ?_
  rintro e wz ⟨rfl, hwz⟩
  replace hwz := hwz.symm
  subst hwz
  go_wp2_with fail
  refine (BkR.markedTokens_none _).mono ?_
  rintro e wz ⟨rfl, hwz⟩
  replace hwz := hwz.symm
  subst hwz
  go_wp2_with fail
  refine (BkR.markedTokens_none _).mono ?_
  rintro e wz ⟨rfl, hwz⟩
  replace hwz := hwz.symm
  subst hwz
  go_wp2_with fail
  refine (BkR.markedCursors_none _).mono ?_
  rintro e wz ⟨rfl, hwz⟩
  replace hwz := hwz.symm
  subst hwz
  go_wp2_with fail
  refine (BkR.markedCursors_none _).mono ?_
  rintro e wz ⟨rfl, hwz⟩
  replace hwz := hwz.symm
  subst hwz
  go_wp2_with fail
  refine (BkR.markedNotes_none _).mono ?_
  rintro e wz ⟨rfl, hwz⟩
  replace hwz := hwz.symm
  subst hwz
  go_wp2_with fail
  refine (BkR.markedNotes_none _).mono ?_
  rintro e wz ⟨rfl, hwz⟩
  replace hwz := hwz.symm
  subst hwz
  clear q4 q6 q8 q10 q12 q14
  go_wp2_with fail
  refine (BkR.markedRunes_any _ B vo V _ HVF.out HVM.out).mono ?_
  rintro e wG ⟨rfl, hb⟩
  have HBG := Lib.hid (show wG.heap[bk]? = some (.cells cs 38 (0, 0)) by rw [hb.block bk (Array.getElem?_eq_some_iff.1 HBF.out).1]; exact HBF.out)
  have HTG := Lib.hid (HTF.out.trans (BkR.Touch.of_below hb))
  have HKG := Lib.hid (HKF.out.below hb)
  clear hb
  have q16 : wG.cell? ⟨bk, 16, none⟩ = some (R) := by rw [cell_of_row _ bk 16 cs 38 (0, 0) HBG.out]; exact H4.out
  go_wp2_with fail
  refine (BkR.markedRunes_any B B R L2 _ HKG.out.views HMB.out).mono ?_
  rintro e wH ⟨rfl, hb⟩
  have HBH := Lib.hid (show wH.heap[bk]? = some (.cells cs 38 (0, 0)) by rw [hb.block bk (Array.getElem?_eq_some_iff.1 HBG.out).1]; exact HBG.out)
  have HTH := Lib.hid (HTG.out.trans (BkR.Touch.of_below hb))
  clear hb
  clear q16
  have q18 : wH.cell? ⟨bk, 18, none⟩ = some (.slice none 0 0) := by rw [cell_of_row _ bk 18 cs 38 (0, 0) HBH.out]; exact HNO.out 18 (by decide) (by decide) (by decide) (by decide) (by decide)
  go_wp2_with fail
  refine (BkR.markedSeries_none _).mono ?_
  rintro e wz ⟨rfl, hwz⟩
  replace hwz := hwz.symm
  subst hwz
  go_wp2_with fail
  refine (BkR.markedSeries_none _).mono ?_
  rintro e wz ⟨rfl, hwz⟩
  replace hwz := hwz.symm
  subst hwz
  go_wp2
  go_ret
  refine ⟨rfl, VV, ?_, HTH.out⟩
  intro v hv
  rw [← HVV.out] at hv
  rcases List.mem_append.1 hv with hv | hv
  · obtain ⟨p, hp, rfl⟩ := List.mem_map.1 hv
    obtain ⟨i, hi⟩ := List.mem_iff_getElem?.1 hp
    have h1 := (HK.out.each i p.1 p.2 hi).1
    cases hx : p.1.ownBlock with
    | none => exact .inl rfl
    | some b => exact .inr ⟨b, rfl, (h1.lt b hx).1⟩
  · obtain ⟨p, hp, rfl⟩ := List.mem_map.1 hv
    obtain ⟨i, hi⟩ := List.mem_iff_getElem?.1 hp
    have h1 := (GK.out.each i p.1 p.2 hi).1
    cases hx : p.1.ownBlock with
    | none => exact .inl rfl
    | some b => exact .inr ⟨b, rfl, (h1.lt b hx).1⟩
end Go.Proofs.YtlnlbahggbbaeaaGreat.BkM
