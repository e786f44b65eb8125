/- Patterns: parts that stand one behind the other. -/
import Derived.Test.YtfpdhmecomgbdaaPf
namespace Go.Proofs.Ytfpdhmecomgbdaa
open Go.RowKit

/-- What the walk over a chain holds. -/
structure ChainAt (w0 : World) (bd : Nat) (t : Option (List Pt × List Sg)) (wr : World) (l : List Sg) (acc : List Pt) (v : Value) : Prop where
  rd : Rd wr bd l
  grown : w0.grownBy wr (some bd)
  kids : Kids w0 wr v acc
  same : chainP l acc = t
  few : acc.length + l.length ≤ 1000000
  far : bd < w0.heap.size
def ChainLoop (w0 : World) (bd : Nat) (t : Option (List Pt × List Sg)) (k : Nat) (v : Value) (wr : World) : Prop := ∃ l acc, l.length = k ∧ ChainAt w0 bd t wr l acc v
def AtomC (l : List Sg) : Prop := ∀ (w : World) (bd : Nat), l ≠ [] → Rd w bd l → Calls Try.prog 35 #[.pointer (some ⟨bd, 0, none⟩)] w (Res w bd (atomP l))
theorem chain_res {w0 wr : World} {bd : Nat} {t : Option (List Pt × List Sg)} {l : List Sg} {acc : List Pt} {v : Value} (h : ChainAt w0 bd t wr l acc v) (hs : stopB l = true) :
    Res w0 bd (t.map fun p => (.chain p.1, p.2)) (.returned (.tuple #[.iface 65 v, .bool true])) wr := by
  have ht : t = some (acc, l) := by rw [← h.same, chainP_eq, if_pos hs]
  subst ht
  obtain ⟨o', c', hv⟩ := h.kids.length
  subst hv
  obtain ⟨ws, k1, k2, k3, k4⟩ := h.kids.sees
  have hf := h.few
  exact ⟨_, rfl, .chain o' _ c' ws _ k1 k2 (by omega) k3 k4, h.rd, h.grown⟩

set_option maxHeartbeats 4000000 in
set_option maxRecDepth 100000 in
theorem chain_of (n : Nat) (hC : ∀ m : List Sg, m.length ≤ n → AtomC m) (l : List Sg) (hl : l.length ≤ n) : ChainC l := by
  intro w bd h
  obtain ⟨ie, hi, hz0, hz1, hz2⟩ := info_parts info38
  have hlt := h.lt
  obtain ⟨t, ht⟩ : ∃ t, chainP l [] = t := ⟨_, rfl⟩
  have HST : ChainLoop w bd t l.length (.slice none 0 0) w := ⟨l, [], rfl, h, grown_refl _ _, Kids.start _ _, ht, by
    obtain ⟨_, _, _, hm, _⟩ := h.cell; simpa using hm, hlt⟩
  have HC := Lib.hid hC
  have HT := Lib.hid ht
  clear h hC
  rw [ht]
  clear ht
  go_enter Try.func30, Try.ntmps30
  go_wp2_with fail
  go_loopg [4] l.length (fun k v wr => k ≤ n ∧ ChainLoop w bd t k v wr)
  case atStart => exact ⟨hl, HST⟩
  case round =>
    clear HST hl
    obtain ⟨hgn, l2, acc, rfl, H⟩ := hrel
    have HH := Lib.hid H
    obtain ⟨o, cap, hcell, hm, _, _⟩ := H.rd.cell
    clear H
    cases hl2 : l2 with
    | nil =>
      subst hl2
      replace hcell : wr.cell? ⟨bd, 0, none⟩ = some (.slice o 0 cap) := hcell
      go_wp2
      go_ret2
      exact chain_res HH.out rfl
    | cons s m =>
      subst hl2
      obtain ⟨k, hk⟩ : ∃ k, (s :: m).length = k := ⟨_, rfl⟩
      rw [hk] at hcell hm hgn
      have i0 : (0 : Int) < k := by rw [← hk]; simp
      have HK := Lib.hid hk
      clear hk
      cases h1 : atB (s :: m) 124 with
      | true =>
        have HS := Lib.hid (show stopB (s :: m) = true by unfold stopB; rw [h1]; simp)
        have H1 := Lib.hid h1
        clear h1
        go_wp2_with fail
        refine (at_is bd _ 124 true H1.out _ HH.out.rd).mono ?_
        rintro e w2 ⟨rfl, rfl⟩
        go_wp2
        go_ret2
        exact chain_res HH.out HS.out
      | false =>
        cases h2 : atB (s :: m) 41 with
        | true =>
          have HS := Lib.hid (show stopB (s :: m) = true by unfold stopB; rw [h2]; simp)
          have H1 := Lib.hid h1
          have H2 := Lib.hid h2
          clear h1 h2
          go_wp2_with fail
          refine (at_is bd _ 124 false H1.out _ HH.out.rd).mono ?_
          rintro e w2 ⟨rfl, rfl⟩
          go_wp2_with fail
          refine (at_is bd _ 41 true H2.out _ HH.out.rd).mono ?_
          rintro e w2 ⟨rfl, rfl⟩
          go_wp2
          go_ret2
          exact chain_res HH.out HS.out
        | false =>
          have HS := Lib.hid (show stopB (s :: m) = false by unfold stopB; rw [h1, h2]; rfl)
          have H1 := Lib.hid h1
          have H2 := Lib.hid h2
          have HCC := Lib.hid (HC.out (s :: m) (by rw [HK.out]; exact hgn) wr bd (by simp) HH.out.rd)
          have HEQ := Lib.hid (chainP_eq (s :: m) acc)
          clear h1 h2
          cases hch : atomP (s :: m) with
          | none =>
            have HT0 := Lib.hid (show t = none by rw [← HH.out.same, HEQ.out, HS.out, hch]; rfl)
            rw [hch] at HCC
            clear hch
            go_wp2_with fail
            refine (at_is bd _ 124 false H1.out _ HH.out.rd).mono ?_
            rintro e w2 ⟨rfl, rfl⟩
            go_wp2_with fail
            refine (at_is bd _ 41 false H2.out _ HH.out.rd).mono ?_
            rintro e w2 ⟨rfl, rfl⟩
            go_wp2_with fail
            refine HCC.out.mono ?_
            rintro e w1 ⟨u, rfl, hg⟩
            have HG := Lib.hid hg
            clear hg
            go_wp2
            go_ret2
            rw [HT0.out]
            exact ⟨_, rfl, grown_trans HH.out.grown HG.out⟩
          | some p =>
            obtain ⟨x, r⟩ := p
            have hml := Lib.hid (atomP_lt hch)
            have HT0 := Lib.hid (show chainP (timesR r) (acc ++ [timesF x r]) = t by rw [← HH.out.same, HEQ.out, HS.out, hch]; rfl)
            rw [hch] at HCC
            clear hch
            go_wp2_with fail
            refine (at_is bd _ 124 false H1.out _ HH.out.rd).mono ?_
            rintro e w2 ⟨rfl, rfl⟩
            go_wp2_with fail
            refine (at_is bd _ 41 false H2.out _ HH.out.rd).mono ?_
            rintro e w2 ⟨rfl, rfl⟩
            go_wp2_with fail
            refine HCC.out.mono ?_
            rintro e w1 ⟨u, rfl, ht1, hr1, hg1⟩
            have hbdr := HH.out.rd.lt
            have HTM := Lib.hid (times_any bd r u x _ w1 hr1 ht1 (fun b hb => by omega))
            have HG1 := Lib.hid hg1
            clear ht1 hr1 hg1 hcell
            go_wp2_with fail
            refine HTM.out.mono ?_
            rintro e w2 ⟨⟨u2, rfl, ht2⟩, hr2, hg2⟩
            obtain ⟨tu, uu, rfl⟩ := ht2.iface
            have hgg := grown_trans HG1.out hg2
            have hk1 := HH.out.kids.grown hgg HH.out.far
            have hT1 := ht2.keep (w' := w2) (Q := fun b => w.heap.size ≤ b ∧ some b ≠ u4.ownBlock) (fun b hb _ => ⟨rfl, by have := HH.out.grown.size; omega, fun e => by have := (HH.out.kids.block b e.symm).2; omega⟩)
            have HR1 := Lib.hid hr2
            have HG2 := Lib.hid (grown_trans HH.out.grown hgg)
            have hsz : w.heap.size ≤ w2.heap.size := HG2.out.size
            have hfw := HH.out.few
            obtain ⟨vs, hown, hkid⟩ := hk1
            have HKID := Lib.hid (And.intro (hown.alloc (Obj.cells #[.iface tu uu] 38)) (fun j u x hu hx => (hkid j u x hu hx).keep (w' := w2.alloc (Obj.cells #[.iface tu uu] 38)) (fun b hb hl => ⟨Below.heap_alloc _ _ _ hl, hb⟩)))
            have HT1 := Lib.hid (hT1.keep (w' := w2.alloc (Obj.cells #[.iface tu uu] 38)) (fun b hb hl => ⟨Below.heap_alloc _ _ _ hl, hb⟩))
            rw [HK.out] at hfw
            clear hown hkid hT1 ht2 hg2 hr2 hgg HG1 HTM
            go_wp2_with (at_builtin; go_must (refine wpList_append_keeps _ rfl _ _ 65 rfl w.heap.size 38 ie .nilIface 1 16 Try.underlying65 hi hz0 hz1 hz2 rfl (by decide) _ _ _ rfl HKID.out.1 ⟨w2.heap.size, 0, none⟩ 1 1 [.iface tu uu] rfl rfl (cell_1k _ _ _ _ rfl) (one_iface _ _) (by unfold maxLen; omega) (by omega) (by simp; omega) ?_); intro v' w5 hown' hgrow' hblk' _; replace hgrow' : World.grownBy _ w5 u4.ownBlock := hgrow'; replace hblk' : v'.ownBlock = u4.ownBlock ∨ _ := hblk'; have H5 := Lib.hid (Kids.push HKID.out HT1.out hown' hgrow' hblk'); have HG5 := Lib.hid (grown_own (grown_alloc HG2.out (Obj.cells #[.iface tu uu] 38)) hgrow' (fun k hk => (HH.out.kids.block k hk).1)); have HR5 := Lib.hid ((HR1.out.alloc (Obj.cells #[.iface tu uu] 38)).grownOwn hgrow' (fun k hk => Nat.lt_of_lt_of_le HH.out.far (HH.out.kids.block k hk).1)); clear hown' hgrow' hblk')
            have htr := timesR_le r
            have hml2 := hml.out
            rw [HK.out] at hml2
            go_roundg (timesR r).length
            case measure => rw [HK.out]; omega
            case rel => exact ⟨by omega, timesR r, acc ++ [timesF x r], rfl, HR5.out, HG5.out, H5.out, HT0.out, by simp; omega, HH.out.far⟩
end Go.Proofs.Ytfpdhmecomgbdaa
