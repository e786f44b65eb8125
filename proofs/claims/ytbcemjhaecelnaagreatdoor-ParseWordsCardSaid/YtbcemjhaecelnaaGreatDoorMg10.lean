import Derived.Test.YtbcemjhaecelnaaGreatDoorMg09
import Derived.Test.YtbcemjhaecelnaaGreatDoorMg08
import Derived.Lib.QuoteLoop
section
set_option maxHeartbeats 4000000
set_option maxRecDepth 100000
section
namespace Go.Proofs.YtbcemjhaecelnaaGreatDoor.Pat
open Go.RowKit
structure ChainAt (w0 : World) (bd : Nat) (t : Option (List Pt × List Sg)) (wr : World) (l : List Sg) (acc : List Pt) (v : Value) : Prop where
 rd : Rd wr bd l
 grown : w0.grownBy wr (some bd)
 kids : Kids w0 wr v acc
 same : zc8 l acc = t
 few : acc.length + l.length <= 1000000
 far : bd < w0.heap.size
def ChainLoop (w0 : World) (bd : Nat) (t : Option (List Pt × List Sg)) (k : Nat) (v : Value) (wr : World) : Prop := ∃ l acc, l.length = k /\ ChainAt w0 bd t wr l acc v
def ziN (l : List Sg) : Prop := ∀ (w : World) (bd : Nat), l ≠ [] -> Rd w bd l -> Calls Tryz.prog 190 #[.pointer (some ⟨bd, 0, none⟩)] w (Res w bd (zdW l))
theorem ze0 {w0 wr : World} {bd : Nat} {t : Option (List Pt × List Sg)} {l : List Sg} {acc : List Pt} {v : Value} (h : ChainAt w0 bd t wr l acc v) (hs : zeK l = true) :
 Res w0 bd (t.map fun p => (.chain p.1, p.2)) (.returned (.tuple #[.iface 239 v, .bool true])) wr := by
 have ht : t = some (acc, l) := by rw [<- h.same, zgc, if_pos hs]
 subst ht
 obtain ⟨o', c', hv⟩ := h.kids.length
 subst hv
 obtain ⟨ws, k1, k2, k3, k4⟩ := h.kids.sees
 have hf := h.few
 exact ⟨_, rfl, .chain o' _ c' ws _ k1 k2 (by omega) k3 k4, h.rd, h.grown⟩
theorem chain_of (n : Nat) (hC : ∀ m : List Sg, m.length <= n -> ziN m) (l : List Sg) (hl : l.length <= n) : ChainC l := by
 intro w bd h
 obtain ⟨ie, hi, hz0, hz1, hz2⟩ := info_parts zhC
 have hlt := h.lt
 obtain ⟨t, ht⟩ : ∃ t, zc8 l [] = t := ⟨_, rfl⟩
 have HST : ChainLoop w bd t l.length (.slice none 0 0) w := ⟨l, [], rfl, h, grown_refl _ _, Kids.start _ _, ht, by
  obtain ⟨_, _, _, hm, _⟩ := h.cell; simpa using hm, hlt⟩
 have HC := zh hC
 have HT := zh ht
 clear h hC
 rw [ht]
 clear ht
 go_enter Tryz.func185, Tryz.ntmps185
 go_wp2_with fail
 go_loopg [4] l.length (fun k v wr => k <= n /\ ChainLoop w bd t k v wr)
 case atStart => exact ⟨hl, HST⟩
 case round =>
  clear HST hl
  obtain ⟨hgn, l2, acc, rfl, H⟩ := hrel
  have HH := zh H
  obtain ⟨o, cap, hcell, hm, _, _⟩ := H.rd.cell
  clear H
  cases hl2 : l2 with
  | nil =>
    subst hl2
    replace hcell : wr.cell? ⟨bd, 0, none⟩ = some (.slice o 0 cap) := hcell
    go_wp2
    go_ret2
    exact ze0 HH.out rfl
  | cons s m =>
    subst hl2
    obtain ⟨k, hk⟩ : ∃ k, (s :: m).length = k := ⟨_, rfl⟩
    rw [hk] at hcell hm hgn
    have i0 : (0 : Int) < k := by rw [<- hk]; simp
    have HK := zh hk
    clear hk
    cases h1 : atB (s :: m) 124 with
    | true =>
      have HS := zh (show zeK (s :: m) = true by unfold zeK; rw [h1]; simp)
      have H1 := zh h1
      clear h1
      go_wp2_with fail
      refine (zdb bd _ 124 true H1.out _ HH.out.rd).mono ?_
      rintro e w2 ⟨rfl, rfl⟩
      go_wp2
      go_ret2
      exact ze0 HH.out HS.out
    | false =>
      cases h2 : atB (s :: m) 41 with
      | true =>
        have HS := zh (show zeK (s :: m) = true by unfold zeK; rw [h2]; simp)
        have H1 := zh h1
        have H2 := zh h2
        clear h1 h2
        go_wp2_with fail
        refine (zdb bd _ 124 false H1.out _ HH.out.rd).mono ?_
        rintro e w2 ⟨rfl, rfl⟩
        go_wp2_with fail
        refine (zdb bd _ 41 true H2.out _ HH.out.rd).mono ?_
        rintro e w2 ⟨rfl, rfl⟩
        go_wp2
        go_ret2
        exact ze0 HH.out HS.out
      | false =>
        have HS := zh (show zeK (s :: m) = false by unfold zeK; rw [h1, h2]; rfl)
        have H1 := zh h1
        have H2 := zh h2
        have HCC := zh (HC.out (s :: m) (by rw [HK.out]; exact hgn) wr bd (by simp) HH.out.rd)
        have HEQ := zh (zgc (s :: m) acc)
        clear h1 h2
        cases hch : zdW (s :: m) with
        | none =>
          have HT0 := zh (show t = none by rw [<- HH.out.same, HEQ.out, HS.out, hch]; rfl)
          rw [hch] at HCC
          clear hch
          go_wp2_with fail
          refine (zdb bd _ 124 false H1.out _ HH.out.rd).mono ?_
          rintro e w2 ⟨rfl, rfl⟩
          go_wp2_with fail
          refine (zdb bd _ 41 false H2.out _ HH.out.rd).mono ?_
          rintro e w2 ⟨rfl, rfl⟩
          go_wp2_with fail
          refine HCC.out.mono ?_
          rintro e w1 ⟨u, rfl, hg⟩
          have HG := zh hg
          clear hg
          go_wp2
          go_ret2
          rw [HT0.out]
          exact ⟨_, rfl, grown_trans HH.out.grown HG.out⟩
        | some p =>
          obtain ⟨x, r⟩ := p
          have hml := zh (atomP_lt hch)
          have HT0 := zh (show zc8 (zbs r) (acc ++ [timesF x r]) = t by rw [<- HH.out.same, HEQ.out, HS.out, hch]; rfl)
          rw [hch] at HCC
          clear hch
          go_wp2_with fail
          refine (zdb bd _ 124 false H1.out _ HH.out.rd).mono ?_
          rintro e w2 ⟨rfl, rfl⟩
          go_wp2_with fail
          refine (zdb bd _ 41 false H2.out _ HH.out.rd).mono ?_
          rintro e w2 ⟨rfl, rfl⟩
          go_wp2_with fail
          refine HCC.out.mono ?_
          rintro e w1 ⟨u, rfl, ht1, hr1, hg1⟩
          have hbdr := HH.out.rd.lt
          have HTM := zh (times_any bd r u x _ w1 hr1 ht1 (fun b hb => by omega))
          have HG1 := zh hg1
          clear ht1 hr1 hg1 hcell
          go_wp2_with fail
          refine HTM.out.mono ?_
          rintro e w2 ⟨⟨u2, rfl, ht2⟩, hr2, hg2⟩
          obtain ⟨tu, uu, rfl⟩ := ht2.iface
          have hgg := grown_trans HG1.out hg2
          have hk1 := HH.out.kids.grown hgg HH.out.far
          have hT1 := ht2.keep (w' := w2) (Q := fun b => w.heap.size <= b /\ some b ≠ u4.ownBlock) (fun b hb _ => ⟨rfl, by have := HH.out.grown.size; omega, fun e => by have := (HH.out.kids.block b e.symm).2; omega⟩)
          have HR1 := zh hr2
          have HG2 := zh (grown_trans HH.out.grown hgg)
          have hsz : w.heap.size <= w2.heap.size := HG2.out.size
          have hfw := HH.out.few
          obtain ⟨vs, hown, hkid⟩ := hk1
          have HKID := zh (And.intro (hown.alloc (Obj.cells #[.iface tu uu] 216)) (fun j u x hu hx => (hkid j u x hu hx).keep (w' := w2.alloc (Obj.cells #[.iface tu uu] 216)) (fun b hb hl => ⟨Below.heap_alloc _ _ _ hl, hb⟩)))
          have HT1 := zh (hT1.keep (w' := w2.alloc (Obj.cells #[.iface tu uu] 216)) (fun b hb hl => ⟨Below.heap_alloc _ _ _ hl, hb⟩))
          rw [HK.out] at hfw
          clear hown hkid hT1 ht2 hg2 hr2 hgg HG1 HTM
          go_wp2_with (at_builtin; go_must (refine zaL _ rfl _ _ 239 rfl w.heap.size 216 ie .nilIface 1 16 Tryz.underlying239 hi hz0 hz1 hz2 rfl (by decide) _ _ _ rfl HKID.out.1 ⟨w2.heap.size, 0, none⟩ 1 1 [.iface tu uu] rfl rfl (cell_1k _ _ _ _ rfl) (zez _ _) (by unfold maxLen; omega) (by omega) (by simp; omega) ?_); intro v' w5 hown' hgrow' hblk' _; replace hgrow' : World.grownBy _ w5 u4.ownBlock := hgrow'; replace hblk' : v'.ownBlock = u4.ownBlock \/ _ := hblk'; have H5 := zh (Kids.push HKID.out HT1.out hown' hgrow' hblk'); have HG5 := zh (grown_own (grown_alloc HG2.out (Obj.cells #[.iface tu uu] 216)) hgrow' (fun k hk => (HH.out.kids.block k hk).1)); have HR5 := zh ((HR1.out.alloc (Obj.cells #[.iface tu uu] 216)).grownOwn hgrow' (fun k hk => Nat.lt_of_lt_of_le HH.out.far (HH.out.kids.block k hk).1)); clear hown' hgrow' hblk')
          have htr := zcA r
          have hml2 := hml.out
          rw [HK.out] at hml2
          go_roundg (zbs r).length
          case measure => rw [HK.out]; omega
          case rel => exact ⟨by omega, zbs r, acc ++ [timesF x r], rfl, HR5.out, HG5.out, H5.out, HT0.out, by simp; omega, HH.out.far⟩
end Go.Proofs.YtbcemjhaecelnaaGreatDoor.Pat
end
section
namespace Go.Proofs.YtbcemjhaecelnaaGreatDoor.Pat
open Go.RowKit
theorem Res.map {w : World} {bd : Nat} {e : Ending} {w' : World} {r r2 : Option (Pt × List Sg)} (h : Res w bd r e w') (hr : r = r2) : Res w bd r2 e w' := hr ▸ h
theorem lit_esc (bd : Nat) (r : Int) (t : List Sg) (w : World) (h : Rd w bd ((r, false) :: t)) (h1 : atB ((r, false) :: t) 40 = false) (h2 : atB ((r, false) :: t) 91 = false) (h3 : atB ((r, false) :: t) 46 = false) :
 Calls Tryz.prog 190 #[.pointer (some ⟨bd, 0, none⟩)] w (Res w bd (some (.only r, t))) := by
 have HR := zh h
 have H1 := zh h1
 have H2 := zh h2
 have H3 := zh h3
 clear h h1 h2 h3
 go_enter Tryz.func190, Tryz.ntmps190
 go_wp2_with fail
 refine (take_no bd _ 40 w HR.out H1.out).mono ?_
 rintro e w2 ⟨rfl, rfl⟩
 go_wp2_with fail
 refine (take_no bd _ 91 w HR.out H2.out).mono ?_
 rintro e w2 ⟨rfl, rfl⟩
 go_wp2_with fail
 refine (take_no bd _ 46 w HR.out H3.out).mono ?_
 rintro e w2 ⟨rfl, rfl⟩
 go_wp2_with fail
 refine (next_any bd _ _ w HR.out).mono ?_
 rintro e w1 ⟨rfl, hr, hg⟩
 have HR1 := zh hr
 have HG1 := zh hg
 clear hr hg
 go_wp2_with fail
 go_quiet (fail)
 go_wp2
 go_ret2
 exact ⟨_, rfl, .only r, (HR1.out.alloc _).below (zaD _ _), grown_trans (grown_alloc HG1.out _) (grown_of_below (zaD _ _) _)⟩
theorem lit_bare (bd : Nat) (r : Int) (t : List Sg) (w : World) (h : Rd w bd ((r, true) :: t)) (h1 : atB ((r, true) :: t) 40 = false) (h2 : atB ((r, true) :: t) 91 = false) (h3 : atB ((r, true) :: t) 46 = false) (b : Bool) (hb : zdV r = b) (res : Option (Pt × List Sg)) (hres : (if b then none else some (.only r, t)) = res) :
 Calls Tryz.prog 190 #[.pointer (some ⟨bd, 0, none⟩)] w (Res w bd res) := by
 have HR := zh h
 have H1 := zh h1
 have H2 := zh h2
 have H3 := zh h3
 have HOK := zh (h.ok _ List.mem_cons_self)
 have HB := zh hb
 have HRES := zh hres
 clear h h1 h2 h3 hb hres
 go_enter Tryz.func190, Tryz.ntmps190
 go_wp2_with fail
 refine (take_no bd _ 40 w HR.out H1.out).mono ?_
 rintro e w2 ⟨rfl, rfl⟩
 go_wp2_with fail
 refine (take_no bd _ 91 w HR.out H2.out).mono ?_
 rintro e w2 ⟨rfl, rfl⟩
 go_wp2_with fail
 refine (take_no bd _ 46 w HR.out H3.out).mono ?_
 rintro e w2 ⟨rfl, rfl⟩
 go_wp2_with fail
 refine (next_any bd _ _ w HR.out).mono ?_
 rintro e w1 ⟨rfl, hr, hg⟩
 have HR1 := zh hr
 have HG1 := zh hg
 clear hr hg
 go_wp2_with fail
 obtain ⟨W, hW⟩ : ∃ W, w1.alloc (Obj.cells #[Value.int .i32 r, Value.bool true] 247) = W := ⟨_, rfl⟩
 have hbx : Box W w1.heap.size (.int .i32 r) (.bool true) 247 := by rw [<- hW]; exact Array.getElem?_push_size
 obtain ⟨r0, r1, _, _⟩ := hbx.reads
 have HC := zh (show Calls Tryz.prog 194 #[.string ⟨#[42, 43, 63, 124, 40, 41, 91, 93]⟩, .int .i32 r] W.drew fun e w' => e = .returned (.bool b) /\ w'.cell? ⟨w1.heap.size, 0, none⟩ = some (.int .i32 r) /\ w'.cell? ⟨w1.heap.size, 1, none⟩ = some (.bool true) /\ Hid (Rd w' bd t /\ w.grownBy w' (some bd)) by
  refine (contains_any r HOK.out W.drew).mono fun e w' q => ?_
  have hb2 : Below W.heap.size W w' := (Below.refl _ _).drew.trans q.2
  have hbx2 : Box w' w1.heap.size (.int .i32 r) (.bool true) 247 := (hb2.block _ (Array.getElem?_eq_some_iff.1 hbx).1).trans hbx
  refine ⟨by rw [q.1, HB.out], hbx2.reads.1, hbx2.reads.2.1, ?_, ?_⟩
  ·exact (show Rd W bd t by rw [<- hW]; exact HR1.out.alloc _).below hb2
  ·exact grown_trans (show w.grownBy W (some bd) by rw [<- hW]; exact grown_alloc HG1.out _) (grown_of_below hb2 _))
 rw [hW]
 clear hW hbx
 go_region_held3 (fun w' => w'.cell? ⟨w1.heap.size, 0, none⟩ = some (.int .i32 r) /\ w'.cell? ⟨w1.heap.size, 1, none⟩ = some (.bool true)) (first | exact ⟨s1, s2⟩ | exact ⟨r0, r1⟩) (first | (go_at_call 194; refine HC.out.mono ?_; rintro e wq ⟨rfl, s1, s2, s3⟩))
 go_wp2
 go_ret2
 rw [<- HRES.out]
 cases b with
 | true => exact ⟨_, rfl, s3.out.2⟩
 | false => exact ⟨_, rfl, .only r, s3.out.1, s3.out.2⟩
theorem Res.grown {w0 w : World} {bd : Nat} {r : Option (Pt × List Sg)} {e : Ending} {w' : World} (hg : w0.grownBy w (some bd)) (h : Res w bd r e w') : Res w0 bd r e w' := by
 have hs := hg.size
 cases r with
 | none =>
   obtain ⟨v, he, hw⟩ := h
   exact ⟨v, he, grown_trans hg hw⟩
 | some p =>
   obtain ⟨x, m⟩ := p
   obtain ⟨v, he, ht, hr, hw⟩ := h
   exact ⟨v, he, ht.keep fun b hb _ => ⟨rfl, by omega⟩, hr, grown_trans hg hw⟩
theorem zhD (l : List Sg) (hC : ∀ m : List Sg, m.length < l.length -> zf4 m) : ziN l := by
 intro w bd hne h
 cases h1 : atB l 40 with
 | true =>
   have hlt := zaW h1
   have HA := zh (zed l)
   have HTK := zh (take_yes bd l 40 w h h1)
   have HCC := zh (hC l.tail (by omega))
   have H1 := zh h1
   have hfar := h.lt
   obtain ⟨res, hres⟩ : ∃ r, zdW l = r := ⟨_, rfl⟩
   rw [hres]
   have HRES := zh hres
   clear h hC h1 hlt hres hne
   cases hch : zbn l.tail [] with
   | none =>
     have HCH := zh hch
     have HT0 := zh (show res = none by rw [<- HRES.out, HA.out, H1.out, hch]; rfl)
     clear hch
     go_enter Tryz.func190, Tryz.ntmps190
     go_wp2_with fail
     refine HTK.out.mono ?_
     rintro e w1 ⟨rfl, hr, hg⟩
     have HG1 := zh hg
     have HCR := zh (HCC.out w1 bd hr)
     rw [HCH.out] at HCR
     clear hr hg
     go_wp2_with fail
     refine HCR.out.mono ?_
     rintro e w2 ⟨u, rfl, hg2⟩
     have HG2 := zh hg2
     clear hg2
     go_wp2
     go_ret2
     rw [HT0.out]
     exact ⟨_, rfl, grown_trans HG1.out HG2.out⟩
   | some p =>
     obtain ⟨c, m⟩ := p
     have HCH := zh hch
     cases h2 : atB m 41 with
     | true =>
       have HT0 := zh (show res = some (.choice c, m.tail) by rw [<- HRES.out, HA.out, H1.out, hch]; simp [h2])
       have H2 := zh h2
       clear hch h2
       go_enter Tryz.func190, Tryz.ntmps190
       go_wp2_with fail
       refine HTK.out.mono ?_
       rintro e w1 ⟨rfl, hr, hg⟩
       have HG1 := zh hg
       have HCR := zh (HCC.out w1 bd hr)
       rw [HCH.out] at HCR
       clear hr hg
       go_wp2_with fail
       refine HCR.out.mono ?_
       rintro e w2 ⟨u, rfl, ht2, hr2, hg2⟩
       have HT2 := zh ht2
       have HG2 := zh (grown_trans HG1.out hg2)
       have HTK2 := zh (take_yes bd m 41 w2 hr2 H2.out)
       clear ht2 hr2 hg2
       go_wp2_with fail
       refine HTK2.out.mono ?_
       rintro e w3 ⟨rfl, hr3, hg3⟩
       have HR3 := zh hr3
       have HG3 := zh hg3
       clear hr3 hg3
       go_wp2
       go_ret2
       rw [HT0.out]
       have hs1 := HG1.out.size
       exact ⟨_, rfl, (HT2.out.grown HG3.out (fun b hb => by omega)).keep (fun b hb _ => ⟨rfl, by omega⟩), HR3.out, grown_trans HG2.out HG3.out⟩
     | false =>
       have HT0 := zh (show res = none by rw [<- HRES.out, HA.out, H1.out, hch]; simp [h2])
       have H2 := zh h2
       clear hch h2
       go_enter Tryz.func190, Tryz.ntmps190
       go_wp2_with fail
       refine HTK.out.mono ?_
       rintro e w1 ⟨rfl, hr, hg⟩
       have HG1 := zh hg
       have HCR := zh (HCC.out w1 bd hr)
       rw [HCH.out] at HCR
       clear hr hg
       go_wp2_with fail
       refine HCR.out.mono ?_
       rintro e w2 ⟨u, rfl, ht2, hr2, hg2⟩
       have HG2 := zh (grown_trans HG1.out hg2)
       have HTK2 := zh (take_no bd m 41 w2 hr2 H2.out)
       clear ht2 hr2 hg2
       go_wp2_with fail
       refine HTK2.out.mono ?_
       rintro e w3 ⟨rfl, rfl⟩
       go_wp2
       go_ret2
       rw [HT0.out]
       exact ⟨_, rfl, HG2.out⟩
 | false =>
   cases h2 : atB l 91 with
   | true =>
     have HT0 := zh (show zdW l = zbx l.tail by rw [zed, h1, h2]; rfl)
     have HTK1 := zh (take_no bd l 40 w h h1)
     have HTK2 := zh (take_yes bd l 91 w h h2)
     obtain ⟨res, hres⟩ : ∃ r, zdW l = r := ⟨_, rfl⟩
     have HRES := zh (show zbx l.tail = res by rw [<- hres, HT0.out])
     rw [hres]
     clear h hC h1 h2 hne hres
     go_enter Tryz.func190, Tryz.ntmps190
     go_wp2_with fail
     refine HTK1.out.mono ?_
     rintro e w1 ⟨rfl, rfl⟩
     go_wp2_with fail
     refine HTK2.out.mono ?_
     rintro e w1 ⟨rfl, hr, hg⟩
     have HG1 := zh hg
     have HCR := zh (class_any bd l.tail w1 hr)
     rw [HRES.out] at HCR
     clear hr hg
     cases res with
     | none =>
       go_wp2_with fail
       refine HCR.out.mono ?_
       rintro e w2 ⟨u, rfl, hg2⟩
       have HG2 := zh hg2
       clear hg2
       go_wp2
       go_ret2
       exact ⟨_, rfl, grown_trans HG1.out HG2.out⟩
     | some p =>
       obtain ⟨x, m⟩ := p
       go_wp2_with fail
       refine HCR.out.mono ?_
       rintro e w2 ⟨u, rfl, ht2, hr2, hg2⟩
       have HG2 := zh (And.intro ht2 (And.intro hr2 hg2))
       clear ht2 hr2 hg2
       go_wp2
       go_ret2
       exact Res.grown HG1.out ⟨_, rfl, HG2.out⟩
   | false =>
     cases h3 : atB l 46 with
     | true =>
       have HT0 := zh (show zdW l = some (.dot, l.tail) by rw [zed, h1, h2, h3]; rfl)
       have HTK1 := zh (take_no bd l 40 w h h1)
       have HTK2 := zh (take_no bd l 91 w h h2)
       have HTK3 := zh (take_yes bd l 46 w h h3)
       rw [HT0.out]
       clear h hC h1 h2 h3 hne
       go_enter Tryz.func190, Tryz.ntmps190
       go_wp2_with fail
       refine HTK1.out.mono ?_
       rintro e w1 ⟨rfl, rfl⟩
       go_wp2_with fail
       refine HTK2.out.mono ?_
       rintro e w1 ⟨rfl, rfl⟩
       go_wp2_with fail
       refine HTK3.out.mono ?_
       rintro e w1 ⟨rfl, hr, hg⟩
       have HG1 := zh hg
       have HR1 := zh hr
       clear hr hg
       go_wp2
       go_ret2
       exact ⟨_, rfl, .dot, HR1.out, HG1.out⟩
     | false =>
       have ha : zdW l = litP l := by rw [zed, h1, h2, h3]; rfl
       cases l with
       | nil => exact absurd rfl hne
       | cons s t =>
         obtain ⟨r, b⟩ := s
         rw [ha]
         cases b with
         | false => exact lit_esc bd r t w h h1 h2 h3
         | true => exact lit_bare bd r t w h h1 h2 h3 (zdV r) rfl _ (by simp [litP])
theorem reads : ∀ (n : Nat) (l : List Sg), l.length <= n -> zf4 l := by
 intro n
 induction n with
 | zero =>
   intro l hl
   exact zgd 0 (fun m hm => chain_of 0 (fun k hk => zhD k (fun j hj => by omega)) m hm) l hl
 | succ n ih =>
   intro l hl
   exact zgd (n + 1) (fun m hm => chain_of (n + 1) (fun k hk => zhD k (fun j hj => ih j (by omega))) m hm) l hl
theorem choice_any (l : List Sg) : zf4 l := reads l.length l (Nat.le_refl _)
end Go.Proofs.YtbcemjhaecelnaaGreatDoor.Pat
end
section
namespace Go.Proofs.YtbcemjhaecelnaaGreatDoor.Pat
open Go.RowKit
theorem info74 : (Tryz.prog.info? 247).map (fun i => (i.zero, i.size, i.bytes)) = some (some (.agg #[.int .i32 0, .bool false]), 2, 8) := by kernel_rfl
def zdX (xs : List Sg) : List Value := xs.flatMap fun x => [.int .i32 x.1, .bool x.2]
theorem flatS_snoc (xs : List Sg) (x : Sg) : zdX (xs ++ [x]) = zdX xs ++ [.int .i32 x.1, .bool x.2] := by simp [zdX]
theorem zf5 : ∀ (xs : List Sg) (j : Nat) (x : Sg), xs[j]? = some x -> (zdX xs)[j * 2]? = some (.int .i32 x.1) /\ (zdX xs)[j * 2 + 1]? = some (.bool x.2)
 | [], j, x, h => by simp at h
 | y :: ys, 0, x, h => by simp at h; subst h; exact ⟨rfl, rfl⟩
 | y :: ys, j + 1, x, h => by
   have := zf5 ys j x (by simpa using h)
   have e : zdX (y :: ys) = [.int .i32 y.1, .bool y.2] ++ zdX ys := rfl
   rw [e, List.getElem?_append_right (by simp; omega), List.getElem?_append_right (by simp; omega)]
   simp only [List.length_cons, List.length_nil]
   rw [show (j + 1) * 2 - (0 + 1 + 1) = j * 2 by omega, show (j + 1) * 2 + 1 - (0 + 1 + 1) = j * 2 + 1 by omega]
   exact this
theorem one_2s (a : Int) (b : Bool) : ∀ v ∈ [Value.int .i32 a, Value.bool b], v.oneCell' = true := by
 intro v hv; simp at hv; rcases hv with rfl | rfl <;> rfl
theorem own_snocS {w : World} {B : Nat} {v : Value} {xs : List Sg} {a : Int} {b : Bool} (h : w.ownsRow B 247 2 v (xs.length + 1) (zdX xs ++ [.int .i32 a, .bool b])) : w.ownsRow B 247 2 v (xs ++ [(a, b)]).length (zdX (xs ++ [(a, b)])) := by
 rw [List.length_append, flatS_snoc]; exact h
def Signs (B : Nat) (xs : List Sg) (ok : Bool) (e : Ending) (w' : World) : Prop := ∃ v, e = .returned (.tuple #[v, .bool ok]) /\ w'.ownsRow B 247 2 v xs.length (zdX xs)
theorem signs_any (s : ByteArray) (w : World) (hs : s.size <= 1000000) :
 Calls Tryz.prog 178 #[.string s] w fun e w' => Signs (w.heap.size + 1) (zay false (zai s.data.toList)) (!zaV false (zai s.data.toList)) e w' /\ Below w.heap.size w w' := by
 obtain ⟨ie, hi, hz0, hz1, hz2⟩ := info_parts info74
 go_enter Tryz.func178, Tryz.ntmps178
 go_wp2
 go_loopw [4, 5] (fun v v5 wr => ∃ (pos : Nat) (b : Bool) (xs : List Sg), v5 = .bool b /\ wr.heap[w.heap.size]? = some (.stringIter s pos) /\ wr.ownsRow (w.heap.size + 1) 247 2 v xs.length (zdX xs) /\ Below w.heap.size w wr /\ Hid (xs ++ zay b (zai (s.data.toList.drop pos)) = zay false (zai s.data.toList) /\ zaV b (zai (s.data.toList.drop pos)) = zaV false (zai s.data.toList)) /\ xs.length <= pos /\ pos <= s.size) (fun _ _ wr => s.size - wr.iterPos w.heap.size)
 case atStart => exact ⟨0, false, [], rfl, World.iter_heap w s 0, World.ownsRow_nil _ _ _ _, (Below.refl _ _).alloc (Nat.le_refl _) _, ⟨by simp, by simp⟩, by simp, Nat.zero_le _⟩
 case round =>
  obtain ⟨pos, b, xs, rfl, hit, hown, hbw, H, hk, hps⟩ := hrel
  have hpos0 := zac hit
  by_cases hp : pos < s.size
  ·have hnx : ∀ ty, (Instr.next (.pointer (some ⟨w.heap.size, 0, none⟩)) true ty).run Tryz.prog wr = _ := fun ty => Lib.run_next_any_at wr w.heap.size s pos ty hit hp
   have hwd := zbT s pos
   have hwl := zbm hp
   have hit2 := Lib.iterAt_heap wr w.heap.size s pos (pos + (Utf8.decode s pos).2) hit
   have hbw2 := Lib.below_iterAt hbw (k := w.heap.size) (Nat.le_refl _) s (pos + (Utf8.decode s pos).2)
   have hown2 := zcc hown (k := w.heap.size) (by omega) s (pos + (Utf8.decode s pos).2)
   have hsp := zdm hp
   obtain ⟨r, hr⟩ : ∃ r : Int, ((Utf8.decode s pos).1 : Int) = r := ⟨_, rfl⟩
   rw [hr] at hsp
   have HSP := zh hsp
   obtain ⟨W1, hW1⟩ : ∃ W1, W1 = wr.iterAt w.heap.size s (pos + (Utf8.decode s pos).2) := ⟨_, rfl⟩
   rw [<- hW1] at hnx hit2 hbw2 hown2
   rw [hr] at hnx
   have hBlt : w.heap.size < W1.heap.size := (Array.getElem?_eq_some_iff.1 hit2).1
   obtain ⟨p2, hp2⟩ : ∃ p2, pos + (Utf8.decode s pos).2 = p2 := ⟨_, rfl⟩
   rw [hp2] at hit2 hwl HSP
   have hlt2 : pos < p2 := by omega
   clear hW1 hit hown hbw hr hsp hp2 hwd
   by_cases hc : r = 92 /\ b = false
   ·obtain ⟨rfl, rfl⟩ := hc
    have H2 := zh (show xs ++ zay true (zai (s.data.toList.drop p2)) = zay false (zai s.data.toList) /\ zaV true (zai (s.data.toList.drop p2)) = zaV false (zai s.data.toList) by
     have := H.out
     rw [HSP.out] at this
     simpa [zay, zaV] using this)
    clear H HSP
    go_wp2
    go_roundw
    case rel => exact ⟨p2, true, xs, rfl, hit2, hown2, hbw2, H2, by omega, hwl⟩
    case measure => rw [zac hit2, hpos0]; omega
   ·have hnot : (r == 92 && !b) = false := by
     cases b with
     | true => simp
     | false => simp at hc ⊢; exact hc
    have H2 := zh (show (xs ++ [(r, !b)]) ++ zay false (zai (s.data.toList.drop p2)) = zay false (zai s.data.toList) /\ zaV false (zai (s.data.toList.drop p2)) = zaV false (zai s.data.toList) by
     have := H.out
     rw [HSP.out] at this
     simp only [zay, zaV, hnot] at this
     simpa using this)
    have HB := zh hnot
    clear H HSP hnot
    rcases (show ((r == 92) = false) \/ (r = 92 /\ b = true) by
     cases h : (r == 92) with
     | false => exact .inl rfl
     | true => exact .inr ⟨by simpa using h, by
      cases b with
      | true => rfl
      | false => exact absurd ⟨by simpa using h, rfl⟩ hc⟩) with hy | ⟨rfl, rfl⟩
    all_goals
     clear hc
     go_wp2_with (at_builtin; go_must (refine wpList_append_own _ rfl _ _ 229 rfl (w.heap.size + 1) 247 ie (.agg #[.int .i32 0, .bool false]) 2 8 Tryz.underlying229 hi hz0 hz1 hz2 rfl (by decide) _ _ _ rfl (hown2.alloc _) ⟨W1.heap.size, 0, none⟩ 1 1 [.int .i32 _, .bool _] rfl rfl (zhB _ _ _ _) (one_2s _ _) (by unfold maxLen; omega) (by omega) (by simp; omega) ?_); intro v' w3 hown' hgrow3 hnil3)
     replace hgrow3 : World.grownBy _ w3 u4.ownBlock := hgrow3
     have hit3 : w3.heap[w.heap.size]? = some (.stringIter s p2) := by
      rw [hgrow3.block w.heap.size (by simp; omega) (fun h => by have := (hown2.lt _ h.symm).1; omega), Below.heap_alloc _ _ _ hBlt]; exact hit2
     have hbw3 : Below w.heap.size w w3 := Below.grown (hbw2.alloc (by omega) _) hgrow3 (by simp; omega) (fun j hj => by have := (hown2.lt _ hj).1; omega)
     have ho3 := own_snocS hown'
     clear hown' hgrow3 hnil3
     go_roundw
     case rel => exact ⟨p2, false, _, rfl, hit3, ho3, hbw3, H2, by simp; omega, hwl⟩
     case measure => rw [zac hit3, hpos0]; omega
  ·have hnx : ∀ ty, (Instr.next (.pointer (some ⟨w.heap.size, 0, none⟩)) true ty).run Tryz.prog wr = _ := fun ty => Lib.run_next_end_at wr w.heap.size s pos ty hit hp
   have H2 := zh (show xs = zay false (zai s.data.toList) /\ b = zaV false (zai s.data.toList) by
    have := H.out
    rw [zc1 hp] at this
    simpa [zay, zaV] using this)
   clear H
   go_wp2
   go_ret2
   refine ⟨?_, hbw⟩
   rw [<- H2.out.1, <- H2.out.2]
   exact ⟨_, rfl, hown⟩
theorem rune_ok (t : List UInt8) : okR (rune t) := by
 unfold rune
 rw [Lib.decodeL_N]
 have := Lib.decodeN_valid t.length (t.getD 0 0).toNat (t.getD 1 0).toNat (t.getD 2 0).toNat (t.getD 3 0).toNat (UInt8.toNat_lt _)
 unfold okR
 omega
theorem spell_ok (l : List UInt8) : ∀ r ∈ zai l, okR r := by
 intro r hr
 unfold zai at hr
 obtain ⟨t, _, rfl⟩ := List.mem_map.1 hr
 exact rune_ok t
theorem ze1 : ∀ (b : Bool) (rs : List Int) (s : Sg), s ∈ zay b rs -> s.1 ∈ rs
 | _, [], s, h => by simp [zay] at h
 | b, r :: rs, s, h => by
   rw [zay] at h
   split at h
   ·exact List.mem_cons_of_mem _ (ze1 true rs s h)
   ·rcases List.mem_cons.1 h with rfl | h
    ·exact List.mem_cons_self
    ·exact List.mem_cons_of_mem _ (ze1 false rs s h)
theorem rd_of_own {w : World} {B : Nat} {v : Value} {xs : List Sg} (h : w.ownsRow B 247 2 v xs.length (zdX xs)) (hm : xs.length <= 1000000) (hok : ∀ s ∈ xs, okR s.1) : Rd (w.alloc (.cells #[v] 233)) w.heap.size xs := by
 have hb : (w.alloc (.cells #[v] 233)).heap[w.heap.size]? = some (.cells #[v] 233 (0, 0)) := Array.getElem?_push_size
 rcases h.2 with ⟨rfl, h0⟩ | ⟨g, cap, cur, rfl, hB, hg, hc, _⟩
 ·have : xs = [] := List.eq_nil_of_length_eq_zero h0
  subst this
  exact ⟨_, hb, none, 0, rfl, Nat.le_refl _, ⟨hm, hok⟩, .inl rfl⟩
 ·have hl := (Array.getElem?_eq_some_iff.1 hg).1
  refine ⟨_, hb, _, cap, rfl, hc, ⟨hm, hok⟩, .inr ⟨g, 0, rfl, hl, ?_⟩⟩
  have hs : SigAt w g 0 xs := by
   refine ⟨hl, fun j x hx => ?_, fun j x hx => ?_⟩
   ·have c1 := h.cells (g := g) rfl _ _ (zf5 xs j x hx).1
    simpa only [Addr.add_lit] using c1
   ·have c1 := h.cells (g := g) rfl _ _ (zf5 xs j x hx).2
    simpa only [Addr.add_lit, Nat.add_assoc] using c1
  exact hs.keep (Below.heap_alloc _ _ _ hl)
def ReadRes (w : World) (r : Option Pt) (e : Ending) (w' : World) : Prop := match r with
 | some x => ∃ v, e = .returned (.tuple #[v, .bool true]) /\ Tree w' (fun b => w.heap.size <= b) v x /\ Below w.heap.size w w'
 | none => ∃ v, e = .returned (.tuple #[v, .bool false]) /\ Below w.heap.size w w'
theorem below_of_grown {w w1 w' : World} {bd : Nat} (hb : Below w.heap.size w w1) (hg : w1.grownBy w' (some bd)) (h : w.heap.size <= bd) : Below w.heap.size w w' :=
 ⟨hg.os.trans hb.os, hg.tape.trans hb.tape, hg.output.trans hb.output, Nat.le_trans hb.size hg.size, fun k hk => (hg.block k (Nat.lt_of_lt_of_le hk hb.size) (by simp; omega)).trans (hb.block k hk)⟩
theorem read_any (s : ByteArray) (w : World) (hs : s.size <= 1000000) : Calls Tryz.prog 175 #[.string s] w (ReadRes w (readP (zai s.data.toList))) := by
 have HSG := zh (signs_any s w hs)
 have hlen : (zay false (zai s.data.toList)).length <= 1000000 := by
  have h1 := zbO false (zai s.data.toList)
  have h2 : (zai s.data.toList).length <= s.data.toList.length := by unfold zai; rw [List.length_map]; exact sufs_len _
  rw [<- Lib.size_eq] at h2
  omega
 have hok : ∀ x ∈ zay false (zai s.data.toList), okR x.1 := fun x hx => spell_ok _ _ (ze1 _ _ _ hx)
 have hrp : readP (zai s.data.toList) = if zaV false (zai s.data.toList) then none else match zbn (zay false (zai s.data.toList)) [] with
  | none => none
  | some (c, m) => if m.isEmpty then some (.choice c) else none := rfl
 generalize zay false (zai s.data.toList) = sg at HSG hlen hok hrp
 generalize zaV false (zai s.data.toList) = en at HSG hrp
 generalize readP (zai s.data.toList) = res at hrp
 have HRP := zh hrp
 have HOK := zh hok
 clear hrp hok
 cases en with
 | true =>
   have HR := zh (show res = none from HRP.out)
   go_enter Tryz.func175, Tryz.ntmps175
   go_wp2_with fail
   refine HSG.out.mono ?_
   rintro e w1 ⟨⟨v, rfl, hown⟩, hb⟩
   have HB := zh hb
   clear hown hb
   go_wp2
   go_ret2
   rw [HR.out]
   exact ⟨_, rfl, HB.out⟩
 | false =>
   go_enter Tryz.func175, Tryz.ntmps175
   go_wp2_with fail
   refine HSG.out.mono ?_
   rintro e w1 ⟨⟨v, rfl, hown⟩, hb⟩
   have HB := zh hb
   have HRD := zh (rd_of_own hown hlen HOK.out)
   have HCH := zh (choice_any sg _ _ HRD.out)
   obtain ⟨ov, cv, rfl⟩ := own_shape hown
   have HB2 := zh (fun w' (hg : (w1.alloc (.cells #[.slice ov sg.length cv] 233)).grownBy w' (some w1.heap.size)) => below_of_grown (hb.alloc hb.size (.cells #[.slice ov sg.length cv] 233)) hg hb.size)
   have hsz := hb.size
   clear hb hown
   cases hch : zbn sg [] with
   | none =>
     have HR := zh (show res = none by rw [HRP.out, hch]; rfl)
     rw [hch] at HCH
     clear hch
     go_wp2_with fail
     refine HCH.out.mono ?_
     rintro e w2 ⟨u, rfl, hg2⟩
     have HG := zh (HB2.out _ hg2)
     clear hg2
     go_wp2_with fail
     go_quiet (fail)
     go_wp2
     go_ret2
     rw [HR.out]
     exact ⟨_, rfl, HG.out.trans ((zaD _ _).mono HG.out.size)⟩
   | some p =>
     obtain ⟨c, m⟩ := p
     have HR := zh (show res = if m.isEmpty then some (.choice c) else none by rw [HRP.out, hch]; rfl)
     rw [hch] at HCH
     clear hch
     cases m with
     | nil =>
       go_wp2_with fail
       refine HCH.out.mono ?_
       rintro e w2 ⟨u, rfl, ht2, hr2, hg2⟩
       have HG := zh (HB2.out _ hg2)
       have HT := zh ht2
       obtain ⟨o, cap, hcell, _⟩ := hr2.cell
       replace hcell : w2.cell? ⟨w1.heap.size, 0, none⟩ = some (.slice o 0 cap) := hcell
       clear hg2 ht2 hr2
       go_wp2_with fail
       go_quiet (fail)
       go_wp2
       go_ret2
       rw [HR.out]
       exact ⟨_, rfl, HT.out.keep fun b hb hl => ⟨rfl, by have := World.size_alloc w1 (Obj.cells #[Value.slice ov sg.length cv] 233); omega⟩, HG.out.trans ((zaD _ _).mono HG.out.size)⟩
     | cons s1 m1 =>
       go_wp2_with fail
       refine HCH.out.mono ?_
       rintro e w2 ⟨u, rfl, ht2, hr2, hg2⟩
       have HG := zh (HB2.out _ hg2)
       obtain ⟨o, cap, hcell, hm, _, _⟩ := hr2.cell
       obtain ⟨k, hk⟩ : ∃ k, (s1 :: m1).length = k := ⟨_, rfl⟩
       rw [hk] at hcell hm
       have hk0 : 0 < k := by rw [<- hk]; simp
       have hne : ((k : Int) == 0) = false := by simp; omega
       clear hg2 ht2 hr2 hk
       go_wp2_with fail
       go_quiet (fail)
       go_wp2
       go_ret2
       rw [HR.out]
       exact ⟨_, rfl, HG.out.trans ((zaD _ _).mono HG.out.size)⟩
end Go.Proofs.YtbcemjhaecelnaaGreatDoor.Pat
end
end
