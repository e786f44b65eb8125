/- Patterns: an atom; what a text of signs is read as. -/
import Derived.Test.YtfpdhmecomgbdaaPg
namespace Go.Proofs.Ytfpdhmecomgbdaa
open Go.RowKit

theorem Res.map {w : World} {bd : Nat} {e : Ending} {w' : World} {r r2 : Option (Pt × List Sg)} (h : Res w bd r e w') (hr : r = r2) : Res w bd r2 e w' := hr ▸ h
theorem head_none {l : List Sg} {r : Int} (h : atB l r = false) : takeB l r = l := by unfold takeB; rw [h]; rfl

set_option maxHeartbeats 4000000 in
set_option maxRecDepth 100000 in
theorem lit_esc (bd : Nat) (r : Int) (t : List Sg) (w : World) (h : Rd w bd ((r, false) :: t)) (h1 : atB ((r, false) :: t) 40 = false) (h2 : atB ((r, false) :: t) 91 = false) (h3 : atB ((r, false) :: t) 46 = false) :
    Calls Try.prog 35 #[.pointer (some ⟨bd, 0, none⟩)] w (Res w bd (some (.only r, t))) := by
  have HR := Lib.hid h
  have H1 := Lib.hid h1
  have H2 := Lib.hid h2
  have H3 := Lib.hid h3
  clear h h1 h2 h3
  go_enter Try.func35, Try.ntmps35
  go_wp2_with fail
  refine (take_no bd _ 40 w HR.out H1.out).mono ?_
  rintro e w2 ⟨rfl, rfl⟩
  go_wp2_with fail
  refine (take_no bd _ 91 w HR.out H2.out).mono ?_
  rintro e w2 ⟨rfl, rfl⟩
  go_wp2_with fail
  refine (take_no bd _ 46 w HR.out H3.out).mono ?_
  rintro e w2 ⟨rfl, rfl⟩
  go_wp2_with fail
  refine (next_any bd _ _ w HR.out).mono ?_
  rintro e w1 ⟨rfl, hr, hg⟩
  have HR1 := Lib.hid hr
  have HG1 := Lib.hid hg
  clear hr hg
  go_wp2_with fail
  go_quiet (fail)
  go_wp2
  go_ret2
  exact ⟨_, rfl, .only r, (HR1.out.alloc _).below (drewN_below _ _), grown_trans (grown_alloc HG1.out _) (grown_of_below (drewN_below _ _) _)⟩

set_option maxHeartbeats 4000000 in
set_option maxRecDepth 100000 in
theorem lit_bare (bd : Nat) (r : Int) (t : List Sg) (w : World) (h : Rd w bd ((r, true) :: t)) (h1 : atB ((r, true) :: t) 40 = false) (h2 : atB ((r, true) :: t) 91 = false) (h3 : atB ((r, true) :: t) 46 = false) (b : Bool) (hb : markB r = b) (res : Option (Pt × List Sg)) (hres : (if b then none else some (.only r, t)) = res) :
    Calls Try.prog 35 #[.pointer (some ⟨bd, 0, none⟩)] w (Res w bd res) := by
  have HR := Lib.hid h
  have H1 := Lib.hid h1
  have H2 := Lib.hid h2
  have H3 := Lib.hid h3
  have HOK := Lib.hid (h.ok _ List.mem_cons_self)
  have HB := Lib.hid hb
  have HRES := Lib.hid hres
  clear h h1 h2 h3 hb hres
  go_enter Try.func35, Try.ntmps35
  go_wp2_with fail
  refine (take_no bd _ 40 w HR.out H1.out).mono ?_
  rintro e w2 ⟨rfl, rfl⟩
  go_wp2_with fail
  refine (take_no bd _ 91 w HR.out H2.out).mono ?_
  rintro e w2 ⟨rfl, rfl⟩
  go_wp2_with fail
  refine (take_no bd _ 46 w HR.out H3.out).mono ?_
  rintro e w2 ⟨rfl, rfl⟩
  go_wp2_with fail
  refine (next_any bd _ _ w HR.out).mono ?_
  rintro e w1 ⟨rfl, hr, hg⟩
  have HR1 := Lib.hid hr
  have HG1 := Lib.hid hg
  clear hr hg
  go_wp2_with fail
  obtain ⟨W, hW⟩ : ∃ W, w1.alloc (Obj.cells #[Value.int .i32 r, Value.bool true] 74) = W := ⟨_, rfl⟩
  have hbx : Box W w1.heap.size (.int .i32 r) (.bool true) 74 := by rw [← hW]; exact Array.getElem?_push_size
  obtain ⟨r0, r1, _, _⟩ := hbx.reads
  have HC := Lib.hid (show Calls Try.prog 39 #[.string ⟨#[42, 43, 63, 124, 40, 41, 91, 93]⟩, .int .i32 r] W.drew fun e w' => e = .returned (.bool b) ∧ w'.cell? ⟨w1.heap.size, 0, none⟩ = some (.int .i32 r) ∧ w'.cell? ⟨w1.heap.size, 1, none⟩ = some (.bool true) ∧ Hid (Rd w' bd t ∧ w.grownBy w' (some bd)) by
    refine (contains_any r HOK.out W.drew).mono fun e w' q => ?_
    have hb2 : Below W.heap.size W w' := (Below.refl _ _).drew.trans q.2
    have hbx2 : Box w' w1.heap.size (.int .i32 r) (.bool true) 74 := (hb2.block _ (Array.getElem?_eq_some_iff.1 hbx).1).trans hbx
    refine ⟨by rw [q.1, HB.out], hbx2.reads.1, hbx2.reads.2.1, ?_, ?_⟩
    · exact (show Rd W bd t by rw [← hW]; exact HR1.out.alloc _).below hb2
    · exact grown_trans (show w.grownBy W (some bd) by rw [← hW]; exact grown_alloc HG1.out _) (grown_of_below hb2 _))
  rw [hW]
  clear hW hbx
  go_region_held3 (fun w' => w'.cell? ⟨w1.heap.size, 0, none⟩ = some (.int .i32 r) ∧ w'.cell? ⟨w1.heap.size, 1, none⟩ = some (.bool true)) (first | exact ⟨s1, s2⟩ | exact ⟨r0, r1⟩) (first | (go_at_call 39; refine HC.out.mono ?_; rintro e wq ⟨rfl, s1, s2, s3⟩))
  go_wp2
  go_ret2
  rw [← HRES.out]
  cases b with
  | true => exact ⟨_, rfl, s3.out.2⟩
  | false => exact ⟨_, rfl, .only r, s3.out.1, s3.out.2⟩

theorem Res.grown {w0 w : World} {bd : Nat} {r : Option (Pt × List Sg)} {e : Ending} {w' : World} (hg : w0.grownBy w (some bd)) (h : Res w bd r e w') : Res w0 bd r e w' := by
  have hs := hg.size
  cases r with
  | none =>
    obtain ⟨v, he, hw⟩ := h
    exact ⟨v, he, grown_trans hg hw⟩
  | some p =>
    obtain ⟨x, m⟩ := p
    obtain ⟨v, he, ht, hr, hw⟩ := h
    exact ⟨v, he, ht.keep fun b hb _ => ⟨rfl, by omega⟩, hr, grown_trans hg hw⟩

set_option maxHeartbeats 4000000 in
set_option maxRecDepth 100000 in
theorem atom_of (l : List Sg) (hC : ∀ m : List Sg, m.length < l.length → ChoiceC m) : AtomC l := by
  intro w bd hne h
  cases h1 : atB l 40 with
  | true =>
    have hlt := tail_lt h1
    have HA := Lib.hid (atomP_eq l)
    have HTK := Lib.hid (take_yes bd l 40 w h h1)
    have HCC := Lib.hid (hC l.tail (by omega))
    have H1 := Lib.hid h1
    have hfar := h.lt
    obtain ⟨res, hres⟩ : ∃ r, atomP l = r := ⟨_, rfl⟩
    rw [hres]
    have HRES := Lib.hid hres
    clear h hC h1 hlt hres hne
    cases hch : choiceP l.tail [] with
    | none =>
      have HCH := Lib.hid hch
      have HT0 := Lib.hid (show res = none by rw [← HRES.out, HA.out, H1.out, hch]; rfl)
      clear hch
      go_enter Try.func35, Try.ntmps35
      go_wp2_with fail
      refine HTK.out.mono ?_
      rintro e w1 ⟨rfl, hr, hg⟩
      have HG1 := Lib.hid hg
      have HCR := Lib.hid (HCC.out w1 bd hr)
      rw [HCH.out] at HCR
      clear hr hg
      go_wp2_with fail
      refine HCR.out.mono ?_
      rintro e w2 ⟨u, rfl, hg2⟩
      have HG2 := Lib.hid hg2
      clear hg2
      go_wp2
      go_ret2
      rw [HT0.out]
      exact ⟨_, rfl, grown_trans HG1.out HG2.out⟩
    | some p =>
      obtain ⟨c, m⟩ := p
      have HCH := Lib.hid hch
      cases h2 : atB m 41 with
      | true =>
        have HT0 := Lib.hid (show res = some (.choice c, m.tail) by rw [← HRES.out, HA.out, H1.out, hch]; simp [h2])
        have H2 := Lib.hid h2
        clear hch h2
        go_enter Try.func35, Try.ntmps35
        go_wp2_with fail
        refine HTK.out.mono ?_
        rintro e w1 ⟨rfl, hr, hg⟩
        have HG1 := Lib.hid hg
        have HCR := Lib.hid (HCC.out w1 bd hr)
        rw [HCH.out] at HCR
        clear hr hg
        go_wp2_with fail
        refine HCR.out.mono ?_
        rintro e w2 ⟨u, rfl, ht2, hr2, hg2⟩
        have HT2 := Lib.hid ht2
        have HG2 := Lib.hid (grown_trans HG1.out hg2)
        have HTK2 := Lib.hid (take_yes bd m 41 w2 hr2 H2.out)
        clear ht2 hr2 hg2
        go_wp2_with fail
        refine HTK2.out.mono ?_
        rintro e w3 ⟨rfl, hr3, hg3⟩
        have HR3 := Lib.hid hr3
        have HG3 := Lib.hid hg3
        clear hr3 hg3
        go_wp2
        go_ret2
        rw [HT0.out]
        have hs1 := HG1.out.size
        exact ⟨_, rfl, (HT2.out.grown HG3.out (fun b hb => by omega)).keep (fun b hb _ => ⟨rfl, by omega⟩), HR3.out, grown_trans HG2.out HG3.out⟩
      | false =>
        have HT0 := Lib.hid (show res = none by rw [← HRES.out, HA.out, H1.out, hch]; simp [h2])
        have H2 := Lib.hid h2
        clear hch h2
        go_enter Try.func35, Try.ntmps35
        go_wp2_with fail
        refine HTK.out.mono ?_
        rintro e w1 ⟨rfl, hr, hg⟩
        have HG1 := Lib.hid hg
        have HCR := Lib.hid (HCC.out w1 bd hr)
        rw [HCH.out] at HCR
        clear hr hg
        go_wp2_with fail
        refine HCR.out.mono ?_
        rintro e w2 ⟨u, rfl, ht2, hr2, hg2⟩
        have HG2 := Lib.hid (grown_trans HG1.out hg2)
        have HTK2 := Lib.hid (take_no bd m 41 w2 hr2 H2.out)
        clear ht2 hr2 hg2
        go_wp2_with fail
        refine HTK2.out.mono ?_
        rintro e w3 ⟨rfl, rfl⟩
        go_wp2
        go_ret2
        rw [HT0.out]
        exact ⟨_, rfl, HG2.out⟩
  | false =>
    cases h2 : atB l 91 with
    | true =>
      have HT0 := Lib.hid (show atomP l = classP l.tail by rw [atomP_eq, h1, h2]; rfl)
      have HTK1 := Lib.hid (take_no bd l 40 w h h1)
      have HTK2 := Lib.hid (take_yes bd l 91 w h h2)
      obtain ⟨res, hres⟩ : ∃ r, atomP l = r := ⟨_, rfl⟩
      have HRES := Lib.hid (show classP l.tail = res by rw [← hres, HT0.out])
      rw [hres]
      clear h hC h1 h2 hne hres
      go_enter Try.func35, Try.ntmps35
      go_wp2_with fail
      refine HTK1.out.mono ?_
      rintro e w1 ⟨rfl, rfl⟩
      go_wp2_with fail
      refine HTK2.out.mono ?_
      rintro e w1 ⟨rfl, hr, hg⟩
      have HG1 := Lib.hid hg
      have HCR := Lib.hid (class_any bd l.tail w1 hr)
      rw [HRES.out] at HCR
      clear hr hg
      cases res with
      | none =>
        go_wp2_with fail
        refine HCR.out.mono ?_
        rintro e w2 ⟨u, rfl, hg2⟩
        have HG2 := Lib.hid hg2
        clear hg2
        go_wp2
        go_ret2
        exact ⟨_, rfl, grown_trans HG1.out HG2.out⟩
      | some p =>
        obtain ⟨x, m⟩ := p
        go_wp2_with fail
        refine HCR.out.mono ?_
        rintro e w2 ⟨u, rfl, ht2, hr2, hg2⟩
        have HG2 := Lib.hid (And.intro ht2 (And.intro hr2 hg2))
        clear ht2 hr2 hg2
        go_wp2
        go_ret2
        exact Res.grown HG1.out ⟨_, rfl, HG2.out⟩
    | false =>
      cases h3 : atB l 46 with
      | true =>
        have HT0 := Lib.hid (show atomP l = some (.dot, l.tail) by rw [atomP_eq, h1, h2, h3]; rfl)
        have HTK1 := Lib.hid (take_no bd l 40 w h h1)
        have HTK2 := Lib.hid (take_no bd l 91 w h h2)
        have HTK3 := Lib.hid (take_yes bd l 46 w h h3)
        rw [HT0.out]
        clear h hC h1 h2 h3 hne
        go_enter Try.func35, Try.ntmps35
        go_wp2_with fail
        refine HTK1.out.mono ?_
        rintro e w1 ⟨rfl, rfl⟩
        go_wp2_with fail
        refine HTK2.out.mono ?_
        rintro e w1 ⟨rfl, rfl⟩
        go_wp2_with fail
        refine HTK3.out.mono ?_
        rintro e w1 ⟨rfl, hr, hg⟩
        have HG1 := Lib.hid hg
        have HR1 := Lib.hid hr
        clear hr hg
        go_wp2
        go_ret2
        exact ⟨_, rfl, .dot, HR1.out, HG1.out⟩
      | false =>
        have ha : atomP l = litP l := by rw [atomP_eq, h1, h2, h3]; rfl
        cases l with
        | nil => exact absurd rfl hne
        | cons s t =>
          obtain ⟨r, b⟩ := s
          rw [ha]
          cases b with
          | false => exact lit_esc bd r t w h h1 h2 h3
          | true => exact lit_bare bd r t w h h1 h2 h3 (markB r) rfl _ (by simp [litP])

/-- What all that reads answers. -/
theorem reads : ∀ (n : Nat) (l : List Sg), l.length ≤ n → ChoiceC l := by
  intro n
  induction n with
  | zero =>
    intro l hl
    exact choice_of 0 (fun m hm => chain_of 0 (fun k hk => atom_of k (fun j hj => by omega)) m hm) l hl
  | succ n ih =>
    intro l hl
    exact choice_of (n + 1) (fun m hm => chain_of (n + 1) (fun k hk => atom_of k (fun j hj => ih j (by omega))) m hm) l hl
theorem choice_any (l : List Sg) : ChoiceC l := reads l.length l (Nat.le_refl _)
end Go.Proofs.Ytfpdhmecomgbdaa
