/- Patterns: rows of parts; alternatives. -/
import Derived.Test.YtfpdhmecomgbdaaPe
namespace Go.Proofs.Ytfpdhmecomgbdaa
open Go.RowKit

theorem info38 : (Try.prog.info? 38).map (fun i => (i.zero, i.size, i.bytes)) = some (some .nilIface, 1, 16) := by kernel_rfl
/-- A row of the call's own that holds parts, none of them in the row's own block. -/
def Kids (w0 w : World) (v : Value) (l : List Pt) : Prop := ∃ vs, w.ownsRow w0.heap.size 38 1 v l.length vs ∧ ∀ (j : Nat) u x, vs[j]? = some u → l[j]? = some x → Tree w (fun b => w0.heap.size ≤ b ∧ some b ≠ v.ownBlock) u x
theorem Kids.start (w0 w : World) : Kids w0 w (.slice none 0 0) [] := ⟨[], World.ownsRow_nil _ _ _ _, fun j u x h => by simp at h⟩
theorem Kids.grown {w0 w w' : World} {v : Value} {l : List Pt} {bd : Nat} (h : Kids w0 w v l) (hg : w.grownBy w' (some bd)) (hb : bd < w0.heap.size) : Kids w0 w' v l := by
  obtain ⟨vs, h1, h2⟩ := h
  refine ⟨vs, h1.kept hg ?_, fun j u x hu hx => (h2 j u x hu hx).grown hg (fun b hb2 => by omega)⟩
  cases ho : v.ownBlock with
  | none => exact .inl rfl
  | some g =>
    have := (h1.lt g ho).1
    exact .inr (by simp; omega)
theorem Kids.alloc {w0 w : World} {v : Value} {l : List Pt} (h : Kids w0 w v l) (o : Obj) : Kids w0 (w.alloc o) v l := by
  obtain ⟨vs, h1, h2⟩ := h
  exact ⟨vs, h1.alloc o, fun j u x hu hx => (h2 j u x hu hx).keep fun b hb hl => ⟨Below.heap_alloc _ _ _ hl, hb⟩⟩
theorem Kids.block {w0 w : World} {v : Value} {l : List Pt} (h : Kids w0 w v l) : ∀ k, v.ownBlock = some k → w0.heap.size ≤ k ∧ k < w.heap.size := by
  obtain ⟨vs, h1, _⟩ := h; exact h1.lt
theorem Kids.length {w0 w : World} {v : Value} {l : List Pt} (h : Kids w0 w v l) : ∃ o c, v = .slice o l.length c := by
  obtain ⟨vs, h1, _⟩ := h; exact own_shape h1
/-- One part more. -/
theorem Kids.push {w0 w w' : World} {v v' u : Value} {l : List Pt} {x : Pt} {vs : List Value} (h : w.ownsRow w0.heap.size 38 1 v l.length vs ∧ ∀ (j : Nat) u x, vs[j]? = some u → l[j]? = some x → Tree w (fun b => w0.heap.size ≤ b ∧ some b ≠ v.ownBlock) u x)
    (hu : Tree w (fun b => w0.heap.size ≤ b ∧ some b ≠ v.ownBlock) u x) (ho : w'.ownsRow w0.heap.size 38 1 v' (l.length + 1) (vs ++ [u])) (hg : w.grownBy w' v.ownBlock) (hv : v'.ownBlock = v.ownBlock ∨ v'.ownBlock = some w.heap.size) : Kids w0 w' v' (l ++ [x]) := by
  have hk : ∀ b, (w0.heap.size ≤ b ∧ some b ≠ v.ownBlock) → b < w.heap.size → w'.heap[b]? = w.heap[b]? ∧ (w0.heap.size ≤ b ∧ some b ≠ v'.ownBlock) := by
    intro b hb hl
    refine ⟨hg.block b hl hb.2, hb.1, ?_⟩
    rcases hv with hv | hv
    · rw [hv]; exact hb.2
    · rw [hv]; simp; omega
  refine ⟨vs ++ [u], by rw [List.length_append]; exact ho, fun j a y ha hy => ?_⟩
  have hlen : vs.length = l.length := by have := h.1.1; omega
  by_cases hj : j < l.length
  · rw [List.getElem?_append_left (by omega)] at ha
    rw [List.getElem?_append_left hj] at hy
    exact (h.2 j a y ha hy).keep hk
  · rw [List.getElem?_append_right (by omega)] at ha
    rw [List.getElem?_append_right (by omega)] at hy
    by_cases h0 : j = l.length
    · subst h0
      simp [hlen] at ha hy
      subst ha; subst hy
      exact hu.keep hk
    · obtain ⟨k, hk2⟩ : ∃ k, j - l.length = k + 1 := ⟨j - l.length - 1, by omega⟩
      rw [hk2] at hy
      simp at hy
theorem Kids.sees {w0 w : World} {o : Option Addr} {n c : Nat} {l : List Pt} (h : Kids w0 w (.slice o n c) l) : ∃ vs : List Value, vs.length = n ∧ l.length = n ∧ SeesV w (fun b => w0.heap.size ≤ b) o vs ∧ ∀ (j : Nat) u x, vs[j]? = some u → l[j]? = some x → Tree w (fun b => w0.heap.size ≤ b) u x := by
  obtain ⟨vs, h1, h2⟩ := h
  have hl := h1.1
  obtain ⟨o', c', e⟩ := own_shape h1
  injection e with e1 e2 e3
  refine ⟨vs, by omega, e2.symm, ?_, fun j u x hu hx => (h2 j u x hu hx).keep fun b hb _ => ⟨rfl, hb.1⟩⟩
  rcases h1.2 with ⟨e, h0⟩ | ⟨g, cap, cur, e, hB, hg, _⟩
  · exact .inl (List.eq_nil_of_length_eq_zero (by omega))
  · injection e with e1 _ _
    subst e1
    refine .inr ⟨g, 0, rfl, hB, (Array.getElem?_eq_some_iff.1 hg).1, fun j v hv => ?_⟩
    have := h1.cells (g := g) rfl j v hv
    simpa [Addr.add_lit] using this
theorem cell_1k (w : World) (v : Value) (t : TypeId) (k : Nat) (hk : w.heap.size = k) : ∀ j u, [v][j]? = some u → (w.alloc (.cells #[v] t)).cell? ((⟨k, 0, none⟩ : Addr).add j) = some u := by
  subst hk
  intro j u hj
  match j, hj with
  | 0, hj => simp at hj; subst hj; simp [Addr.add]
  | j + 1, hj => simp at hj
theorem one_iface (t : TypeId) (u : Value) : ∀ v ∈ [Value.iface t u], v.oneCell' = true := by
  intro v hv; simp at hv; subst hv; rfl

/-- What the walk over alternatives holds. -/
structure ChoiceAt (w0 : World) (bd : Nat) (t : Option (List Pt × List Sg)) (wr : World) (l : List Sg) (acc : List Pt) (v : Value) : Prop where
  rd : Rd wr bd l
  grown : w0.grownBy wr (some bd)
  kids : Kids w0 wr v acc
  same : choiceP l acc = t
  few : acc.length + l.length ≤ 1000000
  far : bd < w0.heap.size
def ChoiceLoop (w0 : World) (bd : Nat) (t : Option (List Pt × List Sg)) (k : Nat) (v : Value) (wr : World) : Prop := ∃ l acc, l.length = k ∧ ChoiceAt w0 bd t wr l acc v

def ChainC (l : List Sg) : Prop := ∀ (w : World) (bd : Nat), Rd w bd l → Calls Try.prog 30 #[.pointer (some ⟨bd, 0, none⟩)] w (Res w bd ((chainP l []).map fun p => (.chain p.1, p.2)))
def ChoiceC (l : List Sg) : Prop := ∀ (w : World) (bd : Nat), Rd w bd l → Calls Try.prog 23 #[.pointer (some ⟨bd, 0, none⟩)] w (Res w bd ((choiceP l []).map fun p => (.choice p.1, p.2)))

set_option maxHeartbeats 4000000 in
set_option maxRecDepth 100000 in
theorem choice_of (n : Nat) (hC : ∀ m : List Sg, m.length ≤ n → ChainC m) (l : List Sg) (hl : l.length ≤ n) : ChoiceC l := by
  intro w bd h
  obtain ⟨ie, hi, hz0, hz1, hz2⟩ := info_parts info38
  have hlt := h.lt
  obtain ⟨t, ht⟩ : ∃ t, choiceP l [] = t := ⟨_, rfl⟩
  have HST : ChoiceLoop w bd t l.length (.slice none 0 0) w := ⟨l, [], rfl, h, grown_refl _ _, Kids.start _ _, ht, by
    obtain ⟨_, _, _, hm, _⟩ := h.cell; simpa using hm, hlt⟩
  have HC := Lib.hid hC
  have HT := Lib.hid ht
  clear h hC
  rw [ht]
  clear ht
  go_enter Try.func23, Try.ntmps23
  go_wp2_with fail
  go_loopg [4] l.length (fun k v wr => k ≤ n ∧ ChoiceLoop w bd t k v wr)
  case atStart => exact ⟨hl, HST⟩
  case round =>
    clear HST hl
    obtain ⟨hgn, l2, acc, rfl, H⟩ := hrel
    have HH := Lib.hid H
    have HCC := Lib.hid (HC.out l2 hgn wr bd H.rd)
    have HEQ := Lib.hid (choiceP_eq l2 acc)
    clear H
    cases hch : chainP l2 [] with
    | none =>
      have HT0 := Lib.hid (show t = none by rw [← HH.out.same, HEQ.out, hch])
      rw [hch] at HCC
      clear hch
      go_wp2_with fail
      refine HCC.out.mono ?_
      rintro e w1 ⟨u, rfl, hg⟩
      have HG := Lib.hid hg
      clear hg
      go_wp2
      go_ret2
      rw [HT0.out]
      exact ⟨_, rfl, grown_trans HH.out.grown HG.out⟩
    | some p =>
      obtain ⟨c, m⟩ := p
      have hml := chainP_le hch
      have HT0 := Lib.hid (show t = if atB m 124 then choiceP m.tail (acc ++ [.chain c]) else some (acc ++ [.chain c], m) by rw [← HH.out.same, HEQ.out, hch])
      rw [hch] at HCC
      clear hch
      go_wp2_with fail
      refine HCC.out.mono ?_
      rintro e w1 ⟨u, rfl, ht1, hr1, hg1⟩
      obtain ⟨tu, uu, rfl⟩ := ht1.iface
      have hk1 := HH.out.kids.grown hg1 HH.out.far
      have hT1 := ht1.keep (w' := w1) (Q := fun b => w.heap.size ≤ b ∧ some b ≠ u4.ownBlock) (fun b hb _ => ⟨rfl, by have := HH.out.grown.size; omega, fun e => by have := (HH.out.kids.block b e.symm).2; omega⟩)
      have HR1 := Lib.hid hr1
      have HG1 := Lib.hid (grown_trans HH.out.grown hg1)
      have hsz : w.heap.size ≤ w1.heap.size := HG1.out.size
      have hfw := HH.out.few
      obtain ⟨vs, hown, hkid⟩ := hk1
      have HKID := Lib.hid (And.intro (hown.alloc (Obj.cells #[.iface tu uu] 38)) (fun j u x hu hx => (hkid j u x hu hx).keep (w' := w1.alloc (Obj.cells #[.iface tu uu] 38)) (fun b hb hl => ⟨Below.heap_alloc _ _ _ hl, hb⟩)))
      have HT1 := Lib.hid (hT1.keep (w' := w1.alloc (Obj.cells #[.iface tu uu] 38)) (fun b hb hl => ⟨Below.heap_alloc _ _ _ hl, hb⟩))
      clear hown hkid hT1 ht1 hg1 hr1
      go_wp2_with (at_builtin; go_must (refine wpList_append_keeps _ rfl _ _ 62 rfl w.heap.size 38 ie .nilIface 1 16 Try.underlying62 hi hz0 hz1 hz2 rfl (by decide) _ _ _ rfl HKID.out.1 ⟨w1.heap.size, 0, none⟩ 1 1 [.iface tu uu] rfl rfl (cell_1k _ _ _ _ rfl) (one_iface _ _) (by unfold maxLen; omega) (by omega) (by simp; omega) ?_); intro v' w5 hown' hgrow' hblk' _; replace hgrow' : World.grownBy _ w5 u4.ownBlock := hgrow'; replace hblk' : v'.ownBlock = u4.ownBlock ∨ _ := hblk'; have H5 := Lib.hid (Kids.push HKID.out HT1.out hown' hgrow' hblk'); have HG5 := Lib.hid (grown_own (grown_alloc HG1.out (Obj.cells #[.iface tu uu] 38)) hgrow' (fun k hk => (HH.out.kids.block k hk).1)); have HR5 := Lib.hid ((HR1.out.alloc (Obj.cells #[.iface tu uu] 38)).grownOwn hgrow' (fun k hk => Nat.lt_of_lt_of_le HH.out.far (HH.out.kids.block k hk).1)); clear hown' hgrow' hblk')
      cases hb : atB m 124 with
      | true =>
        have hmt := tail_lt hb
        have HTK := Lib.hid (take_yes bd m 124 w5 HR5.out hb)
        have HS := Lib.hid (show choiceP m.tail (acc ++ [.chain c]) = t by rw [HT0.out, if_pos hb])
        clear hb
        refine HTK.out.mono ?_
        rintro e w6 ⟨rfl, hr6, hg6⟩
        have HR6 := Lib.hid hr6
        have HG6 := Lib.hid hg6
        clear hr6 hg6
        go_wp2
        go_roundg m.tail.length
        case measure => omega
        case rel => exact ⟨by omega, m.tail, acc ++ [.chain c], rfl, HR6.out, grown_trans HG5.out HG6.out, H5.out.grown HG6.out HH.out.far, HS.out, by simp; omega, HH.out.far⟩
      | false =>
        have HTK := Lib.hid (take_no bd m 124 w5 HR5.out hb)
        have HS := Lib.hid (show t = some (acc ++ [.chain c], m) by rw [HT0.out, hb]; rfl)
        clear hb
        refine HTK.out.mono ?_
        rintro e w6 ⟨rfl, rfl⟩
        go_wp2
        go_ret2
        rw [HS.out]
        obtain ⟨o', c', hv⟩ := H5.out.length
        subst hv
        obtain ⟨ws, k1, k2, k3, k4⟩ := H5.out.sees
        exact ⟨_, rfl, .choice o' _ c' ws _ k1 k2 (by simp; omega) k3 k4, HR5.out, HG5.out⟩
end Go.Proofs.Ytfpdhmecomgbdaa
