/- Patterns: a class. -/
import Derived.Test.YtfpdhmecomgbdaaPc
import Derived.Deep.LoopGhost
namespace Go.Proofs.Ytfpdhmecomgbdaa
open Go.RowKit

theorem info92 : (Try.prog.info? 92).map (fun i => (i.zero, i.size, i.bytes)) = some (some (.agg #[.int .i32 0, .int .i32 0]), 2, 8) := by kernel_rfl
/-- The cells of items. -/
def flatI (xs : List (Int × Int)) : List Value := xs.flatMap fun x => [.int .i32 x.1, .int .i32 x.2]
theorem flatI_snoc (xs : List (Int × Int)) (x : Int × Int) : flatI (xs ++ [x]) = flatI xs ++ [.int .i32 x.1, .int .i32 x.2] := by simp [flatI]
theorem flatI_at : ∀ (xs : List (Int × Int)) (j : Nat) (x : Int × Int), xs[j]? = some x → (flatI xs)[j * 2]? = some (.int .i32 x.1) ∧ (flatI xs)[j * 2 + 1]? = some (.int .i32 x.2)
  | [], j, x, h => by simp at h
  | y :: ys, 0, x, h => by simp at h; subst h; exact ⟨rfl, rfl⟩
  | y :: ys, j + 1, x, h => by
    have := flatI_at ys j x (by simpa using h)
    have e : flatI (y :: ys) = [.int .i32 y.1, .int .i32 y.2] ++ flatI ys := rfl
    rw [e, List.getElem?_append_right (by simp; omega), List.getElem?_append_right (by simp; omega)]
    simp only [List.length_cons, List.length_nil]
    rw [show (j + 1) * 2 - (0 + 1 + 1) = j * 2 by omega, show (j + 1) * 2 + 1 - (0 + 1 + 1) = j * 2 + 1 by omega]
    exact this
theorem own_seesI {w : World} {B n : Nat} {v : Value} {xs : List (Int × Int)} (h : w.ownsRow B 92 2 v n (flatI xs)) (hn : xs.length = n) : ∃ o cap, v = .slice o n cap ∧ SeesI w (fun b => B ≤ b) o xs := by
  rcases h.2 with ⟨rfl, h0⟩ | ⟨g, cap, cur, rfl, hB, hg, _⟩
  · subst h0
    exact ⟨none, 0, rfl, .inl (List.eq_nil_of_length_eq_zero hn)⟩
  · have hl := (Array.getElem?_eq_some_iff.1 hg).1
    refine ⟨_, cap, rfl, .inr ⟨g, 0, rfl, hB, hl, fun j x hx => ?_⟩⟩
    obtain ⟨h1, h2⟩ := flatI_at xs j x hx
    have c := h.cells (g := g) rfl
    have c1 := c _ _ h1
    have c2 := c _ _ h2
    simp only [Addr.add_lit] at c1 c2
    exact ⟨c1, c2⟩
/-- How much the reader has left, by the world alone. -/
def lenAt (w : World) (bd : Nat) : Nat := match w.cell? ⟨bd, 0, none⟩ with
  | some (.slice _ n _) => n
  | _ => 0
theorem lenAt_of {w : World} {bd : Nat} {l : List Sg} (h : Rd w bd l) : lenAt w bd = l.length := by
  obtain ⟨o, cap, hc, _⟩ := h.cell
  unfold lenAt; rw [hc]
/-- What a call that reads leaves. -/
def Res (w : World) (bd : Nat) (r : Option (Pt × List Sg)) (e : Ending) (w' : World) : Prop := match r with
  | some (x, m) => ∃ v, e = .returned (.tuple #[v, .bool true]) ∧ Tree w' (fun b => w.heap.size ≤ b) v x ∧ Rd w' bd m ∧ w.grownBy w' (some bd)
  | none => ∃ v, e = .returned (.tuple #[v, .bool false]) ∧ w.grownBy w' (some bd)
theorem cells_2 (w : World) (a b : Value) (t : TypeId) : ∀ j u, [a, b][j]? = some u → (w.alloc (.cells #[a, b] t)).cell? ((⟨w.heap.size, 0, none⟩ : Addr).add j) = some u := by
  intro j u hj
  match j, hj with
  | 0, hj => simp at hj; subst hj; simp [Addr.add]
  | 1, hj => simp at hj; subst hj; simp [Addr.add]
  | j + 2, hj => simp at hj
theorem cells_2k (w : World) (a b : Value) (t : TypeId) (k : Nat) (hk : w.heap.size = k) : ∀ j u, [a, b][j]? = some u → (w.alloc (.cells #[a, b] t)).cell? ((⟨k, 0, none⟩ : Addr).add j) = some u := by
  subst hk; exact cells_2 w a b t
theorem one_2i (a b : Int) : ∀ v ∈ [Value.int .i32 a, Value.int .i32 b], v.oneCell' = true := by
  intro v hv; simp at hv; rcases hv with rfl | rfl <;> rfl

theorem own_shape {w : World} {B e size n : Nat} {v : Value} {xs : List Value} (h : w.ownsRow B e size v n xs) : ∃ o c, v = .slice o n c := by
  rcases h.2 with ⟨rfl, rfl⟩ | ⟨g, cap, cur, rfl, _⟩
  · exact ⟨_, _, rfl⟩
  · exact ⟨_, _, rfl⟩
/-- The class that is being read. -/
structure ClsAt (w0 : World) (bd kc : Nat) (neg : Bool) (t : Option (List (Int × Int) × List Sg)) (wr : World) (l : List Sg) (acc : List (Int × Int)) (v : Value) : Prop where
  rd : Rd wr bd l
  grown : w0.grownBy wr (some bd)
  box : Box wr kc (.bool neg) v 84
  own : wr.ownsRow (kc + 1) 92 2 v acc.length (flatI acc)
  same : itemsP l acc = t
  few : acc.length + l.length ≤ 1000000
  base : w0.heap.size ≤ kc
  far : bd < w0.heap.size

def ClsLoop (w0 : World) (bd kc : Nat) (neg : Bool) (t : Option (List (Int × Int) × List Sg)) (k : Nat) (wr : World) : Prop := ∃ l acc v, l.length = k ∧ ClsAt w0 bd kc neg t wr l acc v

theorem cls_append {w0 w3 w5 : World} {bd kc n : Nat} {a v : Value} {b b' : Obj} {xs : List Value} (h : Box w3 kc a v 84 ∧ w3.ownsRow (kc + 1) 92 2 v n xs ∧ w0.grownBy w3 (some bd) ∧ kc < w3.heap.size) (ho : ((w3.alloc b).alloc b').ownsRow (kc + 1) 92 2 v n xs)
    (hg : ((w3.alloc b).alloc b').grownBy w5 v.ownBlock) : Box w5 kc a v 84 := by
  have hk := h.2.2.2
  unfold Box
  rw [hg.block kc (by simp; omega) (fun e => by have := (ho.lt kc e.symm).1; omega), Below.heap_alloc _ _ _ (by simp; omega), Below.heap_alloc _ _ _ hk]
  exact h.1
theorem ClsAt.after {w0 : World} {bd kc : Nat} {neg : Bool} {t : Option (List (Int × Int) × List Sg)} {wr w3 : World} {l : List Sg} {acc : List (Int × Int)} {v : Value} (h : ClsAt w0 bd kc neg t wr l acc v) (hg : wr.grownBy w3 (some bd)) :
    Box w3 kc (.bool neg) v 84 ∧ w3.ownsRow (kc + 1) 92 2 v acc.length (flatI acc) ∧ w0.grownBy w3 (some bd) ∧ kc < w3.heap.size := by
  have hk := (Array.getElem?_eq_some_iff.1 h.box).1
  have hf := h.far
  have hb := h.base
  refine ⟨(hg.block kc hk (by simp; omega)).trans h.box, h.own.kept hg ?_, grown_trans h.grown hg, Nat.lt_of_lt_of_le hk hg.size⟩
  cases ho : v.ownBlock with
  | none => exact .inl rfl
  | some g =>
    have := (h.own.lt g ho).1
    exact .inr (by simp; omega)

theorem grown_own {a b c : World} {r : Option Nat} {v : Value} (h : a.grownBy b r) (g : b.grownBy c v.ownBlock) (hv : ∀ k, v.ownBlock = some k → a.heap.size ≤ k) : a.grownBy c r :=
  ⟨g.os.trans h.os, g.tape.trans h.tape, g.output.trans h.output, Nat.le_trans h.size g.size, fun i hi hr => (g.block i (Nat.lt_of_lt_of_le hi h.size) (fun e => by have := hv i e.symm; omega)).trans (h.block i hi hr)⟩
theorem Rd.grownOwn {w w' : World} {bd : Nat} {l : List Sg} {v : Value} (h : Rd w bd l) (g : w.grownBy w' v.ownBlock) (hv : ∀ k, v.ownBlock = some k → bd < k) : Rd w' bd l :=
  h.keep fun k hk => g.block k (Nat.lt_of_le_of_lt hk h.lt) (fun e => by have := hv k e.symm; omega)
theorem cls_next {w0 wr w3 w5 : World} {bd kc : Nat} {neg : Bool} {t : Option (List (Int × Int) × List Sg)} {s : Sg} {m m2 : List Sg} {acc : List (Int × Int)} {v u : Value} {x1 x2 : Int} {b b' : Obj}
    (h : ClsAt w0 bd kc neg t wr (s :: m) acc v) (hat : atB (s :: m) 93 = false) (hit : itemF (s :: m) = ((x1, x2), m2)) (hgt : ¬ x2 < x1) (hm : m2.length < (s :: m).length) (hr : Rd w3 bd m2)
    (ha : Box w3 kc (.bool neg) v 84 ∧ w3.ownsRow (kc + 1) 92 2 v acc.length (flatI acc) ∧ w0.grownBy w3 (some bd) ∧ kc < w3.heap.size)
    (ho : ((w3.alloc b).alloc b').ownsRow (kc + 1) 92 2 v acc.length (flatI acc))
    (h5 : w5.ownsRow (kc + 1) 92 2 u (acc.length + 1) (flatI acc ++ [.int .i32 x1, .int .i32 x2]) ∧ ((w3.alloc b).alloc b').grownBy w5 v.ownBlock) : ClsLoop w0 bd kc neg t m2.length (w5.setCell ⟨kc, 1, none⟩ u) := by
  have hfar := h.far
  have hbase := h.base
  have hown : ∀ k, v.ownBlock = some k → kc + 1 ≤ k := fun k hk => (ho.lt k hk).1
  refine ⟨m2, acc ++ [(x1, x2)], u, rfl, ?_, ?_, ?_, ?_, ?_, ?_, hbase, hfar⟩
  · exact (((hr.alloc b).alloc b').grownOwn h5.2 (fun k hk => by have := hown k hk; omega)).setNew (by omega) _ _
  · exact grown_setNew (grown_own (grown_alloc (grown_alloc ha.2.2.1 b) b') h5.2 (fun k hk => by have := hown k hk; omega)) hbase _ _
  · have := cls_append ha ho h5.2
    have h2 := heap_setCell_same w5 kc 1 _ 84 u this
    exact h2
  · rw [List.length_append, flatI_snoc]
    exact ownsRow_setCell_below h5.1 (a := ⟨kc, 1, none⟩) (Nat.lt_succ_self kc) u
  · rw [← h.same, itemsP_eq (s :: m), hat, hit]
    simp [hgt]
  · have := h.few
    simp only [List.length_append, List.length_cons, List.length_nil] at this hm ⊢
    omega

theorem cls_res {w0 wr wq : World} {bd kc na c : Nat} {o : Option Addr} {neg : Bool} {t : Option (List (Int × Int) × List Sg)} {l m : List Sg} {acc : List (Int × Int)}
    (h : ClsAt w0 bd kc neg t wr l acc (.slice o acc.length c)) (hn : acc.length = na) (hq : Rd wq bd m ∧ wr.grownBy wq (some bd)) :
    Res w0 bd (if 0 < na then some (.cls neg acc, m) else none) (.returned (.tuple #[.iface 84 (.agg #[.bool neg, .slice o na c]), .bool (decide (0 < na))])) wq := by
  subst hn
  obtain ⟨_, h2, h3, _⟩ := h.after hq.2
  by_cases h0 : 0 < acc.length
  · rw [if_pos h0]
    obtain ⟨o', c', e, hs⟩ := own_seesI h2 rfl
    injection e with e1 _ e3
    subst e1; subst e3
    have hb := h.base
    have hf := h.few
    exact ⟨_, by simp [h0], .cls neg o _ c acc rfl (by omega) (hs.imp id fun ⟨b, off, e, hp, r⟩ => ⟨b, off, e, by omega, r⟩), hq.1, h3⟩
  · rw [if_neg h0]
    exact ⟨.iface 84 (.agg #[.bool neg, .slice o acc.length c]), by simp [h0], h3⟩

set_option maxHeartbeats 4000000 in
set_option maxRecDepth 100000 in
theorem class_any (bd : Nat) (l : List Sg) (w : World) (h : Rd w bd l) :
    Calls Try.prog 38 #[.pointer (some ⟨bd, 0, none⟩)] w (Res w bd (classP l)) := by
  obtain ⟨ie, hi, hz0, hz1, hz2⟩ := info_parts info92
  have hlt := h.lt
  have HR := Lib.hid h
  clear h
  obtain ⟨neg, hneg⟩ : ∃ b, atB l 94 = b := ⟨_, rfl⟩
  obtain ⟨l1, hl1⟩ : ∃ m, takeB l 94 = m := ⟨_, rfl⟩
  have HT := Lib.hid (show Calls Try.prog 31 #[.pointer (some ⟨bd, 0, none⟩), .int .i32 94] w fun e w' => e = .returned (.bool neg) ∧ Hid (Rd w' bd l1 ∧ w.grownBy w' (some bd)) by
    rw [← hneg, ← hl1]; exact (take_any bd l 94 w HR.out).mono fun _ _ q => ⟨q.1, q.2⟩)
  have HNEG := Lib.hid hneg
  have HL1 := Lib.hid hl1
  clear hneg hl1
  go_enter Try.func38, Try.ntmps38
  go_wp2_with fail
  refine HT.out.mono ?_
  rintro e w1 ⟨rfl, H1⟩
  have hk := H1.out.2.size
  go_wp2_with fail
  obtain ⟨kc, hkc⟩ : ∃ kc, w1.heap.size = kc := ⟨_, rfl⟩
  obtain ⟨t, ht⟩ : ∃ t, itemsP l1 [] = t := ⟨_, rfl⟩
  have HST : ClsLoop w bd kc neg t l1.length (w1.alloc (Obj.cells #[.bool neg, .slice none 0 0] 84)) :=
    ⟨l1, [], _, rfl, H1.out.1.alloc _, grown_alloc H1.out.2 _, by rw [← hkc]; exact Array.getElem?_push_size, World.ownsRow_nil _ _ _ _, ht, by
      obtain ⟨_, _, _, hm, _⟩ := H1.out.1.cell; simpa using hm, by omega, hlt⟩
  have HTT := Lib.hid ht
  have HKC := Lib.hid hkc
  rw [hkc]
  clear ht hkc
  go_loopg [5] l1.length (fun k _ wr => ClsLoop w bd kc neg t k wr)
  case atStart => exact HST
  case round =>
    clear HST
    obtain ⟨l2, acc, v, rfl, H⟩ := hrel
    have hkl : bd < kc := Nat.lt_of_lt_of_le H.far H.base
    have hB := H.box
    obtain ⟨r0, r1, f0, f1⟩ := hB.reads
    cases hl : l2 with
    | nil =>
      subst hl
      obtain ⟨o, cap, hcell, _⟩ := H.rd.cell
      replace hcell : wr.cell? ⟨bd, 0, none⟩ = some (.slice o 0 cap) := hcell
      obtain ⟨o', c', hv⟩ := own_shape H.own
      subst hv
      obtain ⟨na, hna⟩ : ∃ n, acc.length = n := ⟨_, rfl⟩
      rw [hna] at r1
      have HTK := Lib.hid (show Calls Try.prog 31 #[.pointer (some ⟨bd, 0, none⟩), .int .i32 93] wr.drew fun e w' => e = .returned (.bool false) ∧ w'.cell? ⟨kc, 0, none⟩ = some (.bool neg) ∧ w'.cell? ⟨kc, 1, none⟩ = some (.slice o' na c') ∧ Hid (wr.grownBy w' (some bd)) by
        have hb : Below wr.heap.size wr wr.drew := (Below.refl _ _).drew
        refine (take_no bd _ 93 wr.drew (H.rd.below hb) rfl).mono fun e w' q => ?_
        obtain ⟨q1, rfl⟩ := q
        exact ⟨q1, r0, r1, grown_of_below hb (some bd)⟩)
      have HCP := Lib.hid (show classP l = none by
        unfold classP
        rw [HL1.out, HTT.out, ← H.same, itemsP_eq]
        simp [atB])
      have HG := Lib.hid H.grown
      clear H hB hna
      go_wp2_with fail
      refine wp_region_any (by kernel_rfl) ?_
      change wpAny _ _ _ _ _ _ _ (World.drew _)
      refine wpAny_take (i := 2) (v := ?_) rfl (by kernel_rfl) (by kernel_rfl) (by kernel_rfl) (fun _ _ _ h => h) (Or.inl ⟨by kernel_rfl, by intro w; go_simp; try with_reducible rfl⟩) ?_
      go_simp
      refine wpAny_ready (rs := [0, 3]) (by kernel_rfl) (by simp) ?_
      refine AllReady.cons rfl (fun K hK => ?_) (AllReady.cons rfl (fun K hK => ?_) AllReady.nil)
      · go_simp
        refine hK _ _ ?_
        clear hK K
        refine wpAny_take (i := 1) (v := ?_) rfl (by kernel_rfl) (by kernel_rfl) (by kernel_rfl) (fun _ _ _ h => h) (Or.inl ⟨by kernel_rfl, by intro w; go_simp; try with_reducible rfl⟩) ?_
        go_simp
        refine wpAny_ready (rs := [3]) (by kernel_rfl) (by simp) ?_
        refine AllReady.cons rfl (fun K hK => ?_) AllReady.nil
        go_simp
        refine HTK.out.mono ?_; rintro e wq ⟨rfl, s1, s2, s3⟩
        go_simp
        refine hK _ _ ?_
        clear hK K
        refine wpAny_take (i := 4) (v := ?_) rfl (by kernel_rfl) (by kernel_rfl) (by kernel_rfl) (fun _ _ _ h => h) (Or.inl ⟨by kernel_rfl, by intro w; go_simp; try with_reducible rfl⟩) ?_
        go_simp
        refine wpAny_take (i := 5) (v := undef) rfl (by kernel_rfl) (by kernel_rfl) (by kernel_rfl) (fun _ _ _ h => h) (Or.inr ⟨by kernel_rfl, rfl⟩) ?_
        go_simp
        refine wpAny_take (i := 6) (v := undef) rfl (by kernel_rfl) (by kernel_rfl) (by kernel_rfl) (fun _ _ _ h => h) (Or.inr ⟨by kernel_rfl, rfl⟩) ?_
        go_simp
        refine wpAny_take (i := 7) (v := undef) rfl (by kernel_rfl) (by kernel_rfl) (by kernel_rfl) (fun _ _ _ h => h) (Or.inr ⟨by kernel_rfl, rfl⟩) ?_
        go_simp
        refine wpAny_take (i := 8) (v := undef) rfl (by kernel_rfl) (by kernel_rfl) (by kernel_rfl) (fun _ _ _ h => h) (Or.inr ⟨by kernel_rfl, rfl⟩) ?_
        go_simp
        refine wpAny_take (i := 9) (v := ?_) rfl (by kernel_rfl) (by kernel_rfl) (by kernel_rfl) (fun _ _ _ h => h) (Or.inl ⟨by kernel_rfl, by intro w; go_simp; try with_reducible rfl⟩) ?_
        go_simp
        refine wpAny_take (i := 10) (v := ?_) rfl (by kernel_rfl) (by kernel_rfl) (by kernel_rfl) (fun _ _ _ h => h) (Or.inl ⟨by kernel_rfl, by intro w; go_simp; try with_reducible rfl⟩) ?_
        go_simp
        refine wpAny_take (i := 11) (v := ?_) rfl (by kernel_rfl) (by kernel_rfl) (by kernel_rfl) (fun _ _ _ h => h) (Or.inl ⟨by kernel_rfl, by intro w; go_simp; try with_reducible rfl⟩) ?_
        go_simp
        refine wpAny_done (by kernel_rfl) ?_ _
        go_wp2
        go_ret2
        rw [HCP.out]
        exact ⟨_, rfl, grown_trans HG.out s3.out⟩
      · go_simp
        refine HTK.out.mono ?_; rintro e wq ⟨rfl, s1, s2, s3⟩
        go_simp
        refine hK _ _ ?_
        clear hK K
        refine wpAny_take (i := 4) (v := ?_) rfl (by kernel_rfl) (by kernel_rfl) (by kernel_rfl) (fun _ _ _ h => h) (Or.inl ⟨by kernel_rfl, by intro w; go_simp; try with_reducible rfl⟩) ?_
        go_simp
        refine wpAny_take (i := 5) (v := undef) rfl (by kernel_rfl) (by kernel_rfl) (by kernel_rfl) (fun _ _ _ h => h) (Or.inr ⟨by kernel_rfl, rfl⟩) ?_
        go_simp
        refine wpAny_take (i := 6) (v := undef) rfl (by kernel_rfl) (by kernel_rfl) (by kernel_rfl) (fun _ _ _ h => h) (Or.inr ⟨by kernel_rfl, rfl⟩) ?_
        go_simp
        refine wpAny_take (i := 7) (v := undef) rfl (by kernel_rfl) (by kernel_rfl) (by kernel_rfl) (fun _ _ _ h => h) (Or.inr ⟨by kernel_rfl, rfl⟩) ?_
        go_simp
        refine wpAny_take (i := 8) (v := undef) rfl (by kernel_rfl) (by kernel_rfl) (by kernel_rfl) (fun _ _ _ h => h) (Or.inr ⟨by kernel_rfl, rfl⟩) ?_
        go_simp
        refine wpAny_take (i := 9) (v := ?_) rfl (by kernel_rfl) (by kernel_rfl) (by kernel_rfl) (fun _ _ _ h => h) (Or.inl ⟨by kernel_rfl, by intro w; go_simp; try with_reducible rfl⟩) ?_
        go_simp
        refine wpAny_ready (rs := [0]) (by kernel_rfl) (by simp) ?_
        refine AllReady.cons rfl (fun K hK => ?_) AllReady.nil
        go_simp
        refine hK _ _ ?_
        clear hK K
        refine wpAny_take (i := 1) (v := ?_) rfl (by kernel_rfl) (by kernel_rfl) (by kernel_rfl) (fun _ _ _ h => h) (Or.inl ⟨by kernel_rfl, by intro w; go_simp; try with_reducible rfl⟩) ?_
        go_simp
        refine wpAny_take (i := 10) (v := ?_) rfl (by kernel_rfl) (by kernel_rfl) (by kernel_rfl) (fun _ _ _ h => h) (Or.inl ⟨by kernel_rfl, by intro w; go_simp; try with_reducible rfl⟩) ?_
        go_simp
        refine wpAny_take (i := 11) (v := ?_) rfl (by kernel_rfl) (by kernel_rfl) (by kernel_rfl) (fun _ _ _ h => h) (Or.inl ⟨by kernel_rfl, by intro w; go_simp; try with_reducible rfl⟩) ?_
        go_simp
        refine wpAny_done (by kernel_rfl) ?_ _
        go_wp2
        go_ret2
        rw [HCP.out]
        exact ⟨_, rfl, grown_trans HG.out s3.out⟩
    | cons s m =>
      subst hl
      obtain ⟨o, cap, hcell, hm, _, _⟩ := H.rd.cell
      obtain ⟨n, hn⟩ : ∃ n, (s :: m).length = n := ⟨_, rfl⟩
      have i0 : (0 : Int) < n := by rw [← hn]; simp
      rw [hn] at hcell
      have HN := Lib.hid hn
      have HH := Lib.hid H
      clear hn H hB hm
      cases hat : atB (s :: m) 93 with
      | true =>
        have HAT := Lib.hid hat
        obtain ⟨o', c', hv⟩ := own_shape HH.out.own
        subst hv
        have hal := HH.out.few
        obtain ⟨na, hna⟩ : ∃ n, acc.length = n := ⟨_, rfl⟩
        rw [hna] at r1
        have hals : na ≤ 1000000 := by omega
        have HTK := Lib.hid (show Calls Try.prog 31 #[.pointer (some ⟨bd, 0, none⟩), .int .i32 93] wr.drew fun e w' => e = .returned (.bool true) ∧ w'.cell? ⟨kc, 0, none⟩ = some (.bool neg) ∧ w'.cell? ⟨kc, 1, none⟩ = some (.slice o' na c') ∧ Hid (Rd w' bd m ∧ wr.grownBy w' (some bd)) by
          have hb : Below wr.heap.size wr wr.drew := (Below.refl _ _).drew
          refine (take_yes bd _ 93 wr.drew (HH.out.rd.below hb) hat).mono fun e w' q => ?_
          have hg := grown_trans (grown_of_below hb (some bd)) q.2.2
          have hbx := (HH.out.after hg).1
          rw [hna] at hbx
          exact ⟨q.1, hbx.reads.1, hbx.reads.2.1, q.2.1, hg⟩)
        have HNA := Lib.hid hna
        have HCP := Lib.hid (show classP l = if 0 < na then some (.cls neg acc, m) else none by
          unfold classP
          rw [HL1.out, HTT.out, ← HH.out.same, itemsP_eq, HAT.out, HNEG.out]
          simp [HAT.out, HNA.out])
        clear hat hal hna
        go_wp2_with fail
        refine (at_is bd _ 93 true HAT.out _ HH.out.rd).mono ?_
        rintro e w2 ⟨rfl, rfl⟩
        go_wp2_with fail
        go_region_held3 (fun w' => w'.cell? ⟨kc, 0, none⟩ = some (.bool neg) ∧ w'.cell? ⟨kc, 1, none⟩ = some (.slice o' na c')) (first | exact ⟨s1, s2⟩ | exact ⟨r0, r1⟩) (first | (go_at_call 31; refine HTK.out.mono ?_; rintro e wq ⟨rfl, s1, s2, s3⟩))
        go_wp2
        go_ret2
        rw [HCP.out]
        exact cls_res HH.out HNA.out s3.out
      | false =>
        have HAT := Lib.hid hat
        clear hat
        go_wp2_with fail
        refine (at_is bd _ 93 false HAT.out _ HH.out.rd).mono ?_
        rintro e w2 ⟨rfl, rfl⟩
        obtain ⟨⟨⟨x1, x2⟩, m2⟩, hit⟩ : ∃ p, itemF (s :: m) = p := ⟨_, rfl⟩
        have HI := Lib.hid (show Calls Try.prog 40 #[.pointer (some ⟨bd, 0, none⟩)] wr fun e w' => e = .returned (.agg #[.int .i32 x1, .int .i32 x2]) ∧ Hid (Rd w' bd m2 ∧ wr.grownBy w' (some bd)) by
          have := item_any bd s m _ HH.out.rd
          rw [hit] at this
          exact this.mono fun _ _ q => q)
        have HIT := Lib.hid hit
        have hml := itemF_lt (s :: m) (by simp)
        rw [hit] at hml
        have HML := Lib.hid hml
        clear hit hml
        go_wp2_with fail
        refine HI.out.mono ?_
        rintro e w3 ⟨rfl, H3⟩
        have HA := Lib.hid (HH.out.after H3.out.2)
        clear r0 r1 f0 f1 hcell
        obtain ⟨r0, r1, f0, f1⟩ := HA.out.1.reads
        have hkc3 := HA.out.2.2.2
        by_cases hgt : x2 < x1
        · have HT0 := Lib.hid (show t = none by
            rw [← HH.out.same, itemsP_eq, HAT.out, HIT.out]; simp [hgt])
          have HCP := Lib.hid (show classP l = none by unfold classP; rw [HL1.out, HTT.out, HT0.out])
          go_wp2
          go_ret2
          rw [HCP.out]
          exact ⟨_, rfl, grown_alloc HA.out.2.2.1 _⟩
        · have hO := (HA.out.2.1.alloc (Obj.cells #[Value.int .i32 x1, Value.int .i32 x2] 92)).alloc (Obj.cells #[Value.int .i32 x1, Value.int .i32 x2] 92)
          have hfw := HH.out.few
          simp only [List.length_cons] at hfw
          have HO := Lib.hid hO
          clear hO
          go_wp2_with (at_builtin; go_must (refine wpList_append_own _ rfl _ _ 82 rfl (kc + 1) 92 ie (.agg #[.int .i32 0, .int .i32 0]) 2 8 Try.underlying82 hi hz0 hz1 hz2 rfl (by decide) _ _ _ rfl HO.out ⟨w3.heap.size + 1, 0, none⟩ 1 1 [.int .i32 x1, .int .i32 x2] rfl rfl (cells_2k _ _ _ _ _ (by simp)) (one_2i _ _) (by unfold maxLen; omega) (by omega) (by simp; omega) ?_); intro v' w5 hown' hgrow' _; replace hgrow' : World.grownBy _ w5 v.ownBlock := hgrow'; have H5 := Lib.hid (And.intro hown' hgrow'); obtain ⟨o', c', hv'⟩ := own_shape hown'; subst hv'; clear hown' hgrow'; obtain ⟨r0, r1, f0, f1⟩ := (cls_append HA.out HO.out H5.out.2).reads)
          go_roundg m2.length
          case measure => exact HML.out
          case rel =>
            exact cls_next HH.out HAT.out HIT.out (Int.not_lt.2 hgt) HML.out H3.out.1 HA.out HO.out H5.out
end Go.Proofs.Ytfpdhmecomgbdaa
