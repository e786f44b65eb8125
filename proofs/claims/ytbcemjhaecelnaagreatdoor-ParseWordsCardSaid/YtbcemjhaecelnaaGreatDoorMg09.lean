import Derived.Test.YtbcemjhaecelnaaGreatDoorMg08
import Derived.Deep.LoopGhost
import Derived.Test.YtbcemjhaecelnaaGreatDoorMg02
import Derived.Lib.MapLaws
import Derived.Laws.Cover4
import Derived.Laws.IdiomStrings
section
set_option maxHeartbeats 4000000
set_option maxRecDepth 100000
section
namespace Go.Proofs.YtbcemjhaecelnaaGreatDoor.Pat
open Go.RowKit
theorem info92 : (Tryz.prog.info? 260).map (fun i => (i.zero, i.size, i.bytes)) = some (some (.agg #[.int .i32 0, .int .i32 0]), 2, 8) := by kernel_rfl
def zdA (xs : List (Int × Int)) : List Value := xs.flatMap fun x => [.int .i32 x.1, .int .i32 x.2]
theorem flatI_snoc (xs : List (Int × Int)) (x : Int × Int) : zdA (xs ++ [x]) = zdA xs ++ [.int .i32 x.1, .int .i32 x.2] := by simp [zdA]
theorem zhb : ∀ (xs : List (Int × Int)) (j : Nat) (x : Int × Int), xs[j]? = some x -> (zdA xs)[j * 2]? = some (.int .i32 x.1) /\ (zdA xs)[j * 2 + 1]? = some (.int .i32 x.2)
 | [], j, x, h => by simp at h
 | y :: ys, 0, x, h => by simp at h; subst h; exact ⟨rfl, rfl⟩
 | y :: ys, j + 1, x, h => by
   have := zhb ys j x (by simpa using h)
   have e : zdA (y :: ys) = [.int .i32 y.1, .int .i32 y.2] ++ zdA ys := rfl
   rw [e, List.getElem?_append_right (by simp; omega), List.getElem?_append_right (by simp; omega)]
   simp only [List.length_cons, List.length_nil]
   rw [show (j + 1) * 2 - (0 + 1 + 1) = j * 2 by omega, show (j + 1) * 2 + 1 - (0 + 1 + 1) = j * 2 + 1 by omega]
   exact this
theorem own_seesI {w : World} {B n : Nat} {v : Value} {xs : List (Int × Int)} (h : w.ownsRow B 260 2 v n (zdA xs)) (hn : xs.length = n) : ∃ o cap, v = .slice o n cap /\ zhA w (fun b => B <= b) o xs := by
 rcases h.2 with ⟨rfl, h0⟩ | ⟨g, cap, cur, rfl, hB, hg, _⟩
 ·subst h0
  exact ⟨none, 0, rfl, .inl (List.eq_nil_of_length_eq_zero hn)⟩
 ·have hl := (Array.getElem?_eq_some_iff.1 hg).1
  refine ⟨_, cap, rfl, .inr ⟨g, 0, rfl, hB, hl, fun j x hx => ?_⟩⟩
  obtain ⟨h1, h2⟩ := zhb xs j x hx
  have c := h.cells (g := g) rfl
  have c1 := c _ _ h1
  have c2 := c _ _ h2
  simp only [Addr.add_lit] at c1 c2
  exact ⟨c1, c2⟩
def Res (w : World) (bd : Nat) (r : Option (Pt × List Sg)) (e : Ending) (w' : World) : Prop := match r with
 | some (x, m) => ∃ v, e = .returned (.tuple #[v, .bool true]) /\ Tree w' (fun b => w.heap.size <= b) v x /\ Rd w' bd m /\ w.grownBy w' (some bd)
 | none => ∃ v, e = .returned (.tuple #[v, .bool false]) /\ w.grownBy w' (some bd)
theorem zhB (w : World) (a b : Value) (t : TypeId) : ∀ j u, [a, b][j]? = some u -> (w.alloc (.cells #[a, b] t)).cell? ((⟨w.heap.size, 0, none⟩ : Addr).add j) = some u := by
 intro j u hj
 match j, hj with
 | 0, hj => simp at hj; subst hj; simp [Addr.add]
 | 1, hj => simp at hj; subst hj; simp [Addr.add]
 | j + 2, hj => simp at hj
theorem cells_2k (w : World) (a b : Value) (t : TypeId) (k : Nat) (hk : w.heap.size = k) : ∀ j u, [a, b][j]? = some u -> (w.alloc (.cells #[a, b] t)).cell? ((⟨k, 0, none⟩ : Addr).add j) = some u := by
 subst hk; exact zhB w a b t
theorem one_2i (a b : Int) : ∀ v ∈ [Value.int .i32 a, Value.int .i32 b], v.oneCell' = true := by
 intro v hv; simp at hv; rcases hv with rfl | rfl <;> rfl
theorem own_shape {w : World} {B e size n : Nat} {v : Value} {xs : List Value} (h : w.ownsRow B e size v n xs) : ∃ o c, v = .slice o n c := by
 rcases h.2 with ⟨rfl, rfl⟩ | ⟨g, cap, cur, rfl, _⟩
 ·exact ⟨_, _, rfl⟩
 ·exact ⟨_, _, rfl⟩
structure ClsAt (w0 : World) (bd kc : Nat) (neg : Bool) (t : Option (List (Int × Int) × List Sg)) (wr : World) (l : List Sg) (acc : List (Int × Int)) (v : Value) : Prop where
 rd : Rd wr bd l
 grown : w0.grownBy wr (some bd)
 box : Box wr kc (.bool neg) v 258
 own : wr.ownsRow (kc + 1) 260 2 v acc.length (zdA acc)
 same : zds l acc = t
 few : acc.length + l.length <= 1000000
 base : w0.heap.size <= kc
 far : bd < w0.heap.size
def zgA (w0 : World) (bd kc : Nat) (neg : Bool) (t : Option (List (Int × Int) × List Sg)) (k : Nat) (wr : World) : Prop := ∃ l acc v, l.length = k /\ ClsAt w0 bd kc neg t wr l acc v
theorem zfa {w0 w3 w5 : World} {bd kc n : Nat} {a v : Value} {b b' : Obj} {xs : List Value} (h : Box w3 kc a v 258 /\ w3.ownsRow (kc + 1) 260 2 v n xs /\ w0.grownBy w3 (some bd) /\ kc < w3.heap.size) (ho : ((w3.alloc b).alloc b').ownsRow (kc + 1) 260 2 v n xs)
 (hg : ((w3.alloc b).alloc b').grownBy w5 v.ownBlock) : Box w5 kc a v 258 := by
 have hk := h.2.2.2
 unfold Box
 rw [hg.block kc (by simp; omega) (fun e => by have := (ho.lt kc e.symm).1; omega), Below.heap_alloc _ _ _ (by simp; omega), Below.heap_alloc _ _ _ hk]
 exact h.1
theorem ClsAt.after {w0 : World} {bd kc : Nat} {neg : Bool} {t : Option (List (Int × Int) × List Sg)} {wr w3 : World} {l : List Sg} {acc : List (Int × Int)} {v : Value} (h : ClsAt w0 bd kc neg t wr l acc v) (hg : wr.grownBy w3 (some bd)) :
 Box w3 kc (.bool neg) v 258 /\ w3.ownsRow (kc + 1) 260 2 v acc.length (zdA acc) /\ w0.grownBy w3 (some bd) /\ kc < w3.heap.size := by
 have hk := (Array.getElem?_eq_some_iff.1 h.box).1
 have hf := h.far
 have hb := h.base
 refine ⟨(hg.block kc hk (by simp; omega)).trans h.box, h.own.kept hg ?_, grown_trans h.grown hg, Nat.lt_of_lt_of_le hk hg.size⟩
 cases ho : v.ownBlock with
 | none => exact .inl rfl
 | some g =>
   have := (h.own.lt g ho).1
   exact .inr (by simp; omega)
theorem grown_own {a b c : World} {r : Option Nat} {v : Value} (h : a.grownBy b r) (g : b.grownBy c v.ownBlock) (hv : ∀ k, v.ownBlock = some k -> a.heap.size <= k) : a.grownBy c r :=
 ⟨g.os.trans h.os, g.tape.trans h.tape, g.output.trans h.output, Nat.le_trans h.size g.size, fun i hi hr => (g.block i (Nat.lt_of_lt_of_le hi h.size) (fun e => by have := hv i e.symm; omega)).trans (h.block i hi hr)⟩
theorem Rd.grownOwn {w w' : World} {bd : Nat} {l : List Sg} {v : Value} (h : Rd w bd l) (g : w.grownBy w' v.ownBlock) (hv : ∀ k, v.ownBlock = some k -> bd < k) : Rd w' bd l :=
 h.keep fun k hk => g.block k (Nat.lt_of_le_of_lt hk h.lt) (fun e => by have := hv k e.symm; omega)
theorem cls_next {w0 wr w3 w5 : World} {bd kc : Nat} {neg : Bool} {t : Option (List (Int × Int) × List Sg)} {s : Sg} {m m2 : List Sg} {acc : List (Int × Int)} {v u : Value} {x1 x2 : Int} {b b' : Obj}
 (h : ClsAt w0 bd kc neg t wr (s :: m) acc v) (hat : atB (s :: m) 93 = false) (hit : zbN (s :: m) = ((x1, x2), m2)) (hgt : ¬ x2 < x1) (hm : m2.length < (s :: m).length) (hr : Rd w3 bd m2)
 (ha : Box w3 kc (.bool neg) v 258 /\ w3.ownsRow (kc + 1) 260 2 v acc.length (zdA acc) /\ w0.grownBy w3 (some bd) /\ kc < w3.heap.size)
 (ho : ((w3.alloc b).alloc b').ownsRow (kc + 1) 260 2 v acc.length (zdA acc))
 (h5 : w5.ownsRow (kc + 1) 260 2 u (acc.length + 1) (zdA acc ++ [.int .i32 x1, .int .i32 x2]) /\ ((w3.alloc b).alloc b').grownBy w5 v.ownBlock) : zgA w0 bd kc neg t m2.length (w5.setCell ⟨kc, 1, none⟩ u) := by
 have hfar := h.far
 have hbase := h.base
 have hown : ∀ k, v.ownBlock = some k -> kc + 1 <= k := fun k hk => (ho.lt k hk).1
 refine ⟨m2, acc ++ [(x1, x2)], u, rfl, ?_, ?_, ?_, ?_, ?_, ?_, hbase, hfar⟩
 ·exact (((hr.alloc b).alloc b').grownOwn h5.2 (fun k hk => by have := hown k hk; omega)).setNew (by omega) _ _
 ·exact grown_setNew (grown_own (grown_alloc (grown_alloc ha.2.2.1 b) b') h5.2 (fun k hk => by have := hown k hk; omega)) hbase _ _
 ·have := zfa ha ho h5.2
  have h2 := heap_setCell_same w5 kc 1 _ 258 u this
  exact h2
 ·rw [List.length_append, flatI_snoc]
  exact ownsRow_setCell_below h5.1 (a := ⟨kc, 1, none⟩) (Nat.lt_succ_self kc) u
 ·rw [<- h.same, zc9 (s :: m), hat, hit]
  simp [hgt]
 ·have := h.few
  simp only [List.length_append, List.length_cons, List.length_nil] at this hm ⊢
  omega
theorem cls_res {w0 wr wq : World} {bd kc na c : Nat} {o : Option Addr} {neg : Bool} {t : Option (List (Int × Int) × List Sg)} {l m : List Sg} {acc : List (Int × Int)}
 (h : ClsAt w0 bd kc neg t wr l acc (.slice o acc.length c)) (hn : acc.length = na) (hq : Rd wq bd m /\ wr.grownBy wq (some bd)) :
 Res w0 bd (if 0 < na then some (.cls neg acc, m) else none) (.returned (.tuple #[.iface 258 (.agg #[.bool neg, .slice o na c]), .bool (decide (0 < na))])) wq := by
 subst hn
 obtain ⟨_, h2, h3, _⟩ := h.after hq.2
 by_cases h0 : 0 < acc.length
 ·rw [if_pos h0]
  obtain ⟨o', c', e, hs⟩ := own_seesI h2 rfl
  injection e with e1 _ e3
  subst e1; subst e3
  have hb := h.base
  have hf := h.few
  exact ⟨_, by simp [h0], .cls neg o _ c acc rfl (by omega) (hs.imp id fun ⟨b, off, e, hp, r⟩ => ⟨b, off, e, by omega, r⟩), hq.1, h3⟩
 ·rw [if_neg h0]
  exact ⟨.iface 258 (.agg #[.bool neg, .slice o acc.length c]), by simp [h0], h3⟩
theorem class_any (bd : Nat) (l : List Sg) (w : World) (h : Rd w bd l) :
 Calls Tryz.prog 193 #[.pointer (some ⟨bd, 0, none⟩)] w (Res w bd (zbx l)) := by
 obtain ⟨ie, hi, hz0, hz1, hz2⟩ := info_parts info92
 have hlt := h.lt
 have HR := zh h
 clear h
 obtain ⟨neg, hneg⟩ : ∃ b, atB l 94 = b := ⟨_, rfl⟩
 obtain ⟨l1, hl1⟩ : ∃ m, zeJ l 94 = m := ⟨_, rfl⟩
 have HT := zh (show Calls Tryz.prog 186 #[.pointer (some ⟨bd, 0, none⟩), .int .i32 94] w fun e w' => e = .returned (.bool neg) /\ Hid (Rd w' bd l1 /\ w.grownBy w' (some bd)) by
  rw [<- hneg, <- hl1]; exact (take_any bd l 94 w HR.out).mono fun _ _ q => ⟨q.1, q.2⟩)
 have HNEG := zh hneg
 have HL1 := zh hl1
 clear hneg hl1
 go_enter Tryz.func193, Tryz.ntmps193
 go_wp2_with fail
 refine HT.out.mono ?_
 rintro e w1 ⟨rfl, H1⟩
 have hk := H1.out.2.size
 go_wp2_with fail
 obtain ⟨kc, hkc⟩ : ∃ kc, w1.heap.size = kc := ⟨_, rfl⟩
 obtain ⟨t, ht⟩ : ∃ t, zds l1 [] = t := ⟨_, rfl⟩
 have HST : zgA w bd kc neg t l1.length (w1.alloc (Obj.cells #[.bool neg, .slice none 0 0] 258)) :=
  ⟨l1, [], _, rfl, H1.out.1.alloc _, grown_alloc H1.out.2 _, by rw [<- hkc]; exact Array.getElem?_push_size, World.ownsRow_nil _ _ _ _, ht, by
   obtain ⟨_, _, _, hm, _⟩ := H1.out.1.cell; simpa using hm, by omega, hlt⟩
 have HTT := zh ht
 have HKC := zh hkc
 rw [hkc]
 clear ht hkc
 go_loopg [5] l1.length (fun k _ wr => zgA w bd kc neg t k wr)
 case atStart => exact HST
 case round =>
  clear HST
  obtain ⟨l2, acc, v, rfl, H⟩ := hrel
  have hkl : bd < kc := Nat.lt_of_lt_of_le H.far H.base
  have hB := H.box
  obtain ⟨r0, r1, f0, f1⟩ := hB.reads
  cases hl : l2 with
  | nil =>
    subst hl
    obtain ⟨o, cap, hcell, _⟩ := H.rd.cell
    replace hcell : wr.cell? ⟨bd, 0, none⟩ = some (.slice o 0 cap) := hcell
    obtain ⟨o', c', hv⟩ := own_shape H.own
    subst hv
    obtain ⟨na, hna⟩ : ∃ n, acc.length = n := ⟨_, rfl⟩
    rw [hna] at r1
    have HTK := zh (show Calls Tryz.prog 186 #[.pointer (some ⟨bd, 0, none⟩), .int .i32 93] wr.drew fun e w' => e = .returned (.bool false) /\ w'.cell? ⟨kc, 0, none⟩ = some (.bool neg) /\ w'.cell? ⟨kc, 1, none⟩ = some (.slice o' na c') /\ Hid (wr.grownBy w' (some bd)) by
     have hb : Below wr.heap.size wr wr.drew := (Below.refl _ _).drew
     refine (take_no bd _ 93 wr.drew (H.rd.below hb) rfl).mono fun e w' q => ?_
     obtain ⟨q1, rfl⟩ := q
     exact ⟨q1, r0, r1, grown_of_below hb (some bd)⟩)
    have HCP := zh (show zbx l = none by
     unfold zbx
     rw [HL1.out, HTT.out, <- H.same, zc9]
     simp [atB])
    have HG := zh H.grown
    clear H hB hna
    go_wp2_with fail
    refine wp_region_any (by kernel_rfl) ?_
    change wpAny _ _ _ _ _ _ _ (World.drew _)
    refine wpAny_take (i := 2) (v := ?_) rfl (by kernel_rfl) (by kernel_rfl) (by kernel_rfl) (fun _ _ _ h => h) (Or.inl ⟨by kernel_rfl, by intro w; go_simp; try with_reducible rfl⟩) ?_
    go_simp
    refine wpAny_ready (rs := [0, 3]) (by kernel_rfl) (by simp) ?_
    refine AllReady.cons rfl (fun K hK => ?_) (AllReady.cons rfl (fun K hK => ?_) AllReady.nil)
    ·go_simp
     refine hK _ _ ?_
     clear hK K
     refine wpAny_take (i := 1) (v := ?_) rfl (by kernel_rfl) (by kernel_rfl) (by kernel_rfl) (fun _ _ _ h => h) (Or.inl ⟨by kernel_rfl, by intro w; go_simp; try with_reducible rfl⟩) ?_
     go_simp
     refine wpAny_ready (rs := [3]) (by kernel_rfl) (by simp) ?_
     refine AllReady.cons rfl (fun K hK => ?_) AllReady.nil
     go_simp
     refine HTK.out.mono ?_; rintro e wq ⟨rfl, s1, s2, s3⟩
     go_simp
     refine hK _ _ ?_
     clear hK K
     refine wpAny_take (i := 4) (v := ?_) rfl (by kernel_rfl) (by kernel_rfl) (by kernel_rfl) (fun _ _ _ h => h) (Or.inl ⟨by kernel_rfl, by intro w; go_simp; try with_reducible rfl⟩) ?_
     go_simp
     refine wpAny_take (i := 5) (v := undef) rfl (by kernel_rfl) (by kernel_rfl) (by kernel_rfl) (fun _ _ _ h => h) (Or.inr ⟨by kernel_rfl, rfl⟩) ?_
     go_simp
     refine wpAny_take (i := 6) (v := undef) rfl (by kernel_rfl) (by kernel_rfl) (by kernel_rfl) (fun _ _ _ h => h) (Or.inr ⟨by kernel_rfl, rfl⟩) ?_
     go_simp
     refine wpAny_take (i := 7) (v := undef) rfl (by kernel_rfl) (by kernel_rfl) (by kernel_rfl) (fun _ _ _ h => h) (Or.inr ⟨by kernel_rfl, rfl⟩) ?_
     go_simp
     refine wpAny_take (i := 8) (v := undef) rfl (by kernel_rfl) (by kernel_rfl) (by kernel_rfl) (fun _ _ _ h => h) (Or.inr ⟨by kernel_rfl, rfl⟩) ?_
     go_simp
     refine wpAny_take (i := 9) (v := ?_) rfl (by kernel_rfl) (by kernel_rfl) (by kernel_rfl) (fun _ _ _ h => h) (Or.inl ⟨by kernel_rfl, by intro w; go_simp; try with_reducible rfl⟩) ?_
     go_simp
     refine wpAny_take (i := 10) (v := ?_) rfl (by kernel_rfl) (by kernel_rfl) (by kernel_rfl) (fun _ _ _ h => h) (Or.inl ⟨by kernel_rfl, by intro w; go_simp; try with_reducible rfl⟩) ?_
     go_simp
     refine wpAny_take (i := 11) (v := ?_) rfl (by kernel_rfl) (by kernel_rfl) (by kernel_rfl) (fun _ _ _ h => h) (Or.inl ⟨by kernel_rfl, by intro w; go_simp; try with_reducible rfl⟩) ?_
     go_simp
     refine wpAny_done (by kernel_rfl) ?_ _
     go_wp2
     go_ret2
     rw [HCP.out]
     exact ⟨_, rfl, grown_trans HG.out s3.out⟩
    ·go_simp
     refine HTK.out.mono ?_; rintro e wq ⟨rfl, s1, s2, s3⟩
     go_simp
     refine hK _ _ ?_
     clear hK K
     refine wpAny_take (i := 4) (v := ?_) rfl (by kernel_rfl) (by kernel_rfl) (by kernel_rfl) (fun _ _ _ h => h) (Or.inl ⟨by kernel_rfl, by intro w; go_simp; try with_reducible rfl⟩) ?_
     go_simp
     refine wpAny_take (i := 5) (v := undef) rfl (by kernel_rfl) (by kernel_rfl) (by kernel_rfl) (fun _ _ _ h => h) (Or.inr ⟨by kernel_rfl, rfl⟩) ?_
     go_simp
     refine wpAny_take (i := 6) (v := undef) rfl (by kernel_rfl) (by kernel_rfl) (by kernel_rfl) (fun _ _ _ h => h) (Or.inr ⟨by kernel_rfl, rfl⟩) ?_
     go_simp
     refine wpAny_take (i := 7) (v := undef) rfl (by kernel_rfl) (by kernel_rfl) (by kernel_rfl) (fun _ _ _ h => h) (Or.inr ⟨by kernel_rfl, rfl⟩) ?_
     go_simp
     refine wpAny_take (i := 8) (v := undef) rfl (by kernel_rfl) (by kernel_rfl) (by kernel_rfl) (fun _ _ _ h => h) (Or.inr ⟨by kernel_rfl, rfl⟩) ?_
     go_simp
     refine wpAny_take (i := 9) (v := ?_) rfl (by kernel_rfl) (by kernel_rfl) (by kernel_rfl) (fun _ _ _ h => h) (Or.inl ⟨by kernel_rfl, by intro w; go_simp; try with_reducible rfl⟩) ?_
     go_simp
     refine wpAny_ready (rs := [0]) (by kernel_rfl) (by simp) ?_
     refine AllReady.cons rfl (fun K hK => ?_) AllReady.nil
     go_simp
     refine hK _ _ ?_
     clear hK K
     refine wpAny_take (i := 1) (v := ?_) rfl (by kernel_rfl) (by kernel_rfl) (by kernel_rfl) (fun _ _ _ h => h) (Or.inl ⟨by kernel_rfl, by intro w; go_simp; try with_reducible rfl⟩) ?_
     go_simp
     refine wpAny_take (i := 10) (v := ?_) rfl (by kernel_rfl) (by kernel_rfl) (by kernel_rfl) (fun _ _ _ h => h) (Or.inl ⟨by kernel_rfl, by intro w; go_simp; try with_reducible rfl⟩) ?_
     go_simp
     refine wpAny_take (i := 11) (v := ?_) rfl (by kernel_rfl) (by kernel_rfl) (by kernel_rfl) (fun _ _ _ h => h) (Or.inl ⟨by kernel_rfl, by intro w; go_simp; try with_reducible rfl⟩) ?_
     go_simp
     refine wpAny_done (by kernel_rfl) ?_ _
     go_wp2
     go_ret2
     rw [HCP.out]
     exact ⟨_, rfl, grown_trans HG.out s3.out⟩
  | cons s m =>
    subst hl
    obtain ⟨o, cap, hcell, hm, _, _⟩ := H.rd.cell
    obtain ⟨n, hn⟩ : ∃ n, (s :: m).length = n := ⟨_, rfl⟩
    have i0 : (0 : Int) < n := by rw [<- hn]; simp
    rw [hn] at hcell
    have HN := zh hn
    have HH := zh H
    clear hn H hB hm
    cases hat : atB (s :: m) 93 with
    | true =>
      have HAT := zh hat
      obtain ⟨o', c', hv⟩ := own_shape HH.out.own
      subst hv
      have hal := HH.out.few
      obtain ⟨na, hna⟩ : ∃ n, acc.length = n := ⟨_, rfl⟩
      rw [hna] at r1
      have hals : na <= 1000000 := by omega
      have HTK := zh (show Calls Tryz.prog 186 #[.pointer (some ⟨bd, 0, none⟩), .int .i32 93] wr.drew fun e w' => e = .returned (.bool true) /\ w'.cell? ⟨kc, 0, none⟩ = some (.bool neg) /\ w'.cell? ⟨kc, 1, none⟩ = some (.slice o' na c') /\ Hid (Rd w' bd m /\ wr.grownBy w' (some bd)) by
       have hb : Below wr.heap.size wr wr.drew := (Below.refl _ _).drew
       refine (take_yes bd _ 93 wr.drew (HH.out.rd.below hb) hat).mono fun e w' q => ?_
       have hg := grown_trans (grown_of_below hb (some bd)) q.2.2
       have hbx := (HH.out.after hg).1
       rw [hna] at hbx
       exact ⟨q.1, hbx.reads.1, hbx.reads.2.1, q.2.1, hg⟩)
      have HNA := zh hna
      have HCP := zh (show zbx l = if 0 < na then some (.cls neg acc, m) else none by
       unfold zbx
       rw [HL1.out, HTT.out, <- HH.out.same, zc9, HAT.out, HNEG.out]
       simp [HAT.out, HNA.out])
      clear hat hal hna
      go_wp2_with fail
      refine (zdb bd _ 93 true HAT.out _ HH.out.rd).mono ?_
      rintro e w2 ⟨rfl, rfl⟩
      go_wp2_with fail
      go_region_held3 (fun w' => w'.cell? ⟨kc, 0, none⟩ = some (.bool neg) /\ w'.cell? ⟨kc, 1, none⟩ = some (.slice o' na c')) (first | exact ⟨s1, s2⟩ | exact ⟨r0, r1⟩) (first | (go_at_call 186; refine HTK.out.mono ?_; rintro e wq ⟨rfl, s1, s2, s3⟩))
      go_wp2
      go_ret2
      rw [HCP.out]
      exact cls_res HH.out HNA.out s3.out
    | false =>
      have HAT := zh hat
      clear hat
      go_wp2_with fail
      refine (zdb bd _ 93 false HAT.out _ HH.out.rd).mono ?_
      rintro e w2 ⟨rfl, rfl⟩
      obtain ⟨⟨⟨x1, x2⟩, m2⟩, hit⟩ : ∃ p, zbN (s :: m) = p := ⟨_, rfl⟩
      have HI := zh (show Calls Tryz.prog 195 #[.pointer (some ⟨bd, 0, none⟩)] wr fun e w' => e = .returned (.agg #[.int .i32 x1, .int .i32 x2]) /\ Hid (Rd w' bd m2 /\ wr.grownBy w' (some bd)) by
       have := item_any bd s m _ HH.out.rd
       rw [hit] at this
       exact this.mono fun _ _ q => q)
      have HIT := zh hit
      have hml := zec (s :: m) (by simp)
      rw [hit] at hml
      have HML := zh hml
      clear hit hml
      go_wp2_with fail
      refine HI.out.mono ?_
      rintro e w3 ⟨rfl, H3⟩
      have HA := zh (HH.out.after H3.out.2)
      clear r0 r1 f0 f1 hcell
      obtain ⟨r0, r1, f0, f1⟩ := HA.out.1.reads
      have hkc3 := HA.out.2.2.2
      by_cases hgt : x2 < x1
      ·have HT0 := zh (show t = none by
        rw [<- HH.out.same, zc9, HAT.out, HIT.out]; simp [hgt])
       have HCP := zh (show zbx l = none by unfold zbx; rw [HL1.out, HTT.out, HT0.out])
       go_wp2
       go_ret2
       rw [HCP.out]
       exact ⟨_, rfl, grown_alloc HA.out.2.2.1 _⟩
      ·have hO := (HA.out.2.1.alloc (Obj.cells #[Value.int .i32 x1, Value.int .i32 x2] 260)).alloc (Obj.cells #[Value.int .i32 x1, Value.int .i32 x2] 260)
       have hfw := HH.out.few
       simp only [List.length_cons] at hfw
       have HO := zh hO
       clear hO
       go_wp2_with (at_builtin; go_must (refine wpList_append_own _ rfl _ _ 256 rfl (kc + 1) 260 ie (.agg #[.int .i32 0, .int .i32 0]) 2 8 Tryz.underlying256 hi hz0 hz1 hz2 rfl (by decide) _ _ _ rfl HO.out ⟨w3.heap.size + 1, 0, none⟩ 1 1 [.int .i32 x1, .int .i32 x2] rfl rfl (cells_2k _ _ _ _ _ (by simp)) (one_2i _ _) (by unfold maxLen; omega) (by omega) (by simp; omega) ?_); intro v' w5 hown' hgrow' _; replace hgrow' : World.grownBy _ w5 v.ownBlock := hgrow'; have H5 := zh (And.intro hown' hgrow'); obtain ⟨o', c', hv'⟩ := own_shape hown'; subst hv'; clear hown' hgrow'; obtain ⟨r0, r1, f0, f1⟩ := (zfa HA.out HO.out H5.out.2).reads)
       go_roundg m2.length
       case measure => exact HML.out
       case rel =>
        exact cls_next HH.out HAT.out HIT.out (Int.not_lt.2 hgt) HML.out H3.out.1 HA.out HO.out H5.out
end Go.Proofs.YtbcemjhaecelnaaGreatDoor.Pat
end
section
namespace Go.Proofs.YtbcemjhaecelnaaGreatDoor.Pat
open Go.RowKit
def zf2 : ByteArray := ⟨#[42, 43, 63, 124, 40, 41, 91, 93]⟩
theorem zf3 {r : Int} (h : okR r) : Lib.validRune r = true := by
 unfold Lib.validRune okR at *
 simp
 omega
theorem encode_shape {r : Int} (h0 : 128 <= r) (hok : okR r) : ∃ c : UInt8, 128 <= c.toNat /\ ((∃ a, Utf8.encode r = ⟨#[a, c]⟩) \/ (∃ a b, Utf8.encode r = ⟨#[a, b, c]⟩) \/ (∃ a b d, Utf8.encode r = ⟨#[a, b, d, c]⟩)) := by
 have hv : Utf8.valid r = true := by unfold Utf8.valid; unfold okR at hok; simp; omega
 unfold Utf8.encode
 simp only [hv, if_true]
 rw [if_neg (by omega)]
 split
 ·exact ⟨_, by simp; omega, .inl ⟨_, rfl⟩⟩
 ·split
  ·exact ⟨_, by simp; omega, .inr (.inl ⟨_, _, rfl⟩)⟩
  ·exact ⟨_, by simp; omega, .inr (.inr ⟨_, _, _, rfl⟩)⟩
theorem zaD (w : World) (n : Nat) : Below w.heap.size w (w.drewN n) := ⟨rfl, rfl, rfl, Nat.le_refl _, fun _ _ => rfl⟩
theorem zcJ : ∀ (l : List UInt8) (c : UInt8), 128 <= c.toNat -> (∀ x ∈ l, x.toNat < 128) -> Lib.indexByte l c = -1
 | [], _, _, _ => rfl
 | x :: l, c, hc, h => by
   have hx := h x List.mem_cons_self
   have hne : (x == c) = false := by
    simp only [beq_eq_false_iff_ne, ne_eq]
    rintro rfl
    omega
   rw [Lib.indexByte, hne, zcJ l c hc (fun y hy => h y (List.mem_cons_of_mem _ hy))]
   rfl
theorem index_far2_call (a c : UInt8) (hc : 128 <= c.toNat) (W : World) :
 Calls Tryz.prog 197 #[.string ((⟨#[42, 43, 63, 124, 40, 41, 91, 93]⟩ : ByteArray).extract 2 8), .int .u8 ((((⟨#[a, c]⟩ : ByteArray)[1]'(by show 1 < 2; omega)).toNat : Nat) : Int)] W fun e w' => e = .returned (.int .i64 (-1)) /\ w' = W := by
 refine (Tryz.strings_IndexByte _ _ W).mono fun e w' q => ⟨?_, q.2⟩
 rw [q.1]
 have e1 : ((⟨#[42, 43, 63, 124, 40, 41, 91, 93]⟩ : ByteArray).extract 2 8).data.toList = [63, 124, 40, 41, 91, 93] := by decide +kernel
 have e2 : (((((⟨#[a, c]⟩ : ByteArray)[1]'(by show 1 < 2; omega)).toNat : Nat) : Int)).toNat.toUInt8 = c := by
  show ((c.toNat : Int)).toNat.toUInt8 = c
  simp
 rw [e1, e2]
 congr 2
 exact zcJ _ c hc (by decide)
theorem index_far2 (r : Int) (w : World) (h0 : 128 <= r) (hok : okR r) (hne : r ≠ 65533) (a c : UInt8) (hc : 128 <= c.toNat) (hE : Utf8.encode r = ⟨#[a, c]⟩) :
 Calls Tryz.prog 196 #[.string ⟨#[42, 43, 63, 124, 40, 41, 91, 93]⟩, .int .i32 r] w fun e w' => e = .returned (.int .i64 (-1)) /\ Below w.heap.size w w' := by
 have h1 : (0 : Int) <= r := by omega
 have d1 : decide (r < 128) = false := by simp; omega
 have d2 : (r == 65533) = false := by simpa using hne
 have HV := zh (show Calls Tryz.prog 198 #[.int .i32 r] w fun e w' => e = .returned (.bool true) /\ w = w' from (Tryz.utf8_ValidRune r w).mono fun _ _ q => ⟨by rw [q.1, zf3 hok], q.2.symm⟩)
 have HX := zh (index_far2_call a c hc)
 clear hok hne
 go_enter Tryz.func196, Tryz.ntmps196
 go_wp2_with fail
 refine HV.out.mono ?_
 rintro e w' ⟨rfl, rfl⟩
 go_wp2_with fail
 go_step3
 go_wp2_with fail
 go_loopg [9] 1 (fun k v9 wr => k = 1 /\ v9 = .int .i64 1 /\ Hid (w = wr))
 case atStart => exact ⟨rfl, rfl, rfl⟩
 case round =>
  obtain ⟨rfl, rfl, HW⟩ := hrel
  obtain rfl := HW.out
  have q2 : (((⟨#[42, 43, 63, 124, 40, 41, 91, 93]⟩ : ByteArray)[1].toNat : Int) != (((⟨#[a, c]⟩ : ByteArray)[1]'(by show 1 < 2; omega)).toNat : Int)) = true := by
   show ((43 : Int) != (c.toNat : Int)) = true
   simp; omega
  go_wp2_with fail
  go_step3
  go_wp2_with fail
  go_quiet (fail)
  go_wp2_with fail
  obtain ⟨W, hW⟩ : ∃ W, w.drewN nq = W := ⟨_, rfl⟩
  have HB := zh (show Below w.heap.size w W by rw [<- hW]; exact zaD w nq)
  rw [hW]
  clear hW q2
  have HB2 := zh (fun n => (show Below w.heap.size w (W.drewN n) from HB.out.trans ((zaD W n).mono HB.out.size)))
  have hw : IntKind.i64.wrap 2 = 2 := by rw [IntKind.wrap_i64]; rfl
  go_quiet ((go_at_call 197; exact Calls.quiet_of_same (HX.out _)))
  clear hw
  go_wp2
  rw [Exit.noGoto_ret]
  go_wp2
  rw [Exit.noGoto_ret]
  go_wp2
  go_ret
  exact ⟨rfl, HB2.out _⟩
theorem index_far3_call (a b c : UInt8) (hc : 128 <= c.toNat) (W : World) :
 Calls Tryz.prog 197 #[.string ((⟨#[42, 43, 63, 124, 40, 41, 91, 93]⟩ : ByteArray).extract 3 8), .int .u8 ((((⟨#[a, b, c]⟩ : ByteArray)[2]'(by show 2 < 3; omega)).toNat : Nat) : Int)] W fun e w' => e = .returned (.int .i64 (-1)) /\ w' = W := by
 refine (Tryz.strings_IndexByte _ _ W).mono fun e w' q => ⟨?_, q.2⟩
 rw [q.1]
 have e1 : ((⟨#[42, 43, 63, 124, 40, 41, 91, 93]⟩ : ByteArray).extract 3 8).data.toList = [124, 40, 41, 91, 93] := by decide +kernel
 have e2 : (((((⟨#[a, b, c]⟩ : ByteArray)[2]'(by show 2 < 3; omega)).toNat : Nat) : Int)).toNat.toUInt8 = c := by
  show ((c.toNat : Int)).toNat.toUInt8 = c
  simp
 rw [e1, e2]
 congr 2
 exact zcJ _ c hc (by decide)
theorem index_far3 (r : Int) (w : World) (h0 : 128 <= r) (hok : okR r) (hne : r ≠ 65533) (a b c : UInt8) (hc : 128 <= c.toNat) (hE : Utf8.encode r = ⟨#[a, b, c]⟩) :
 Calls Tryz.prog 196 #[.string ⟨#[42, 43, 63, 124, 40, 41, 91, 93]⟩, .int .i32 r] w fun e w' => e = .returned (.int .i64 (-1)) /\ Below w.heap.size w w' := by
 have h1 : (0 : Int) <= r := by omega
 have d1 : decide (r < 128) = false := by simp; omega
 have d2 : (r == 65533) = false := by simpa using hne
 have HV := zh (show Calls Tryz.prog 198 #[.int .i32 r] w fun e w' => e = .returned (.bool true) /\ w = w' from (Tryz.utf8_ValidRune r w).mono fun _ _ q => ⟨by rw [q.1, zf3 hok], q.2.symm⟩)
 have HX := zh (index_far3_call a b c hc)
 clear hok hne
 go_enter Tryz.func196, Tryz.ntmps196
 go_wp2_with fail
 refine HV.out.mono ?_
 rintro e w' ⟨rfl, rfl⟩
 go_wp2_with fail
 go_step3
 go_wp2_with fail
 go_loopg [9] 1 (fun k v9 wr => k = 1 /\ v9 = .int .i64 2 /\ Hid (w = wr))
 case atStart => exact ⟨rfl, rfl, rfl⟩
 case round =>
  obtain ⟨rfl, rfl, HW⟩ := hrel
  obtain rfl := HW.out
  have q2 : (((⟨#[42, 43, 63, 124, 40, 41, 91, 93]⟩ : ByteArray)[2].toNat : Int) != (((⟨#[a, b, c]⟩ : ByteArray)[2]'(by show 2 < 3; omega)).toNat : Int)) = true := by
   show ((63 : Int) != (c.toNat : Int)) = true
   simp; omega
  go_wp2_with fail
  go_step3
  go_wp2_with fail
  go_quiet (fail)
  go_wp2_with fail
  obtain ⟨W, hW⟩ : ∃ W, w.drewN nq = W := ⟨_, rfl⟩
  have HB := zh (show Below w.heap.size w W by rw [<- hW]; exact zaD w nq)
  rw [hW]
  clear hW q2
  have HB2 := zh (fun n => (show Below w.heap.size w (W.drewN n) from HB.out.trans ((zaD W n).mono HB.out.size)))
  have hw : IntKind.i64.wrap 3 = 3 := by rw [IntKind.wrap_i64]; rfl
  go_quiet ((go_at_call 197; exact Calls.quiet_of_same (HX.out _)))
  clear hw
  go_wp2
  rw [Exit.noGoto_ret]
  go_wp2
  rw [Exit.noGoto_ret]
  go_wp2
  go_ret
  exact ⟨rfl, HB2.out _⟩
theorem index_far4_call (a b d c : UInt8) (hc : 128 <= c.toNat) (W : World) :
 Calls Tryz.prog 197 #[.string ((⟨#[42, 43, 63, 124, 40, 41, 91, 93]⟩ : ByteArray).extract 4 8), .int .u8 ((((⟨#[a, b, d, c]⟩ : ByteArray)[3]'(by show 3 < 4; omega)).toNat : Nat) : Int)] W fun e w' => e = .returned (.int .i64 (-1)) /\ w' = W := by
 refine (Tryz.strings_IndexByte _ _ W).mono fun e w' q => ⟨?_, q.2⟩
 rw [q.1]
 have e1 : ((⟨#[42, 43, 63, 124, 40, 41, 91, 93]⟩ : ByteArray).extract 4 8).data.toList = [40, 41, 91, 93] := by decide +kernel
 have e2 : (((((⟨#[a, b, d, c]⟩ : ByteArray)[3]'(by show 3 < 4; omega)).toNat : Nat) : Int)).toNat.toUInt8 = c := by
  show ((c.toNat : Int)).toNat.toUInt8 = c
  simp
 rw [e1, e2]
 congr 2
 exact zcJ _ c hc (by decide)
theorem index_far4 (r : Int) (w : World) (h0 : 128 <= r) (hok : okR r) (hne : r ≠ 65533) (a b d c : UInt8) (hc : 128 <= c.toNat) (hE : Utf8.encode r = ⟨#[a, b, d, c]⟩) :
 Calls Tryz.prog 196 #[.string ⟨#[42, 43, 63, 124, 40, 41, 91, 93]⟩, .int .i32 r] w fun e w' => e = .returned (.int .i64 (-1)) /\ Below w.heap.size w w' := by
 have h1 : (0 : Int) <= r := by omega
 have d1 : decide (r < 128) = false := by simp; omega
 have d2 : (r == 65533) = false := by simpa using hne
 have HV := zh (show Calls Tryz.prog 198 #[.int .i32 r] w fun e w' => e = .returned (.bool true) /\ w = w' from (Tryz.utf8_ValidRune r w).mono fun _ _ q => ⟨by rw [q.1, zf3 hok], q.2.symm⟩)
 have HX := zh (index_far4_call a b d c hc)
 clear hok hne
 go_enter Tryz.func196, Tryz.ntmps196
 go_wp2_with fail
 refine HV.out.mono ?_
 rintro e w' ⟨rfl, rfl⟩
 go_wp2_with fail
 go_step3
 go_wp2_with fail
 go_loopg [9] 1 (fun k v9 wr => k = 1 /\ v9 = .int .i64 3 /\ Hid (w = wr))
 case atStart => exact ⟨rfl, rfl, rfl⟩
 case round =>
  obtain ⟨rfl, rfl, HW⟩ := hrel
  obtain rfl := HW.out
  have q2 : (((⟨#[42, 43, 63, 124, 40, 41, 91, 93]⟩ : ByteArray)[3].toNat : Int) != (((⟨#[a, b, d, c]⟩ : ByteArray)[3]'(by show 3 < 4; omega)).toNat : Int)) = true := by
   show ((124 : Int) != (c.toNat : Int)) = true
   simp; omega
  go_wp2_with fail
  go_step3
  go_wp2_with fail
  go_quiet (fail)
  go_wp2_with fail
  obtain ⟨W, hW⟩ : ∃ W, w.drewN nq = W := ⟨_, rfl⟩
  have HB := zh (show Below w.heap.size w W by rw [<- hW]; exact zaD w nq)
  rw [hW]
  clear hW q2
  have HB2 := zh (fun n => (show Below w.heap.size w (W.drewN n) from HB.out.trans ((zaD W n).mono HB.out.size)))
  have hw : IntKind.i64.wrap 4 = 4 := by rw [IntKind.wrap_i64]; rfl
  go_quiet ((go_at_call 197; exact Calls.quiet_of_same (HX.out _)))
  clear hw
  go_wp2
  rw [Exit.noGoto_ret]
  go_wp2
  rw [Exit.noGoto_ret]
  go_wp2
  go_ret
  exact ⟨rfl, HB2.out _⟩
theorem marks_dec (pos : Nat) (h : pos < 8) : (Utf8.decode zf2 pos).1 < 128 /\ (Utf8.decode zf2 pos).2 = 1 := by
 have : ∀ p : Fin 8, (Utf8.decode zf2 p.1).1 < 128 /\ (Utf8.decode zf2 p.1).2 = 1 := by decide +kernel
 exact this ⟨pos, h⟩
theorem index_err (w : World) : Calls Tryz.prog 196 #[.string ⟨#[42, 43, 63, 124, 40, 41, 91, 93]⟩, .int .i32 65533] w fun e w' => e = .returned (.int .i64 (-1)) /\ Below w.heap.size w w' := by
 show Calls Tryz.prog 196 #[.string zf2, .int .i32 65533] w fun e w' => e = .returned (.int .i64 (-1)) /\ Below w.heap.size w w'
 have HM := zh (show zf2.size = 8 from rfl)
 have HD := zh marks_dec
 generalize zf2 = s at HM HD
 go_enter Tryz.func196, Tryz.ntmps196
 go_wp2
 go_loopw [6] (fun _ wr => ∃ (pos : Nat), wr.heap[w.heap.size]? = some (.stringIter s pos) /\ Below w.heap.size w wr) (fun _ wr => s.size - wr.iterPos w.heap.size)
 case atStart => exact ⟨0, World.iter_heap w s 0, (Below.refl _ _).alloc (Nat.le_refl _) _⟩
 case round =>
  obtain ⟨pos, hit, hbw⟩ := hrel
  have hpos0 := zac hit
  by_cases hp : pos < s.size
  ·have hnx : ∀ ty, (Instr.next (.pointer (some ⟨w.heap.size, 0, none⟩)) true ty).run Tryz.prog wr = _ := fun ty => Lib.run_next_any_at wr w.heap.size s pos ty hit hp
   have hit2 := Lib.iterAt_heap wr w.heap.size s pos (pos + (Utf8.decode s pos).2) hit
   have hbw2 := Lib.below_iterAt hbw (k := w.heap.size) (Nat.le_refl _) s (pos + (Utf8.decode s pos).2)
   have hd := HD.out pos (by rw [<- HM.out]; exact hp)
   have hne : (((Utf8.decode s pos).1 : Int) == 65533) = false := by
    have := hd.1
    simp only [beq_eq_false_iff_ne, ne_eq]; omega
   have hw := zh hd.2
   clear hd
   go_wp2
   go_roundw
   case rel => exact ⟨pos + (Utf8.decode s pos).2, hit2, hbw2⟩
   case measure => rw [zac hit2, hpos0, hw.out]; omega
  ·have hnx : ∀ ty, (Instr.next (.pointer (some ⟨w.heap.size, 0, none⟩)) true ty).run Tryz.prog wr = _ := fun ty => Lib.run_next_end_at wr w.heap.size s pos ty hit hp
   go_wp2
   go_ret
   exact ⟨rfl, hbw⟩
theorem index_marks (r : Int) (w : World) (hok : okR r) (h : 128 <= r) :
 Calls Tryz.prog 196 #[.string ⟨#[42, 43, 63, 124, 40, 41, 91, 93]⟩, .int .i32 r] w fun e w' => e = .returned (.int .i64 (-1)) /\ Below w.heap.size w w' := by
 by_cases h2 : r = 65533
 ·subst h2; exact index_err w
 ·obtain ⟨c, hc, ⟨a, hE⟩ | ⟨a, b, hE⟩ | ⟨a, b, d, hE⟩⟩ := encode_shape h hok
  ·exact index_far2 r w h hok h2 a c hc hE
  ·exact index_far3 r w h hok h2 a b c hc hE
  ·exact index_far4 r w h hok h2 a b d c hc hE
theorem marks_ascii (r : Int) (h0 : 0 <= r) (h1 : r < 128) : decide (0 <= Lib.indexByte zf2.data.toList r.toNat.toUInt8) = zdV r := by
 have : ∀ p : Fin 128, decide (0 <= Lib.indexByte zf2.data.toList p.1.toUInt8) = zdV (p.1 : Int) := by decide +kernel
 obtain ⟨n, rfl⟩ := Int.eq_ofNat_of_zero_le h0
 exact this ⟨n, by omega⟩
theorem contains_any (r : Int) (hok : okR r) (w : World) :
 Calls Tryz.prog 194 #[.string ⟨#[42, 43, 63, 124, 40, 41, 91, 93]⟩, .int .i32 r] w fun e w' => e = .returned (.bool (zdV r)) /\ Below w.heap.size w w' := by
 have h0 : 0 <= r := by unfold okR at hok; omega
 by_cases h : r < 128
 ·refine (Tryz.strings_ContainsRune_ascii _ r w h0 h).mono fun e w' q => ?_
  obtain ⟨q1, rfl⟩ := q
  exact ⟨by rw [q1, <- marks_ascii r h0 h]; rfl, Below.refl _ _⟩
 ·have HI := zh (index_marks r w hok (by omega))
  have hm : zdV r = false := by unfold zdV; simp; omega
  rw [hm]
  clear hm hok
  go_enter Tryz.func194, Tryz.ntmps194
  go_wp2_with fail
  refine HI.out.mono ?_
  rintro e w1 ⟨rfl, b1⟩
  go_wp2
  go_ret
  exact ⟨rfl, b1⟩
end Go.Proofs.YtbcemjhaecelnaaGreatDoor.Pat
end
section
namespace Go.Proofs.YtbcemjhaecelnaaGreatDoor.Pat
open Go.RowKit
theorem zhC : (Tryz.prog.info? 216).map (fun i => (i.zero, i.size, i.bytes)) = some (some .nilIface, 1, 16) := by kernel_rfl
def Kids (w0 w : World) (v : Value) (l : List Pt) : Prop := ∃ vs, w.ownsRow w0.heap.size 216 1 v l.length vs /\ ∀ (j : Nat) u x, vs[j]? = some u -> l[j]? = some x -> Tree w (fun b => w0.heap.size <= b /\ some b ≠ v.ownBlock) u x
theorem Kids.start (w0 w : World) : Kids w0 w (.slice none 0 0) [] := ⟨[], World.ownsRow_nil _ _ _ _, fun j u x h => by simp at h⟩
theorem Kids.grown {w0 w w' : World} {v : Value} {l : List Pt} {bd : Nat} (h : Kids w0 w v l) (hg : w.grownBy w' (some bd)) (hb : bd < w0.heap.size) : Kids w0 w' v l := by
 obtain ⟨vs, h1, h2⟩ := h
 refine ⟨vs, h1.kept hg ?_, fun j u x hu hx => (h2 j u x hu hx).grown hg (fun b hb2 => by omega)⟩
 cases ho : v.ownBlock with
 | none => exact .inl rfl
 | some g =>
   have := (h1.lt g ho).1
   exact .inr (by simp; omega)
theorem Kids.alloc {w0 w : World} {v : Value} {l : List Pt} (h : Kids w0 w v l) (o : Obj) : Kids w0 (w.alloc o) v l := by
 obtain ⟨vs, h1, h2⟩ := h
 exact ⟨vs, h1.alloc o, fun j u x hu hx => (h2 j u x hu hx).keep fun b hb hl => ⟨Below.heap_alloc _ _ _ hl, hb⟩⟩
theorem Kids.block {w0 w : World} {v : Value} {l : List Pt} (h : Kids w0 w v l) : ∀ k, v.ownBlock = some k -> w0.heap.size <= k /\ k < w.heap.size := by
 obtain ⟨vs, h1, _⟩ := h; exact h1.lt
theorem Kids.length {w0 w : World} {v : Value} {l : List Pt} (h : Kids w0 w v l) : ∃ o c, v = .slice o l.length c := by
 obtain ⟨vs, h1, _⟩ := h; exact own_shape h1
theorem Kids.push {w0 w w' : World} {v v' u : Value} {l : List Pt} {x : Pt} {vs : List Value} (h : w.ownsRow w0.heap.size 216 1 v l.length vs /\ ∀ (j : Nat) u x, vs[j]? = some u -> l[j]? = some x -> Tree w (fun b => w0.heap.size <= b /\ some b ≠ v.ownBlock) u x)
 (hu : Tree w (fun b => w0.heap.size <= b /\ some b ≠ v.ownBlock) u x) (ho : w'.ownsRow w0.heap.size 216 1 v' (l.length + 1) (vs ++ [u])) (hg : w.grownBy w' v.ownBlock) (hv : v'.ownBlock = v.ownBlock \/ v'.ownBlock = some w.heap.size) : Kids w0 w' v' (l ++ [x]) := by
 have hk : ∀ b, (w0.heap.size <= b /\ some b ≠ v.ownBlock) -> b < w.heap.size -> w'.heap[b]? = w.heap[b]? /\ (w0.heap.size <= b /\ some b ≠ v'.ownBlock) := by
  intro b hb hl
  refine ⟨hg.block b hl hb.2, hb.1, ?_⟩
  rcases hv with hv | hv
  ·rw [hv]; exact hb.2
  ·rw [hv]; simp; omega
 refine ⟨vs ++ [u], by rw [List.length_append]; exact ho, fun j a y ha hy => ?_⟩
 have hlen : vs.length = l.length := by have := h.1.1; omega
 by_cases hj : j < l.length
 ·rw [List.getElem?_append_left (by omega)] at ha
  rw [List.getElem?_append_left hj] at hy
  exact (h.2 j a y ha hy).keep hk
 ·rw [List.getElem?_append_right (by omega)] at ha
  rw [List.getElem?_append_right (by omega)] at hy
  by_cases h0 : j = l.length
  ·subst h0
   simp [hlen] at ha hy
   subst ha; subst hy
   exact hu.keep hk
  ·obtain ⟨k, hk2⟩ : ∃ k, j - l.length = k + 1 := ⟨j - l.length - 1, by omega⟩
   rw [hk2] at hy
   simp at hy
theorem Kids.sees {w0 w : World} {o : Option Addr} {n c : Nat} {l : List Pt} (h : Kids w0 w (.slice o n c) l) : ∃ vs : List Value, vs.length = n /\ l.length = n /\ zg9 w (fun b => w0.heap.size <= b) o vs /\ ∀ (j : Nat) u x, vs[j]? = some u -> l[j]? = some x -> Tree w (fun b => w0.heap.size <= b) u x := by
 obtain ⟨vs, h1, h2⟩ := h
 have hl := h1.1
 obtain ⟨o', c', e⟩ := own_shape h1
 injection e with e1 e2 e3
 refine ⟨vs, by omega, e2.symm, ?_, fun j u x hu hx => (h2 j u x hu hx).keep fun b hb _ => ⟨rfl, hb.1⟩⟩
 rcases h1.2 with ⟨e, h0⟩ | ⟨g, cap, cur, e, hB, hg, _⟩
 ·exact .inl (List.eq_nil_of_length_eq_zero (by omega))
 ·injection e with e1 _ _
  subst e1
  refine .inr ⟨g, 0, rfl, hB, (Array.getElem?_eq_some_iff.1 hg).1, fun j v hv => ?_⟩
  have := h1.cells (g := g) rfl j v hv
  simpa [Addr.add_lit] using this
theorem cell_1k (w : World) (v : Value) (t : TypeId) (k : Nat) (hk : w.heap.size = k) : ∀ j u, [v][j]? = some u -> (w.alloc (.cells #[v] t)).cell? ((⟨k, 0, none⟩ : Addr).add j) = some u := by
 subst hk
 intro j u hj
 match j, hj with
 | 0, hj => simp at hj; subst hj; simp [Addr.add]
 | j + 1, hj => simp at hj
theorem zez (t : TypeId) (u : Value) : ∀ v ∈ [Value.iface t u], v.oneCell' = true := by
 intro v hv; simp at hv; subst hv; rfl
structure ChoiceAt (w0 : World) (bd : Nat) (t : Option (List Pt × List Sg)) (wr : World) (l : List Sg) (acc : List Pt) (v : Value) : Prop where
 rd : Rd wr bd l
 grown : w0.grownBy wr (some bd)
 kids : Kids w0 wr v acc
 same : zbn l acc = t
 few : acc.length + l.length <= 1000000
 far : bd < w0.heap.size
def zfb (w0 : World) (bd : Nat) (t : Option (List Pt × List Sg)) (k : Nat) (v : Value) (wr : World) : Prop := ∃ l acc, l.length = k /\ ChoiceAt w0 bd t wr l acc v
def ChainC (l : List Sg) : Prop := ∀ (w : World) (bd : Nat), Rd w bd l -> Calls Tryz.prog 185 #[.pointer (some ⟨bd, 0, none⟩)] w (Res w bd ((zc8 l []).map fun p => (.chain p.1, p.2)))
def zf4 (l : List Sg) : Prop := ∀ (w : World) (bd : Nat), Rd w bd l -> Calls Tryz.prog 179 #[.pointer (some ⟨bd, 0, none⟩)] w (Res w bd ((zbn l []).map fun p => (.choice p.1, p.2)))
theorem zgd (n : Nat) (hC : ∀ m : List Sg, m.length <= n -> ChainC m) (l : List Sg) (hl : l.length <= n) : zf4 l := by
 intro w bd h
 obtain ⟨ie, hi, hz0, hz1, hz2⟩ := info_parts zhC
 have hlt := h.lt
 obtain ⟨t, ht⟩ : ∃ t, zbn l [] = t := ⟨_, rfl⟩
 have HST : zfb w bd t l.length (.slice none 0 0) w := ⟨l, [], rfl, h, grown_refl _ _, Kids.start _ _, ht, by
  obtain ⟨_, _, _, hm, _⟩ := h.cell; simpa using hm, hlt⟩
 have HC := zh hC
 have HT := zh ht
 clear h hC
 rw [ht]
 clear ht
 go_enter Tryz.func179, Tryz.ntmps179
 go_wp2_with fail
 go_loopg [4] l.length (fun k v wr => k <= n /\ zfb w bd t k v wr)
 case atStart => exact ⟨hl, HST⟩
 case round =>
  clear HST hl
  obtain ⟨hgn, l2, acc, rfl, H⟩ := hrel
  have HH := zh H
  have HCC := zh (HC.out l2 hgn wr bd H.rd)
  have HEQ := zh (choiceP_eq l2 acc)
  clear H
  cases hch : zc8 l2 [] with
  | none =>
    have HT0 := zh (show t = none by rw [<- HH.out.same, HEQ.out, hch])
    rw [hch] at HCC
    clear hch
    go_wp2_with fail
    refine HCC.out.mono ?_
    rintro e w1 ⟨u, rfl, hg⟩
    have HG := zh hg
    clear hg
    go_wp2
    go_ret2
    rw [HT0.out]
    exact ⟨_, rfl, grown_trans HH.out.grown HG.out⟩
  | some p =>
    obtain ⟨c, m⟩ := p
    have hml := chainP_le hch
    have HT0 := zh (show t = if atB m 124 then zbn m.tail (acc ++ [.chain c]) else some (acc ++ [.chain c], m) by rw [<- HH.out.same, HEQ.out, hch])
    rw [hch] at HCC
    clear hch
    go_wp2_with fail
    refine HCC.out.mono ?_
    rintro e w1 ⟨u, rfl, ht1, hr1, hg1⟩
    obtain ⟨tu, uu, rfl⟩ := ht1.iface
    have hk1 := HH.out.kids.grown hg1 HH.out.far
    have hT1 := ht1.keep (w' := w1) (Q := fun b => w.heap.size <= b /\ some b ≠ u4.ownBlock) (fun b hb _ => ⟨rfl, by have := HH.out.grown.size; omega, fun e => by have := (HH.out.kids.block b e.symm).2; omega⟩)
    have HR1 := zh hr1
    have HG1 := zh (grown_trans HH.out.grown hg1)
    have hsz : w.heap.size <= w1.heap.size := HG1.out.size
    have hfw := HH.out.few
    obtain ⟨vs, hown, hkid⟩ := hk1
    have HKID := zh (And.intro (hown.alloc (Obj.cells #[.iface tu uu] 216)) (fun j u x hu hx => (hkid j u x hu hx).keep (w' := w1.alloc (Obj.cells #[.iface tu uu] 216)) (fun b hb hl => ⟨Below.heap_alloc _ _ _ hl, hb⟩)))
    have HT1 := zh (hT1.keep (w' := w1.alloc (Obj.cells #[.iface tu uu] 216)) (fun b hb hl => ⟨Below.heap_alloc _ _ _ hl, hb⟩))
    clear hown hkid hT1 ht1 hg1 hr1
    go_wp2_with (at_builtin; go_must (refine zaL _ rfl _ _ 236 rfl w.heap.size 216 ie .nilIface 1 16 Tryz.underlying236 hi hz0 hz1 hz2 rfl (by decide) _ _ _ rfl HKID.out.1 ⟨w1.heap.size, 0, none⟩ 1 1 [.iface tu uu] rfl rfl (cell_1k _ _ _ _ rfl) (zez _ _) (by unfold maxLen; omega) (by omega) (by simp; omega) ?_); intro v' w5 hown' hgrow' hblk' _; replace hgrow' : World.grownBy _ w5 u4.ownBlock := hgrow'; replace hblk' : v'.ownBlock = u4.ownBlock \/ _ := hblk'; have H5 := zh (Kids.push HKID.out HT1.out hown' hgrow' hblk'); have HG5 := zh (grown_own (grown_alloc HG1.out (Obj.cells #[.iface tu uu] 216)) hgrow' (fun k hk => (HH.out.kids.block k hk).1)); have HR5 := zh ((HR1.out.alloc (Obj.cells #[.iface tu uu] 216)).grownOwn hgrow' (fun k hk => Nat.lt_of_lt_of_le HH.out.far (HH.out.kids.block k hk).1)); clear hown' hgrow' hblk')
    cases hb : atB m 124 with
    | true =>
      have hmt := zaW hb
      have HTK := zh (take_yes bd m 124 w5 HR5.out hb)
      have HS := zh (show zbn m.tail (acc ++ [.chain c]) = t by rw [HT0.out, if_pos hb])
      clear hb
      refine HTK.out.mono ?_
      rintro e w6 ⟨rfl, hr6, hg6⟩
      have HR6 := zh hr6
      have HG6 := zh hg6
      clear hr6 hg6
      go_wp2
      go_roundg m.tail.length
      case measure => omega
      case rel => exact ⟨by omega, m.tail, acc ++ [.chain c], rfl, HR6.out, grown_trans HG5.out HG6.out, H5.out.grown HG6.out HH.out.far, HS.out, by simp; omega, HH.out.far⟩
    | false =>
      have HTK := zh (take_no bd m 124 w5 HR5.out hb)
      have HS := zh (show t = some (acc ++ [.chain c], m) by rw [HT0.out, hb]; rfl)
      clear hb
      refine HTK.out.mono ?_
      rintro e w6 ⟨rfl, rfl⟩
      go_wp2
      go_ret2
      rw [HS.out]
      obtain ⟨o', c', hv⟩ := H5.out.length
      subst hv
      obtain ⟨ws, k1, k2, k3, k4⟩ := H5.out.sees
      exact ⟨_, rfl, .choice o' _ c' ws _ k1 k2 (by simp; omega) k3 k4, HR5.out, HG5.out⟩
end Go.Proofs.YtbcemjhaecelnaaGreatDoor.Pat
end
end
