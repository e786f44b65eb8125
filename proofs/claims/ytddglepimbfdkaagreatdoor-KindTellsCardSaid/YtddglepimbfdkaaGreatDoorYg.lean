/- Walks (kind): metrics gathered: one more, if it is not there yet. -/
import Derived.Test.YtddglepimbfdkaaGreatDoorYb
import Derived.Test.YtddglepimbfdkaaGreatDoorKxa
import Derived.Deep.RegionLaw
import Derived.Deep.AppendLies
import Derived.Maps.OwnSet
namespace Go.Proofs.YtddglepimbfdkaaGreatDoor.Knd
open Go.RowKit Go.Lib Go.Maps Go.WideMaps
open Go.Proofs.YtddglepimbfdkaaGreatDoor.Par

/-- A block of two cells: what is read of it. -/
theorem cells_two {w : World} {b : Nat} {u v : Value} {t : TypeId} (h : w.heap[b]? = some (.cells #[u, v] t (0, 0))) :
    w.cell? ⟨b, 0, none⟩ = some u ∧ w.cell? ⟨b, 1, none⟩ = some v ∧ w.frozen? ⟨b, 0, none⟩ = false ∧ w.frozen? ⟨b, 1, none⟩ = false ∧ b < w.heap.size := by
  refine ⟨by simp [World.cell?, h], by simp [World.cell?, h], by simp [World.frozen?, h], by simp [World.frozen?, h], (Array.getElem?_eq_some_iff.1 h).1⟩
/-- A text as a map's key. -/
def keyS (s : ByteArray) : Lit := .string s.data.toList
/-- The set of these texts. -/
def setM (acc : List ByteArray) : DataW Unit := setOf (.agg []) (acc.map keyS)
theorem keyS_inj {s t : ByteArray} (h : keyS s = keyS t) : s = t := by
  unfold keyS at h
  injection h with h
  cases s; cases t; simp at h; subst h; rfl
theorem keyS_key (s : ByteArray) : WideAt.IsKeyLit (keyS s) := by simp [keyS, WideAt.IsKeyLit]
theorem has_setM (acc : List ByteArray) (s : ByteArray) : Maps.has (setM acc) (keyS s) = decide (s ∈ acc) := by
  unfold setM
  rw [has_setOf _ _ _ (by intro x hx; obtain ⟨y, _, rfl⟩ := List.mem_map.1 hx; exact keyS_key y)]
  by_cases h : s ∈ acc
  · rw [decide_eq_true h, List.any_eq_true]
    exact ⟨keyS s, List.mem_map.2 ⟨s, h, rfl⟩, WideAt.sameKey_self (keyS_key s)⟩
  · rw [decide_eq_false h, List.any_eq_false]
    intro x hx
    obtain ⟨y, hy, rfl⟩ := List.mem_map.1 hx
    rw [sameKey_ne (fun e => h (by rw [← keyS_inj e]; exact hy))]
    exact Bool.false_ne_true
theorem setM_snoc (acc : List ByteArray) (s : ByteArray) : setM (acc ++ [s]) = (setM acc).put (keyS s) (.agg []) := by
  unfold setM
  rw [List.map_append, List.map_singleton, setOf_snoc]
theorem lawS : Keyed Tryz.prog 9 := string_keyed Tryz.underlying9
theorem zeroU (w : World) : (zeroValue 155).run Tryz.prog w = .ok (.agg #[]) w := by kernel_rfl
theorem keyOf_S (s : ByteArray) (h : s.size ≤ maxLen) : keyOf Tryz.prog 9 (.string s) = some (keyS s) := keyOf_string_mk (P := Tryz.prog) Tryz.underlying9 h

/-- What is gathered: the texts in a row of the call's own, and their set. -/
def MT (w : World) (B db mb : Nat) (acc : List ByteArray) : Prop := ∃ v n,
  w.heap[db]? = some (.cells #[v, .map (some mb)] 100 (0, 0)) ∧ w.ownsRow B 9 1 v acc.length (BkX.flatE acc) ∧ w.ownsMap Tryz.prog 9 (unitElem (H := Unit)) mb n (setM acc) ∧ n ≤ 1000000 + acc.length ∧ B ≤ db ∧ B ≤ mb ∧ db ≠ mb
theorem MT.lt {w : World} {B db mb : Nat} {acc : List ByteArray} (h : MT w B db mb acc) : db < w.heap.size ∧ mb < w.heap.size := by
  obtain ⟨v, n, h1, _, h3, _⟩ := h
  exact ⟨(Array.getElem?_eq_some_iff.1 h1).1, h3.lt⟩
theorem MT.below {w w' : World} {B db mb : Nat} {acc : List ByteArray} (h : MT w B db mb acc) (hb : Below w.heap.size w w') : MT w' B db mb acc := by
  have hl := h.lt
  obtain ⟨v, n, h1, h2, h3, h4⟩ := h
  exact ⟨v, n, (hb.block db hl.1).trans h1, own_below h2 hb, h3.kept (row := none) ⟨hb.os, hb.tape, hb.output, hb.size, fun i hi _ => hb.block i hi⟩ (by simp), h4⟩
/-- Parts in memory are what they were. -/
def Parts (w w' : World) : Prop := ∀ (j : Nat) (cs : Array Value), w.heap[j]? = some (.cells cs 27 (0, 0)) → w'.heap[j]? = some (.cells cs 27 (0, 0))
theorem parts_below {w w' : World} (h : Below w.heap.size w w') : Parts w w' := fun j _ hj => (h.block j (Array.getElem?_eq_some_iff.1 hj).1).trans hj
theorem Parts.trans {a b c : World} (h : Parts a b) (g : Parts b c) : Parts a c := fun j cs hj => g j cs (h j cs hj)
theorem parts_map {w w' : World} {k : TypeId} {R : Value → Option (DataW Unit × List MemPlace)} {mb n : Nat} {D : DataW Unit} (hm : w.ownsMap Tryz.prog k R mb n D) (h : w.grownBy w' (some mb)) : Parts w w' := fun j cs hj => by
  obtain ⟨es, clock, hb, _⟩ := hm
  refine (h.block j (Array.getElem?_eq_some_iff.1 hj).1 (fun e => ?_)).trans hj
  obtain rfl : j = mb := Option.some.inj e
  rw [hj] at hb; cases hb
theorem parts_row {w w' : World} {B n : Nat} {v : Value} {xs : List Value} {ob : Option Nat} (hr : w.ownsRow B 9 1 v n xs) (hob : ob = v.ownBlock) (h : w.grownBy w' ob) : Parts w w' := fun j cs hj => by
  refine (h.block j (Array.getElem?_eq_some_iff.1 hj).1 (fun e => ?_)).trans hj
  exact BkX.own_ne hr hj (by decide) (by rw [← hob, ← e])
theorem parts_set {w : World} {db : Nat} {cs : Array Value} (h : w.heap[db]? = some (.cells cs 100 (0, 0))) (i : Nat) (u : Value) : Parts w (w.setCell ⟨db, i, none⟩ u) := fun j cs' hj => by
  refine (heap_setCell_other w ⟨db, i, none⟩ j u (fun e => ?_)).trans hj
  obtain rfl : j = db := e
  rw [hj] at h
  injection h with h
  injection h with _ h _
  exact absurd h (by decide)
theorem map_row {w : World} {B e sz n m : Nat} {v : Value} {xs : List Value} {k : TypeId} {R : Value → Option (DataW Unit × List MemPlace)} {mb : Nat} {D : DataW Unit} (h : w.ownsRow B e sz v n xs) (hm : w.ownsMap Tryz.prog k R mb m D) : v.ownBlock ≠ some mb := by
  obtain ⟨es, clock, hb, _⟩ := hm
  rcases h.2 with ⟨rfl, _⟩ | ⟨g, cap, cur, rfl, _, hg, _⟩
  · simp [Value.ownBlock]
  · intro e1
    have e2 : g = mb := Option.some.inj e1
    subst e2
    rw [hg] at hb
    cases hb

set_option maxHeartbeats 4000000 in
set_option maxRecDepth 100000 in
theorem add_in (B db mb : Nat) (acc : List ByteArray) (s : ByteArray) (w : World) (h : MT w B db mb acc) (hs : s.size ≤ 1000) (hin : s ∈ acc) (hB : B ≤ w.heap.size) :
    Calls Tryz.prog 123 #[.pointer (some ⟨db, 0, none⟩), .string s] w fun e w' => e = .returned (.tuple #[]) ∧ MT w' B db mb acc ∧ Below B w w' ∧ Parts w w' := by
  have HM := Lib.hid (h.below ((Below.refl _ _).alloc (Nat.le_refl _) (Obj.cells #[] 155)))
  obtain ⟨v, n, h1, -, h3, -⟩ := h
  obtain ⟨c0, c1, f0, f1, hl⟩ := cells_two h1
  have hkey := keyOf_S s (by unfold maxLen; omega)
  have hh : Maps.has (setM acc) (keyS s) = true := by rw [has_setM]; exact decide_eq_true hin
  clear h1 hin hs
  go_enter Tryz.func123, Tryz.ntmps123
  go_wp2_with (at_lookup; refine wpList_lookup_own_unit _ rfl _ _ 98 rfl 9 155 lawS Tryz.underlying98 (zeroU _) mb n _ rfl h3 _ _ rfl hkey ?_; rw [hh])
  refine bodyPost_ret (results_none (by rfl) _ _ _) rfl ?_
  exact ⟨rfl, HM.out, (Below.refl _ _).alloc hB _, parts_below ((Below.refl _ _).alloc (Nat.le_refl _) _)⟩

theorem add_end {B db mb k n g2 c2 c : Nat} {o : Option Addr} {acc : List ByteArray} {s : ByteArray} {w w1 w2 w5 : World} {ob : Option Nat} {ob2 : Obj} (HK : acc.length = k) (hne : db ≠ mb) (h5 : B ≤ db) (h6 : B ≤ mb) (hBw : B ≤ w1.heap.size)
    (HM : w1.ownsMap Tryz.prog 9 (unitElem (H := Unit)) mb (n + 1) (setM (acc ++ [s]))) (HG1 : Below B w w1) (HT1 : Parts w w1) (HR1 : w1.ownsRow B 9 1 (.slice o k c) k (BkX.flatE acc)) (HU : Below w1.heap.size w1 w2)
    (hob : ob = (Value.slice o k c).ownBlock) (hg : (w2.alloc ob2).grownBy w5 ob) (hown : w5.ownsRow B 9 1 (.slice (some ⟨g2, 0, none⟩) (k + 1) c2) (k + 1) (BkX.flatE acc ++ [.string s]))
    (hb5 : w5.heap[db]? = some (.cells #[.slice o k c, .map (some mb)] 100 (0, 0))) (hn : n ≤ 1000000 + k) :
    MT (w5.setCell ⟨db, 0, none⟩ (.slice (some ⟨g2, 0, none⟩) (k + 1) c2)) B db mb (acc ++ [s]) ∧ Below B w (w5.setCell ⟨db, 0, none⟩ (.slice (some ⟨g2, 0, none⟩) (k + 1) c2)) ∧ Parts w (w5.setCell ⟨db, 0, none⟩ (.slice (some ⟨g2, 0, none⟩) (k + 1) c2)) := by
  have hr2 := own_below HR1 HU
  have hm2 : w2.ownsMap Tryz.prog 9 (unitElem (H := Unit)) mb (n + 1) (setM (acc ++ [s])) := HM.kept (row := none) ⟨HU.os, HU.tape, HU.output, HU.size, fun i hi _ => HU.block i hi⟩ (by simp)
  have hm5 : w5.ownsMap Tryz.prog 9 (unitElem (H := Unit)) mb (n + 1) (setM (acc ++ [s])) := (hm2.alloc _).kept hg (fun e => map_row hr2 hm2 (by rw [← hob, ← e]))
  have hlen : (acc ++ [s]).length = k + 1 := by rw [List.length_append, HK]; rfl
  refine ⟨⟨.slice (some ⟨g2, 0, none⟩) (k + 1) c2, n + 1, ?_, ?_, hm5.setCell (a := ⟨db, 0, none⟩) (fun e => hne e.symm) _, by rw [hlen]; omega, h5, h6, hne⟩, ?_, HT1.trans ((parts_below HU).trans ((parts_below ((Below.refl _ _).alloc (Nat.le_refl _) _)).trans ((parts_row (hr2.alloc _) hob hg).trans (parts_set hb5 _ _))))⟩
  · exact heap_setCell_same w5 db 0 #[.slice o k c, .map (some mb)] 100 _ hb5
  · rw [hlen, BkX.flatE_append, BkX.flatE_one]
    refine hown.kept (row := some db) ⟨rfl, rfl, rfl, by simp [World.setCell], fun j _ hj => heap_setCell_other w5 ⟨db, 0, none⟩ j _ (fun e => hj (by simp [e]))⟩ (.inr ?_)
    exact BkX.own_ne hown hb5 (by decide)
  · have hsz := HU.size
    have h12 : Below B w w2 := HG1.trans (HU.mono hBw)
    have h25 : Below B w2 w5 := by
      refine ((Below.refl B w2).alloc (by omega) ob2).trans ⟨hg.os, hg.tape, hg.output, hg.size, fun i hi => hg.block i (by simp; omega) (fun e => ?_)⟩
      have := (hr2.lt i (by rw [← hob, ← e])).1
      omega
    exact (h12.trans h25).setCell h5 _
set_option maxHeartbeats 8000000 in
set_option maxRecDepth 100000 in
theorem add_out (B db mb : Nat) (acc : List ByteArray) (s : ByteArray) (w : World) (h : MT w B db mb acc) (hs : s.size ≤ 1000) (hout : s ∉ acc) (hB : B ≤ w.heap.size) (ha : acc.length ≤ 100000) :
    Calls Tryz.prog 123 #[.pointer (some ⟨db, 0, none⟩), .string s] w fun e w' => e = .returned (.tuple #[]) ∧ MT w' B db mb (acc ++ [s]) ∧ Below B w w' ∧ Parts w w' := by
  obtain ⟨i1, hi1, hy0, hy1, hy2⟩ := info_parts BkX.infoE
  obtain ⟨v, n, h1, h2, h3, h4, h5, h6, h7⟩ := h
  obtain ⟨o, c, rfl⟩ : ∃ o c, v = .slice o acc.length c := by
    rcases h2.2 with ⟨rfl, h0⟩ | ⟨g, cap, cur, rfl, _⟩
    · exact ⟨none, 0, by rw [h0]⟩
    · exact ⟨_, cap, rfl⟩
  obtain ⟨k, hk⟩ : ∃ k, acc.length = k := ⟨_, rfl⟩
  have HK := Lib.hid hk
  rw [hk] at h1 h2 h4 ha
  have H1 := Lib.hid h1
  have H2 := Lib.hid h2
  have H7 := Lib.hid h7
  have HBB := Lib.hid (And.intro h5 h6)
  obtain ⟨c0, c1, f0, f1, hl⟩ := cells_two h1
  have hkey := keyOf_S s (by unfold maxLen; omega)
  have hh : Maps.has (setM acc) (keyS s) = false := by rw [has_setM]; exact decide_eq_false hout
  have HS := Lib.hid (setM_snoc acc s)
  have hs2 : s.size ≤ 281474976710656 := by omega
  clear hout hs hk h1 h5 h6 h7
  go_enter Tryz.func123, Tryz.ntmps123
  go_wp2_with (first
    | (at_lookup; refine wpList_lookup_own_unit _ rfl _ _ 98 rfl 9 155 lawS Tryz.underlying98 (zeroU _) mb n _ rfl h3 _ _ rfl hkey ?_; rw [hh])
    | (at_mapUpdate; refine wpList_mapUpdate_own _ rfl _ _ _ 98 rfl 9 155 lawS Tryz.underlying98 (unitElem (H := Unit)) mb n _ rfl (h3.alloc _) (by unfold maxLen; omega) _ _ _ rfl rfl hkey _ [] unitElem_mk ?_
       intro w1 hown1 hgrow1))
  have hsz1 : w.heap.size + 1 ≤ w1.heap.size := by have := hgrow1.size; simp at this; exact this
  have hb1 : w1.heap[db]? = some (.cells #[.slice o k c, .map (some mb)] 100 (0, 0)) := by
    rw [hgrow1.block db (by simp; omega) (fun e => H7.out (Option.some.inj e)), Below.heap_alloc _ _ _ hl]; exact H1.out
  have hr1 : w1.ownsRow B 9 1 (.slice o k c) k (BkX.flatE acc) := (H2.out.alloc _).kept hgrow1 (.inr (fun e => map_row H2.out h3 e))
  have HM1 := Lib.hid hown1
  have HG1 := Lib.hid (show Below B w w1 from ((Below.refl B w).alloc hB _).trans ⟨hgrow1.os, hgrow1.tape, hgrow1.output, hgrow1.size, fun i hi => hgrow1.block i (by simp; omega) (fun e => by have e2 : i = mb := Option.some.inj e; have := HBB.out.2; omega)⟩)
  have HT1 := Lib.hid ((parts_below ((Below.refl w.heap.size w).alloc (Nat.le_refl _) (Obj.cells #[] 155))).trans (parts_map (h3.alloc _) hgrow1))
  have HR1 := Lib.hid hr1
  have HB1 := Lib.hid hb1
  have hdl : db < w1.heap.size := by omega
  clear hown1 hgrow1 c0 c1 f0 f1 h3
  obtain ⟨c0, c1, f0, f1, -⟩ := cells_two hb1
  have HC := Lib.hid (fun (nq : Nat) => (clone_any s (w1.drewN nq) hs2).mono (R' := fun e w2 => e = .returned (.string s) ∧ Below w1.heap.size w1 w2 ∧ w1.heap.size ≤ w2.heap.size ∧ db < w2.heap.size ∧ w2.heap[db]? = some (.cells #[.slice o k c, .map (some mb)] 100 (0, 0)) ∧ w2.ownsRow B 9 1 (.slice o k c) k (BkX.flatE acc) ∧ w2.cell? ⟨db, 0, none⟩ = some (.slice o k c)) (fun e w2 ⟨q1, q2⟩ => by
    have hbz : Below w1.heap.size w1 w2 := ⟨q2.os, q2.tape, q2.output, q2.size, q2.block⟩
    have hB2 := (hbz.block db hdl).trans HB1.out
    exact ⟨q1, hbz, hbz.size, Nat.lt_of_lt_of_le hdl hbz.size, hB2, own_below HR1.out hbz, (cells_two hB2).1⟩))
  clear hr1 hb1
  go_region_law (first
    | (refine step_append_lies _ rfl _ _ 23 rfl B 9 i1 (.string ⟨#[]⟩) 1 16 Tryz.underlying23 hi1 hy0 hy1 hy2 rfl (by decide) _ _ _ rfl (HR2.out.alloc _) ⟨w2.heap.size, 0, none⟩ 1 1 [.string s] rfl rfl (BkX.cell_1 _ _ _) (by intro u hu; simp at hu; subst hu; rfl) (by decide) (by unfold maxLen; omega) (by omega) (by simp; omega) _ rfl ?_
       intro g2 c2 w5 hown5 hgrow5 hat5 hlt5
       have hb5 : w5.heap[db]? = some (.cells #[.slice o k c, .map (some mb)] 100 (0, 0)) := by
         rw [hgrow5.block db (by simp; omega) (fun e => BkX.own_ne HR2.out HB2.out (by decide) e.symm), Below.heap_alloc _ _ _ hdl2]; exact HB2.out
       have q50 : w5.cell? ⟨db, 0, none⟩ = some (.slice o k c) := (cells_two hb5).1
       have z50 : w5.frozen? ⟨db, 0, none⟩ = false := (cells_two hb5).2.2.1
       have HG5 := Lib.hid (And.intro hown5 (And.intro hgrow5 (And.intro hat5 hb5)))
       clear hown5 hgrow5 hat5 hb5)
    | (go_simp
       refine ((HC.out 1)).mono ?_
       rintro e w2 ⟨rfl, hbz, hsz2, hdl2, hB2, hR2, q20⟩
       have HB2 := Lib.hid hB2
       have HR2 := Lib.hid hR2
       have HU := Lib.hid hbz
       clear hbz hB2 hR2))
  all_goals
    go_wp2
    go_end0
    exact ⟨rfl, add_end HK.out H7.out HBB.out.1 HBB.out.2 (by omega) (by rw [HS.out]; exact HM1.out) HG1.out HT1.out HR1.out HU.out (ob := (Value.slice o k c).ownBlock) rfl HG5.out.2.1 HG5.out.1 HG5.out.2.2.2 h4⟩
end Go.Proofs.YtddglepimbfdkaaGreatDoor.Knd
