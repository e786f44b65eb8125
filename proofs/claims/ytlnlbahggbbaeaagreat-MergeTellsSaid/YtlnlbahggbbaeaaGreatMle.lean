/- A tree is made of lists: the walk. -/
import Derived.Test.YtlnlbahggbbaeaaGreatMld
import Derived.Deep.RegionLaw
import Derived.Deep.AppendLies
namespace Go.Proofs.YtlnlbahggbbaeaaGreat.Mrg
open Go.RowKit Go.Lib Go.Proofs.YtlnlbahggbbaeaaGreat Go.Proofs.YtlnlbahggbbaeaaGreat.Vec Go.Proofs.YtlnlbahggbbaeaaGreat.Stb

theorem infoLeaf : (Tryz.prog.info? 88).map (fun i => (i.zero, i.size, i.bytes)) = some (some .nilIface, 1, 16) := by kernel_rfl
theorem infoInt : (Tryz.prog.info? 3).map (fun i => (i.zero, i.size, i.bytes)) = some (some (.int .i64 0), 1, 8) := by kernel_rfl
/-- Lists of rows lie so. -/
def ListS (w : World) (B : Nat) (o : Option Addr) (ms : List Ls) : Prop :=
  ms = [] ∨ ∃ b off, o = some ⟨b, off, none⟩ ∧ b < w.heap.size ∧ ∀ (j : Nat) (m : Ls), ms[j]? = some m → w.cell? ⟨b, off + j, none⟩ = some (.slice m.o m.xs.length m.c) ∧ LsS w B m
theorem ListS.below {w w' : World} {B : Nat} {o : Option Addr} {ms : List Ls} (h : ListS w B o ms) (hb : Below w.heap.size w w') : ListS w' B o ms := by
  rcases h with h | ⟨b, off, e, hl, h⟩
  · exact .inl h
  · exact .inr ⟨b, off, e, Nat.lt_of_lt_of_le hl hb.size, fun j m hm => ⟨(hb.cell (p := ⟨b, _, none⟩) hl).trans (h j m hm).1, (h j m hm).2.below hb⟩⟩
theorem ListS.all {w : World} {B : Nat} {o : Option Addr} {ms : List Ls} (h : ListS w B o ms) : ∀ m ∈ ms, LsS w B m := fun m hm => by
  rcases h with h | ⟨b, off, e, hl, h⟩
  · rw [h] at hm; cases hm
  · obtain ⟨j, hj⟩ := List.getElem?_of_mem hm
    exact (h j m hj).2
/-- While leaves are laid: i of them are. -/
structure TreeB (w : World) (N tb bo bw n : Nat) (by_ : Int) (i : Nat) (ms : List Ls) : Prop where
  tree : ∃ v, w.heap[tb]? = some (.cells #[.int .i64 by_, v, .slice (some ⟨bo, 0, none⟩) n n] 87 (0, 0)) ∧ w.ownsRow N 88 1 v i ((ms.take i).map leafV)
  los : w.rowIs bo 3 n (fun _ => .int .i64 0)
  win : w.rowIs bw 3 (2 * n) (fun j => .int .i64 ((if n ≤ j ∧ j < n + i then j - n else 0 : Nat) : Int))

theorem cell_one (w : World) (v : Value) (t : TypeId) : ∀ j u, [v][j]? = some u → (w.alloc (.cells #[v] t)).cell? ((⟨w.heap.size, 0, none⟩ : Addr).add j) = some u := by
  intro j u h
  cases j with
  | zero =>
    simp only [List.getElem?_cons_zero, Option.some.injEq] at h
    subst h
    simp [Addr.add]
  | succ j => simp at h
theorem leaf_cell (m : Ls) : (leafV m).oneCell' = true := by
  unfold leafV
  split <;> rfl
theorem leaf_form (m : Ls) : ∃ t v, leafV m = .iface t v := by
  unfold leafV
  split <;> exact ⟨_, _, rfl⟩
theorem row_form {w : World} {N : Nat} {t : TypeId} {v : Value} {i : Nat} {xs : List Value} (h : w.ownsRow N t 1 v i xs) : ∃ o c, v = .slice o i c := by
  rcases h.2 with ⟨rfl, rfl⟩ | ⟨g, cap, cur, rfl, _⟩
  · exact ⟨_, _, rfl⟩
  · exact ⟨_, _, rfl⟩
theorem start_tree (w : World) (by_ : Int) (n n2 : Nat) (h2 : 2 * n = n2) (ms : List Ls) :
    TreeB (((w.alloc (.cells (madeCells #[.int .i64 0] n) 3)).alloc (.cells #[.int .i64 by_, .slice none 0 0, .slice (some ⟨w.heap.size, 0, none⟩) n n] 87)).alloc (.cells (madeCells #[.int .i64 0] n2) 3)) (w.heap.size + 3) (w.heap.size + 1) w.heap.size (w.heap.size + 2) n by_ 0 ms := by
  subst h2
  refine ⟨⟨.slice none 0 0, ?_, ?_⟩, ?_, ?_⟩
  · rw [Below.heap_alloc _ _ _ (by simp)]
    have e := World.alloc_heap_new (w.alloc (.cells (madeCells #[.int .i64 0] n) 3)) (.cells #[.int .i64 by_, .slice none 0 0, .slice (some ⟨w.heap.size, 0, none⟩) n n] 87)
    rw [World.size_alloc] at e; exact e
  · rw [List.take_zero]; exact World.ownsRow_nil _ _ _ _
  · exact ((World.rowIs_made w (.int .i64 0) n 3).alloc _).alloc _
  · have e := World.rowIs_made ((w.alloc (.cells (madeCells #[.int .i64 0] n) 3)).alloc (.cells #[.int .i64 by_, .slice none 0 0, .slice (some ⟨w.heap.size, 0, none⟩) n n] 87)) (.int .i64 0) (2 * n) 3
    rw [World.size_alloc, World.size_alloc] at e
    exact e.congr fun j _ => by rw [if_neg (by omega)]; rfl
def W0 (n j : Nat) : Nat := if n ≤ j ∧ j < n + n then j - n else 0
theorem TreeB.full {wr : World} {N tb bo bw n : Nat} {by_ : Int} {ms : List Ls} (h : TreeB wr N tb bo bw n by_ n ms) (hn : ms.length = n) (h1 : 1 ≤ n) :
    ∃ bl cl, N ≤ bl ∧ TreeM wr tb bl bo cl n by_ ms (fun _ => 0) ∧ wr.rowIs bw 3 (2 * n) (fun j => .int .i64 (W0 n j : Nat)) := by
  obtain ⟨v, ht, _, hv⟩ := h.tree
  rcases hv with ⟨_, e⟩ | ⟨g, cap, cur, rfl, hg, hh, hc, _, hs, hx⟩
  · omega
  · refine ⟨g, cap, hg, ⟨ht, hn, hc, ⟨fun i => cur[i]?.getD undef, ⟨cur, hh, by omega, fun i hi => by show cur[i]? = some (cur[i]?.getD undef); rw [Array.getElem?_eq_getElem (by omega)]; rfl⟩, fun i m hm => ?_⟩, h.los⟩, h.win⟩
    have hi := (List.getElem?_eq_some_iff.1 hm).1
    have e := congrArg (fun l => l[i]?) hx
    simp only [List.getElem?_take, List.getElem?_map, Nat.mul_one] at e
    rw [if_pos (by omega), if_pos (by omega), hm] at e
    show cur[i]?.getD undef = leafV m
    rw [← Array.getElem?_toList, e]; rfl
theorem BuildT.start {ls : List (List Rw)} {n : Nat} {by_ : Int} (h1 : 1 ≤ n) : BuildT (lessR by_) ls n (fun _ => 0) (W0 n) (n - 1) :=
  ⟨fun i hi => by unfold W0; rw [if_pos (by omega)]; omega, fun j hj => by unfold W0; split <;> omega, fun j h2 h3 => by omega⟩
theorem TreeB.step {wr W5 : World} {N tb bo bw n i : Nat} {by_ : Int} {ms : List Ls} {m : Ls} {v v5 : Value} {o5 : Obj} (h : TreeB wr N tb bo bw n by_ i ms) (hN : tb < N ∧ bo < N ∧ bw < N ∧ N ≤ wr.heap.size ∧ tb ≠ bw ∧ bo ≠ tb ∧ bo ≠ bw) (hm : ms[i]? = some m)
    (ht : wr.heap[tb]? = some (.cells #[.int .i64 by_, v, .slice (some ⟨bo, 0, none⟩) n n] 87 (0, 0))) (hv : ∀ g, v.ownBlock = some g → N ≤ g)
    (hown : W5.ownsRow N 88 1 v5 (i + 1) ((ms.take i).map leafV ++ [leafV m])) (hg : ((wr.alloc o5).drew).grownBy W5 v.ownBlock) :
    TreeB ((W5.setCell ⟨tb, 1, none⟩ v5).setCell ⟨bw, n + i, none⟩ (.int .i64 (i : Nat))) N tb bo bw n by_ (i + 1) ms := by
  obtain ⟨n1, n2, n3, n4, n5, n6, n7⟩ := hN
  have keep : ∀ k, k < N → W5.heap[k]? = wr.heap[k]? := fun k hk => by
    rw [hg.block k (by show k < (wr.alloc o5).heap.size; rw [World.size_alloc]; omega) (fun e => by have := hv k e.symm; omega)]
    exact Below.heap_alloc wr o5 k (by omega)
  refine ⟨⟨v5, ?_, ?_⟩, ?_, ?_⟩
  · rw [Below.heap_setCell _ _ _ _ n5]
    rw [Lib.heap_setCell_same ((keep tb n1).trans ht)]; rfl
  · rw [take_atG hm, List.map_append]
    exact ownsRow_setCell_below (ownsRow_setCell_below hown n1 _) n3 _
  · exact ((h.los.of_block (keep bo n2)).setOther n6 _).setOther n7 _
  · have hw := ((h.win.of_block (keep bw n3)).setOther (a := ⟨tb, 1, none⟩) (fun e => n5 e.symm) v5).set (n + i) (.int .i64 (i : Nat))
    refine hw.congr fun j hj => ?_
    by_cases e : j = n + i
    · rw [if_pos e, if_pos (by omega), show j - n = i by omega]
    · rw [if_neg e]
      by_cases e2 : n ≤ j ∧ j < n + i
      · rw [if_pos e2, if_pos (by omega)]
      · rw [if_neg e2, if_neg (by omega)]

/-- What a step of building reads. -/
def InS (w : World) (r n k pa pb : Nat) : Prop := w.cell? ⟨r + 1 + 1, k, none⟩ = some (.int .i64 (pa : Nat)) ∧ w.cell? ⟨r + 1 + 1, k + 1, none⟩ = some (.int .i64 (pb : Nat)) ∧ w.cell? ⟨r + 1, 2, none⟩ = some (.slice (some ⟨r, 0, none⟩) n n)
theorem inS_two {w : World} {r bl cl n : Nat} {by_ : Int} {ms : List Ls} {los W : Nat → Nat} (h : TreeM w (r + 1) bl r cl n by_ ms los) (hw : w.rowIs (r + 1 + 1) 3 (2 * n) (fun j => .int .i64 (W j : Nat))) {u : Nat} (hu : u + 1 < n) (x y : Value) :
    InS w r n (2 * (u + 1)) (W (2 * (u + 1))) (W (2 * (u + 1) + 1)) ∧ InS (w.setCell ⟨r + 1 + 1, u + 1, none⟩ x) r n (2 * (u + 1)) (W (2 * (u + 1))) (W (2 * (u + 1) + 1)) ∧ InS ((w.setCell ⟨r + 1 + 1, u + 1, none⟩ x).setCell ⟨r, u + 1, none⟩ y) r n (2 * (u + 1)) (W (2 * (u + 1))) (W (2 * (u + 1) + 1)) := by
  have h1 := hw.set (u + 1) x
  have h2 := h1.setOther (a := ⟨r, u + 1, none⟩) (show r + 1 + 1 ≠ r by omega) y
  have g1 : (w.setCell ⟨r + 1 + 1, u + 1, none⟩ x).cell? ⟨r + 1, 2, none⟩ = w.cell? ⟨r + 1, 2, none⟩ := World.cell?_of_block (Below.heap_setCell _ _ _ _ (show r + 1 ≠ r + 1 + 1 by omega))
  have g2 : ((w.setCell ⟨r + 1 + 1, u + 1, none⟩ x).setCell ⟨r, u + 1, none⟩ y).cell? ⟨r + 1, 2, none⟩ = w.cell? ⟨r + 1, 2, none⟩ := (World.cell?_of_block (Below.heap_setCell _ _ _ _ (show r + 1 ≠ r by omega))).trans g1
  refine ⟨⟨hw.cell (by omega), hw.cell (by omega), h.c2⟩, ⟨?_, ?_, g1.trans h.c2⟩, ⟨?_, ?_, g2.trans h.c2⟩⟩
  · have := h1.cell (i := 2 * (u + 1)) (by omega)
    rwa [if_neg (by omega)] at this
  · have := h1.cell (i := 2 * (u + 1) + 1) (by omega)
    rwa [if_neg (by omega)] at this
  · have := h2.cell (i := 2 * (u + 1)) (by omega)
    rwa [if_neg (by omega)] at this
  · have := h2.cell (i := 2 * (u + 1) + 1) (by omega)
    rwa [if_neg (by omega)] at this

set_option maxHeartbeats 8000000 in
set_option maxRecDepth 100000 in
theorem newTree_any (by_ : Int) (o : Option Addr) (n cp B : Nat) (ms : List Ls) (w : World) (hn : ms.length = n) (h1 : 1 ≤ n) (h2 : n ≤ 1000) (hS : ListS w B o ms) :
    Calls Tryz.prog 21 #[.int .i64 by_, .slice o n cp] w fun e w' => ∃ tb, e = .returned (.pointer (some ⟨tb, 0, none⟩)) ∧ (∃ (bl bo cl : Nat) (los W : Nat → Nat), TreeM w' tb bl bo cl n by_ ms los ∧ TreeT (lessR by_) (lsx ms) n los W ∧ w.heap.size ≤ bl ∧ w.heap.size ≤ bo) ∧ w.heap.size ≤ tb ∧ Below w.heap.size w w' := by
  obtain ⟨i0, hi, hz0, hz1, hz2⟩ := info_parts infoInt
  obtain ⟨i1, hi1, hy0, hy1, hy2⟩ := info_parts infoLeaf
  obtain ⟨b, off, rfl, hbl, hC⟩ : ∃ b off, o = some ⟨b, off, none⟩ ∧ b < w.heap.size ∧ ∀ (j : Nat) (m : Ls), ms[j]? = some m → w.cell? ⟨b, off + j, none⟩ = some (.slice m.o m.xs.length m.c) ∧ LsS w B m := by
    rcases hS with h | h
    · rw [h] at hn; simp at hn; omega
    · exact h
  have HC := Lib.hid hC
  have HN := Lib.hid hn
  obtain ⟨r, hr⟩ : ∃ r, w.heap.size = r := ⟨_, rfl⟩
  obtain ⟨n2, hn2⟩ : ∃ n2, 2 * n = n2 := ⟨_, rfl⟩
  have wk : IntKind.i64.wrap (2 * (n : Int)) = (n2 : Int) := by rw [IntKind.wrap_i64]; omega
  have HL := Lib.hid (fun (o : Option Addr) (c : Nat) (xs : List Rw) (k : Nat) (hk : xs.length = k) W => leafOf_any o k c xs W hk)
  have HST := Lib.hid (start_tree w by_ n n2 hn2 ms)
  have HBT := Lib.hid ((((Below.refl w.heap.size w).alloc (Nat.le_refl _) (.cells (madeCells #[.int .i64 0] n) 3)).alloc (by simp) (.cells #[.int .i64 by_, .slice none 0 0, .slice (some ⟨w.heap.size, 0, none⟩) n n] 87)).alloc (by simp; omega) (.cells (madeCells #[.int .i64 0] n2) 3))
  have HN2 := Lib.hid hn2
  have HR := Lib.hid hr
  have hbr : b < r := by omega
  clear hS hC hn hn2 hbl
  go_enter Tryz.func21, Tryz.ntmps21
  go_wp2_with (first | (at_make; refine wpList_make_row _ rfl _ _ 40 rfl 3 i0 (.int .i64 0) Tryz.underlying40 hi hz0 hz1 rfl .i64 .i64 n rfl rfl (by rw [hz2]; omega) (by omega) ?_) | (at_make; refine wpList_make_row _ rfl _ _ 40 rfl 3 i0 (.int .i64 0) Tryz.underlying40 hi hz0 hz1 rfl .i64 .i64 n2 rfl rfl (by have := HN2.out; rw [hz2]; omega) (by have := HN2.out; omega) ?_) | fail)
  rw [hr] at HST HBT
  go_loopw [23] (fun v23 wr => ∃ i : Nat, v23 = .int .i64 (i : Nat) ∧ i ≤ n ∧ Hid (TreeB wr (r + 3) (r + 1) r (r + 1 + 1) n by_ i ms) ∧ Hid (Below r w wr ∧ r + 3 ≤ wr.heap.size)) (fun v23 _ => n - (Go.RowKit.intOf v23).toNat)
  case atStart =>
    refine ⟨0, rfl, Nat.zero_le _, HST, HBT.out, ?_⟩
    have := HR.out
    simp; omega
  case round =>
    obtain ⟨i, rfl, hin, hT, hB⟩ := hrel
    by_cases hlt : i < n
    · obtain ⟨m, hm⟩ := get_ltG HN.out hlt
      have hc := (HC.out i m hm).1
      rw [← hB.out.1.cell (p := ⟨b, off + i, none⟩) hbr] at hc
      obtain ⟨v, ht, hown⟩ := hT.out.tree
      obtain ⟨mo, hmo⟩ : ∃ mo, m.o = mo := ⟨_, rfl⟩
      obtain ⟨mn, hmn⟩ : ∃ mn, m.xs.length = mn := ⟨_, rfl⟩
      obtain ⟨mc, hmc⟩ : ∃ mc, m.c = mc := ⟨_, rfl⟩
      rw [hmo, hmn, hmc] at hc
      obtain ⟨lt, lw, hlv⟩ := leaf_form m
      have HL1 := Lib.hid (fun W => HL.out mo mc m.xs mn hmn W)
      rw [show (⟨mo, mc, m.xs⟩ : Ls) = m by rw [← hmo, ← hmc], hlv] at HL1
      have hl1 : (Value.iface lt lw).oneCell' = true := rfl
      have HLV := Lib.hid hlv
      have HM := Lib.hid hm
      obtain ⟨xs, hxs⟩ : ∃ xs, (ms.take i).map leafV = xs := ⟨_, rfl⟩
      rw [hxs] at hown
      have HXS := Lib.hid hxs
      have HO := Lib.hid hown
      have HV := Lib.hid (fun g hg => (hown.lt g hg).1)
      have HT2 := Lib.hid ht
      obtain ⟨ov, cv, rfl⟩ := row_form hown
      have q1 : wr.cell? ⟨r + 1, 1, none⟩ = some (.slice ov i cv) := by simp [World.cell?, ht]
      have hsz := hB.out.2
      have q2 : (wr.alloc (Obj.cells #[.iface lt lw] 88)).cell? ⟨r + 1, 1, none⟩ = some (.slice ov i cv) := (World.cell?_of_block (a := ⟨r + 1, 1, none⟩) (Below.heap_alloc wr _ _ (show r + 1 < wr.heap.size by omega))).trans q1
      have j1 : (i : Int) < n := by omega
      have j2 : (0 : Int) ≤ i := by omega
      have wk2 : IntKind.i64.wrap ((n : Int) + i) = ((n + i : Nat) : Int) := by rw [IntKind.wrap_i64]; omega
      have j3 : ((n + i : Nat) : Int) < n2 := by have := HN2.out; omega
      have j4 : (0 : Int) ≤ ((n + i : Nat) : Int) := by omega
      have j5 : (i : Int) ≤ n := by omega
      clear hmo hmn hmc hlv hm hxs hown ht HL
      go_wp2_with fail
      go_region_law (first
        | (refine step_append_lies _ rfl _ _ 85 rfl (r + 3) 88 i1 .nilIface 1 16 Tryz.underlying85 hi1 hy0 hy1 hy2 rfl (by decide) _ _ _ rfl (show ((wr.alloc (Obj.cells #[.iface lt lw] 88)).drew).ownsRow _ _ _ _ _ _ from World.ownsRow.alloc HO.out _) ⟨wr.heap.size, 0, none⟩ 1 1 [.iface lt lw] rfl rfl (show ∀ j u, [Value.iface lt lw][j]? = some u → ((wr.alloc (Obj.cells #[.iface lt lw] 88)).drew).cell? ((⟨wr.heap.size, 0, none⟩ : Addr).add j) = some u from cell_one wr (.iface lt lw) _) (by intro u hu; simp at hu; subst hu; exact hl1) (by decide) (by unfold maxLen; omega) (by omega) (by show r + 3 ≤ (wr.alloc _).heap.size; rw [World.size_alloc]; omega) _ rfl ?_
           intro g2 c2 w5 hown5 hgrow5 hat5 hlt5
           have hb5 : w5.heap[r + 1]? = some (.cells #[.int .i64 by_, .slice ov i cv, .slice (some ⟨r, 0, none⟩) n n] 87 (0, 0)) := by
             rw [hgrow5.block (r + 1) (by show r + 1 < (wr.alloc _).heap.size; rw [World.size_alloc]; omega) (fun e => by have := HV.out _ e.symm; omega)]; exact (Below.heap_alloc wr _ _ (by omega)).trans HT2.out
           have q50 : w5.cell? ⟨r + 1, 1, none⟩ = some (.slice ov i cv) := by simp [World.cell?, hb5]
           have z50 : w5.frozen? ⟨r + 1, 1, none⟩ = false := by simp [World.frozen?, hb5]
           have HW5 := Lib.hid (show w5.heap[r + 1 + 1]? = wr.heap[r + 1 + 1]? by rw [hgrow5.block (r + 1 + 1) (by show r + 1 + 1 < (wr.alloc _).heap.size; rw [World.size_alloc]; omega) (fun e => by have := HV.out _ e.symm; omega)]; exact (Below.heap_alloc wr _ _ (by omega)))
           have HG5 := Lib.hid (And.intro hown5 hgrow5)
           clear hown5 hgrow5 hat5 hb5)
        | (go_simp; refine (HL1.out _).mono ?_; rintro e w2 ⟨rfl, rfl⟩))
      all_goals
        have hw6 := (hT.out.win.of_block HW5.out).setOther (a := ⟨r + 1, 1, none⟩) (show r + 1 + 1 ≠ r + 1 by omega) (.slice (some ⟨g2, 0, none⟩) (i + 1) c2)
        rw [HN2.out] at hw6
        have s1 := hw6.cell (i := n + i) (by have := HN2.out; omega)
        have s2 := hw6.frozen (n + i)
        generalize Value.int IntKind.i64 ((if n ≤ n + i ∧ n + i < n + i then n + i - n else 0 : Nat) : Int) = z at s1
        clear hw6 q1 q2 q50 z50
        go_wp2
        go_roundw
        case rel =>
          have hx := HG5.out.1
          rw [← HLV.out, ← HXS.out] at hx
          refine ⟨i + 1, by go_num, by omega, TreeB.step hT.out (by omega) HM.out HT2.out HV.out hx HG5.out.2, ?_, ?_⟩
          · exact (((((hB.out.1.alloc (by omega) (Obj.cells #[.iface lt lw] 88)).drew).grown HG5.out.2 (by show r ≤ (wr.alloc _).heap.size; rw [World.size_alloc]; omega) (fun k e => by have := HV.out k e; omega)).setCell (p := ⟨r + 1, 1, none⟩) (show r ≤ r + 1 by omega) _).setCell (p := ⟨r + 1 + 1, n + i, none⟩) (show r ≤ r + 1 + 1 by omega) _)
          · have e1 : (wr.alloc (Obj.cells #[.iface lt lw] 88)).heap.size ≤ w5.heap.size := HG5.out.2.size
            rw [World.size_alloc] at e1
            simp [World.setCell]; omega
        case measure => simp [Go.RowKit.intOf]; omega
    · have hin2 : i = n := by omega
      subst hin2
      obtain ⟨bl, cl, hbl2, hm0, hw0⟩ := hT.out.full HN.out h1
      have HM0 := Lib.hid hm0
      have HW0 := Lib.hid hw0
      have HS := Lib.hid (BuildT.start (ls := lsx ms) (by_ := by_) h1)
      have hBx := Lib.hid hB.out.1
      have wk3 : IntKind.i64.wrap ((i : Int) - 1) = ((i - 1 : Nat) : Int) := by rw [IntKind.wrap_i64]; omega
      have HH : Hid (hBx = hBx) := Lib.hid rfl
      clear hT hB hm0 hw0 HH hi1 hy0 hy1 hy2 HL hlt hin
      go_wp2
      go_loopw [10] (fun v10 wr2 => ∃ (v : Nat) (los W : Nat → Nat), v10 = .int .i64 (v : Nat) ∧ v + 1 ≤ i ∧ Hid (BuildT (lessR by_) (lsx ms) i los W v) ∧ Hid (TreeM wr2 (r + 1) bl r cl i by_ ms los) ∧ Hid (wr2.rowIs (r + 1 + 1) 3 (2 * i) (fun j => .int .i64 (W j : Nat))) ∧ Hid (Below r w wr2)) (fun v10 _ => (Go.RowKit.intOf v10).toNat)
      case atStart => exact ⟨i - 1, _, _, rfl, by omega, HS, HM0, HW0, hBx⟩
      case round =>
        obtain ⟨v, los, W, rfl, hv, hb, hm, hw, hB⟩ := hrel
        by_cases hv1 : 1 ≤ v
        · obtain ⟨u, rfl⟩ : ∃ u, v = u + 1 := ⟨v - 1, by omega⟩
          have hvi : u + 1 < i := by omega
          have HS2 := Lib.hid (hb.out.step (swo_less by_) hvi)
          have ha := hb.out.wb (2 * (u + 1)) (by omega)
          have hb2 := hb.out.wb (2 * (u + 1) + 1) (by omega)
          obtain ⟨x, hx⟩ : ∃ x, holdT (lessR by_) (lsx ms) (W (2 * (u + 1))) (W (2 * (u + 1) + 1)) = x := ⟨_, rfl⟩
          rw [hx] at HS2
          have c3 : InS wr r i (2 * (u + 1)) (W (2 * (u + 1))) (W (2 * (u + 1) + 1)) := ⟨hw.out.cell (by omega), hw.out.cell (by omega), hm.out.c2⟩
          have HR2 : Hid (∀ W', Below wr.heap.size wr W' → ∀ m ∈ ms, LsS W' B m) := Lib.hid (fun W' hW m hm2 => by
            obtain ⟨j, hj⟩ := List.getElem?_of_mem hm2
            exact (HC.out j m hj).2.below (by rw [hr]; exact hB.out.trans (hW.mono (by have := hB.out.size; omega))))
          have HA := Lib.hid (fun (W' : World) (hW : Hid (Below wr.heap.size wr W')) => (hold_any (hm.out.below hW.out) (HR2.out W' hW.out) (W (2 * (u + 1))) (W (2 * (u + 1) + 1)) ha hb2).mono (fun e w' q => show e = .returned (.tuple #[.int .i64 (x.1 : Nat), .int .i64 (x.2 : Nat)]) ∧ (InS w' r i (2 * (u + 1)) (W (2 * (u + 1))) (W (2 * (u + 1) + 1)) ∧ InS (w'.setCell ⟨r + 1 + 1, u + 1, none⟩ (.int .i64 (x.1 : Nat))) r i (2 * (u + 1)) (W (2 * (u + 1))) (W (2 * (u + 1) + 1)) ∧ InS ((w'.setCell ⟨r + 1 + 1, u + 1, none⟩ (.int .i64 (x.1 : Nat))).setCell ⟨r, u + 1, none⟩ (.int .i64 (x.2 : Nat))) r i (2 * (u + 1)) (W (2 * (u + 1))) (W (2 * (u + 1) + 1))) ∧ (w'.cell? ⟨r + 1 + 1, u + 1, none⟩ = some (.int .i64 (W (u + 1) : Nat)) ∧ w'.frozen? ⟨r + 1 + 1, u + 1, none⟩ = false ∧ (w'.setCell ⟨r + 1 + 1, u + 1, none⟩ (.int .i64 (x.1 : Nat))).cell? ⟨r, u + 1, none⟩ = some (.int .i64 (los (u + 1) : Nat)) ∧ (w'.setCell ⟨r + 1 + 1, u + 1, none⟩ (.int .i64 (x.1 : Nat))).frozen? ⟨r, u + 1, none⟩ = false) ∧ Hid (Below wr.heap.size wr w') from by
            have h2 := hW.out.trans (q.2.mono hW.out.size)
            have h3 := hm.out.below h2
            have h4 := hw.out.of_block (h2.block _ hw.out.lt)
            rw [← hx]
            exact ⟨q.1, inS_two h3 h4 (by omega) _ _, ⟨h4.cell (by omega), h4.frozen _, (h3.los.setOther (a := ⟨r + 1 + 1, u + 1, none⟩) (show r ≠ r + 1 + 1 by omega) _).cell hvi, (h3.los.setOther (a := ⟨r + 1 + 1, u + 1, none⟩) (show r ≠ r + 1 + 1 by omega) _).frozen _⟩, h2⟩))
          have rb := Lib.hid (Below.refl wr.heap.size wr).drew
          obtain ⟨pa, hpa⟩ : ∃ pa, W (2 * (u + 1)) = pa := ⟨_, rfl⟩
          obtain ⟨pb, hpb⟩ : ∃ pb, W (2 * (u + 1) + 1) = pb := ⟨_, rfl⟩
          obtain ⟨k1, hk1⟩ : ∃ k1, 2 * (u + 1) = k1 := ⟨_, rfl⟩
          obtain ⟨k0, hk0⟩ : ∃ k0, u + 1 = k0 := ⟨_, rfl⟩
          obtain ⟨l0, hl0⟩ : ∃ l0, los k0 = l0 := ⟨_, rfl⟩
          obtain ⟨q0, hq0⟩ : ∃ q0, W k0 = q0 := ⟨_, rfl⟩
          have HK1 := Lib.hid hk1
          have HK0 := Lib.hid hk0
          rw [hpa, hpb] at c3 HA
          rw [hk1] at c3 HA
          rw [hk0] at HA HS2
          rw [hl0, hq0] at HA
          have i1 : (k0 : Int) < i := by omega
          have i2 : (0 : Int) < k0 := by omega
          have i2n : 0 < k0 := by omega
          have i3 : (k1 : Int) < n2 := by have := HN2.out; omega
          have i4 : (k1 : Int) + 1 < n2 := by have := HN2.out; omega
          have i5 : (0 : Int) ≤ k1 := by omega
          have i6 : (k0 : Int) < n2 := by omega
          have i7 : (0 : Int) ≤ k1 + 1 := by omega
          have wk4 : IntKind.i64.wrap (2 * (k0 : Int)) = k1 := by rw [IntKind.wrap_i64]; omega
          have wk5 : IntKind.i64.wrap ((k1 : Int) + 1) = k1 + 1 := by rw [IntKind.wrap_i64]; omega
          rw [show ((u + 1 : Nat) : Int) = (k0 : Int) by omega]
          have HX := Lib.hid hx
          clear ha hb2 hpa hpb hk1 hk0 hl0 hq0 hx hv hv1 hvi HR2
          go_wp2_with fail
          go_region_held3 (fun w' => w'.cell? ⟨r + 1 + 1, k1, none⟩ = some (.int .i64 (pa : Nat)) ∧ w'.cell? ⟨r + 1 + 1, k1 + 1, none⟩ = some (.int .i64 (pb : Nat)) ∧ w'.cell? ⟨r + 1, 2, none⟩ = some (.slice (some ⟨r, 0, none⟩) i i)) (first | exact t1 | exact t2 | exact t3 | exact c3) (first
            | (go_at_call 71; go_fit (HA.out _ rb); rintro e wq ⟨rfl, ⟨t1, t2, t3⟩, ⟨s1, s2, s3, s4⟩, sb⟩))
          have HTq := Lib.hid (hm.out.below sb.out)
          have HWq := Lib.hid (hw.out.of_block (sb.out.block _ hw.out.lt))
          have hm2 := Lib.hid ((HTq.out.turns (Turns.set (T := fun k => k = r + 1 + 1) wq ⟨r + 1 + 1, k0, none⟩ (.int .i64 (x.1 : Nat)) rfl) (by omega) (by omega) (by omega)).setLos k0 x.2)
          have hw2 := Lib.hid (((HWq.out.set k0 (.int .i64 (x.1 : Nat))).setOther (a := ⟨r, k0, none⟩) (show r + 1 + 1 ≠ r by omega) (.int .i64 (x.2 : Nat))).congr (g := fun j => .int .i64 (updT W k0 x.1 j : Nat)) (fun j _ => by
            unfold updT
            by_cases e : j = k0
            · rw [if_pos e, if_pos e]
            · rw [if_neg e, if_neg e]))
          have hb2 := Lib.hid (((hB.out.trans (sb.out.mono (by have := hB.out.size; omega))).setCell (p := ⟨r + 1 + 1, k0, none⟩) (show r ≤ r + 1 + 1 by omega) (.int .i64 (x.1 : Nat))).setCell (p := ⟨r, k0, none⟩) (Nat.le_refl _) (.int .i64 (x.2 : Nat)))
          clear HA rb c3 t1 t2 t3 s1 s2 s3 s4 sb HTq HWq
          have wk6 : IntKind.i64.wrap ((k0 : Int) - 1) = u := by rw [IntKind.wrap_i64]; have := HK0.out; omega
          go_wp2
          go_roundw
          case rel => exact ⟨u, updT los k0 x.2, updT W k0 x.1, rfl, by have := HK0.out; omega, HS2, hm2, hw2, hb2⟩
          case measure => have := HK0.out; simp [Go.RowKit.intOf]; omega
        · have hv0 : v = 0 := by omega
          subst hv0
          have c3 := hm.out.c2
          have hi1 : 0 < i := by omega
          have hi2 : (0 : Int) < i := by omega
          have hi3 : (1 : Int) < n2 := by have := HN2.out; omega
          have c1 : wr.cell? ⟨r + 1 + 1, 1, none⟩ = some (.int .i64 (W 1 : Nat)) := hw.out.cell (by omega)
          have c2 : wr.cell? ⟨r, 0, none⟩ = some (.int .i64 (los 0 : Nat)) := hm.out.los.cell hi1
          have c4 := hm.out.los.frozen 0
          have HT := Lib.hid hb.out.done
          have hm2 := Lib.hid (hm.out.setLos 0 (W 1))
          have hb2 := Lib.hid (hB.out.setCell (p := ⟨r, 0, none⟩) (Nat.le_refl _) (.int .i64 (W 1 : Nat)))
          obtain ⟨pa, hpa⟩ : ∃ pa, W 1 = pa := ⟨_, rfl⟩
          rw [hpa] at c1 HT hm2 hb2
          clear hv hv1 hpa
          go_wp2
          go_region
          go_wp2
          go_ret
          exact ⟨r + 1, rfl, ⟨bl, r, cl, _, _, hm2.out.keep rfl rfl rfl, HT.out, by omega, by omega⟩, by omega, by rw [hr]; exact hb2.out.drew⟩
end Go.Proofs.YtlnlbahggbbaeaaGreat.Mrg
