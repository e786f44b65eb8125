/- The iterator over a tree's rows: its contract. -/
import Derived.Test.YtlnlbahggbbaeaaGreatMle
namespace Go.Proofs.YtlnlbahggbbaeaaGreat.Mrg
open Go.RowKit Go.Lib Go.Proofs.YtlnlbahggbbaeaaGreat Go.Proofs.YtlnlbahggbbaeaaGreat.Vec Go.Proofs.YtlnlbahggbbaeaaGreat.Stb

/-- How many rows the leaves have, as memory tells it. -/
def leafN : Option Value → Nat
  | some (.iface _ (.slice _ k _)) => k
  | _ => 0
def leafSum (w : World) (bl n : Nat) : Nat := ((List.range n).map fun i => leafN (w.cell? ⟨bl, i, none⟩)).sum
theorem leafN_V (m : Ls) : leafN (some (leafV m)) = m.xs.length := by
  unfold leafV
  by_cases h : m.xs.length = 0
  · rw [if_pos h, h]; rfl
  · rw [if_neg h]; rfl
theorem flat_sum : ∀ ms : List Ls, (lsx ms).flatten.length = ((List.range ms.length).map fun i => ((ms[i]?).map fun m => m.xs.length).getD 0).sum
  | [] => rfl
  | m :: ms => by
    have ih := flat_sum ms
    unfold lsx at ih ⊢
    rw [List.map_cons, List.flatten_cons, List.length_append, ih, List.length_cons, List.range_succ_eq_map, List.map_cons, List.sum_cons, List.map_map]
    rfl
theorem leafSum_is {w : World} {tb bl bo cl n : Nat} {by_ : Int} {ms : List Ls} {los : Nat → Nat} (h : TreeM w tb bl bo cl n by_ ms los) : leafSum w bl n = (lsx ms).flatten.length := by
  rw [flat_sum, h.len]
  unfold leafSum
  congr 1
  refine List.map_congr_left fun i hi => ?_
  obtain ⟨m, hm⟩ := get_ltG h.len (List.mem_range.1 hi)
  rw [h.leafAt hm, leafN_V, hm]; rfl

/-- Of each round, what is handed on. -/
def VH (w0 : World) (B : Nat) (all : List (Nat × Rw)) (k : Nat) (v : Array Value) (_ : World) : Prop :=
  ∃ (p : Nat) (x : Rw) (o : Option Addr) (c : Nat), all[k]? = some (p, x) ∧ v = #[.int .i64 (p : Nat), .agg #[.slice o x.1.length c, .int .i64 x.2]] ∧ LabS w0 B o x.1 ∧ x.1.length ≤ maxLen
theorem VH.size {w0 : World} {B : Nat} {all : List (Nat × Rw)} : ∀ k v W, VH w0 B all k v W → v.size = 2 := fun k v W ⟨p, x, o, c, _, e, _⟩ => by rw [e]; rfl
/-- Rows but for the first. -/
theorem LsS.tail {w : World} {B b off c : Nat} {x : Rw} {t : List Rw} (h : LsS w B ⟨some ⟨b, off, none⟩, c, x :: t⟩) (o2 : Option Addr) (ho : t ≠ [] → o2 = some ⟨b, off + 2, none⟩) : LsS w B ⟨o2, c - 1, t⟩ := by
  have h1 := h.cap
  have h2 := h.len
  simp only [List.length_cons] at h1 h2
  refine ⟨by simp; omega, by simp; omega, ?_⟩
  by_cases ht : t = []
  · exact .inl ht
  · refine .inr ⟨b, off + 2, ho ht, ?_⟩
    rcases h.rows with h3 | ⟨b2, off2, e, hs⟩
    · cases h3
    · cases e
      exact ⟨hs.low, fun j y hy => by
        obtain ⟨u, g1, g2⟩ := hs.at0 (j + 1) y (by simpa using hy)
        exact ⟨u, g1, fun q v hv => by rw [← g2 q v hv]; congr 2; omega⟩⟩

set_option maxHeartbeats 8000000 in
set_option maxRecDepth 100000 in
theorem heads_stops (d : Nat) (hd : 1 ≤ d) {ra Bt tb bl bo cl n B : Nat} {by_ : Int} {ms : List Ls} {los W0 : Nat → Nat} {w0 w : World} (h : TreeM w tb bl bo cl n by_ ms los) (hT : TreeT (lessR by_) (lsx ms) n los W0) (h1 : 1 ≤ n) (h2 : n ≤ 1000)
    (hR : ∀ m ∈ ms, LsS w0 B m) (hb : Below w0.heap.size w0 w) (hN : w0.heap.size ≤ bl ∧ w0.heap.size ≤ bo) (hBt : w.cell? ⟨Bt, 0, none⟩ = some (.pointer (some ⟨tb, 0, none⟩))) (hB2 : Bt < w.heap.size ∧ Bt ≠ bl ∧ Bt ≠ bo) (hra : ra ≠ tb ∧ ra ≠ bl ∧ ra ≠ bo ∧ ra ≠ Bt ∧ w0.heap.size ≤ ra) :
    SeqT Fence.wide d Tryz.prog 72 #[.pointer (some ⟨Bt, 0, none⟩)] (VH w0 B (mergeN (lessR by_) (lsx ms).flatten.length (lsx ms))) (Turns (fun r => r = ra ∨ w.heap.size ≤ r)) (fun r => r = bl ∨ r = bo) (mergeN (lessR by_) (lsx ms).flatten.length (lsx ms)).length w := by
  intro l J W hW hJ hY h0
  obtain ⟨all, hall⟩ : ∃ all, mergeN (lessR by_) (lsx ms).flatten.length (lsx ms) = all := ⟨_, rfl⟩
  rw [hall] at hY ⊢
  refine callsIn_of_wp Tryz.func72 rfl trivial ?_ rfl
  simp only [Tryz.ntmps72, List.size_toArray, List.length_cons, List.length_nil, Nat.reduceAdd, Nat.reduceSub, Array.replicate_succ, Array.replicate_zero, List.push_toArray, List.append_toArray, List.nil_append, List.cons_append]
  have HB2 := Lib.hid hB2
  have HRA := Lib.hid hra
  have H0 := Lib.hid (show all.drop 0 = mergeN (lessR by_) (lsx ms).flatten.length (lsx ms) from hall.symm)
  have HM0 := Lib.hid (h.below hW)
  have HT0 := Lib.hid hT
  have HR0 := Lib.hid hR
  have HBW := Lib.hid (hb.trans (hW.mono hb.size))
  have HC0 := Lib.hid ((hW.cell (p := ⟨Bt, 0, none⟩) hB2.1).trans hBt)
  have HJ0 := Lib.hid h0
  have HY := Lib.hid hY
  have HJ := Lib.hid hJ
  have HL := Lib.hid (And.intro h.lt (And.intro h.leafLt h.los.lt))
  have HN := Lib.hid hN
  have HSW := Lib.hid (And.intro hW.size hb.size)
  clear h hT hR hb hBt hB2 hra hW hJ hY h0 hall hN
  gi_wp2
  gi_loopw [3] (fun _ wr => ∃ (k : Nat) (ms2 : List Ls) (los2 W2 : Nat → Nat), k ≤ all.length ∧ Hid (J k wr) ∧ Hid (all.drop k = mergeN (lessR by_) (lsx ms2).flatten.length (lsx ms2)) ∧ Hid (TreeM wr tb bl bo cl n by_ ms2 los2) ∧ Hid (TreeT (lessR by_) (lsx ms2) n los2 W2) ∧ Hid (∀ m ∈ ms2, LsS w0 B m) ∧ Hid (Below w0.heap.size w0 wr) ∧ Hid (wr.cell? ⟨Bt, 0, none⟩ = some (.pointer (some ⟨tb, 0, none⟩))) ∧ Hid (w.heap.size ≤ wr.heap.size ∧ w0.heap.size ≤ w.heap.size)) (fun _ wr => leafSum wr bl n)
  case atStart => exact ⟨0, ms, los, W0, Nat.zero_le _, HJ0, H0, HM0, HT0, HR0, HBW, HC0, HSW⟩
  case round =>
    obtain ⟨k, ms2, los2, W2, hkl, hj, ha, hm, ht, hr, hb, hc, hs⟩ := hrel
    have c0 := hc.out
    have c1 := hm.out.c1
    have c2 := hm.out.c2
    have hn1 : 0 < n := h1
    have hn2 : (0 : Int) < n := by omega
    have c3 : wr.cell? ⟨bo, 0, none⟩ = some (.int .i64 (los2 0 : Nat)) := hm.out.los.cell hn1
    have htop := ht.out.top
    have hp : los2 0 < n := by rw [htop]; exact ht.out.wb 1 (by omega)
    obtain ⟨m, hm2⟩ := get_ltG hm.out.len hp
    have c4 := hm.out.leafAt hm2
    have hg := lsx_at hm2
    have hls := hr.out m (List.mem_of_getElem? hm2)
    obtain ⟨p, hpp⟩ : ∃ p, los2 0 = p := ⟨_, rfl⟩
    rw [hpp] at c3 hp hm2 c4 hg htop
    have i1 : (p : Int) < n := by omega
    have i2 : (0 : Int) ≤ p := by omega
    cases hx : m.xs with
    | nil =>
      have e1 : leafV m = .iface 138 (.agg #[]) := by unfold leafV; rw [hx]; rfl
      rw [e1] at c4
      have ta := fun W => ta_over W
      have hov := ht.out.over (swo_less by_) (by unfold lsx; rw [List.length_map]; exact hm.out.len) (by rw [← htop, hg, hx])
      have hkN : all.length ≤ k := by
        have e2 := ha.out
        rw [mergeN_over hov] at e2
        exact List.drop_eq_nil_iff.1 e2
      have HE := Lib.hid (show k = all.length by omega)
      clear e1 hov hkN hx hm2 hg hls hp hpp htop
      gi_wp2
      refine ⟨fun _ h => (by cases h), ?_⟩
      gi_wp2
      refine bodyPost_ret (results_none rfl _ _ _) rfl ?_
      exact ⟨⟨_, rfl⟩, by rw [← HE.out]; exact hj.out⟩
    | cons x t =>
      have e1 : leafV m = .iface 93 (.slice m.o m.xs.length m.c) := by unfold leafV; rw [hx]; rfl
      have hpk := ht.out.picks (swo_less by_) (by unfold lsx; rw [List.length_map]; exact hm.out.len) (by rw [← htop, hg, hx])
      have ha2 := ha.out
      rw [mergeN_next (swo_less by_) hpk] at ha2
      simp only [← htop] at ha2
      have hak : all[k]? = some (p, x) := by
        have e2 := congrArg (fun l => l[0]?) ha2
        simpa using e2
      have hkl2 : k < all.length := (List.getElem?_eq_some_iff.1 hak).1
      have ha3 : all.drop (k + 1) = mergeN (lessR by_) ((lsx ms2).set p ((lsx ms2).getD p []).tail).flatten.length ((lsx ms2).set p ((lsx ms2).getD p []).tail) := by
        have e2 := congrArg (List.drop 1) ha2
        rw [List.drop_drop] at e2
        simpa using e2
      rw [hg, hx, List.tail_cons] at ha3
      have hls2 := hls
      obtain ⟨mo, hmo⟩ : ∃ mo, m.o = mo := ⟨_, rfl⟩
      obtain ⟨mc, hmc⟩ : ∃ mc, m.c = mc := ⟨_, rfl⟩
      obtain ⟨mn, hmn⟩ : ∃ mn, m.xs.length = mn := ⟨_, rfl⟩
      rw [e1, hmo, hmc, hmn] at c4
      have ta := fun W => ta_rows mo mn mc W
      have hx0 : m.xs[0]? = some x := by rw [hx]; rfl
      have hrs := hls2.rows
      rw [hmo] at hrs
      obtain ⟨b1, f1, rfl, hA⟩ := SeeG.at hrs hx0
      obtain ⟨oL, cL, r1, r2, hL, lL⟩ := row_at hA hx0
      rw [Nat.zero_mul, Nat.add_zero] at r1 r2
      rw [← hb.out.cell (p := ⟨b1, _, none⟩) hA.low] at r1 r2
      have hmn1 : 0 < mn := by rw [← hmn, hx, List.length_cons]; omega
      have hmn2 : (0 : Int) < mn := by omega
      have hmcn : mn ≤ mc := by rw [← hmn, ← hmc]; exact hls2.cap
      obtain ⟨fn, tmps, assign, body, hy, hR⟩ := HY.out k _ wr hj.out hkl2 ⟨p, x, oL, cL, hak, rfl, hL, lL⟩
      obtain ⟨nL, hnL⟩ : ∃ nL, x.1.length = nL := ⟨_, rfl⟩
      obtain ⟨vx, hvx⟩ : ∃ vx, x.2 = vx := ⟨_, rfl⟩
      rw [hnL] at r1 hy
      rw [hvx] at r2 hy
      have HX := Lib.hid hx
      have HA3 := Lib.hid ha3
      have HM := Lib.hid (And.intro hmo (And.intro hmc hmn))
      have HM2 := Lib.hid hm2
      have HLS := Lib.hid hls
      have HTP := Lib.hid htop
      clear hx hx0 hak ha2 ha3 hpk hls hls2 hrs hA hL lL hnL hvx hg htop hmo hmc hmn e1 hm2 hpp
      gi_wp2
      refine hR.mono ?_
      rintro e W3 ⟨rfl, hJ3, hk3⟩
      have HJ3 := Lib.hid hJ3
      have HK3 := Lib.hid hk3
      clear hJ3 hk3 hR hy
      gi_wp2
      have hm3 := Lib.hid (hm.out.turns HK3.out (by have := HL.out; have := HRA.out; omega) (by have := HL.out; have := HRA.out; omega) (by have := HL.out; have := HRA.out; omega))
      have d0 : W3.cell? ⟨Bt, 0, none⟩ = some (.pointer (some ⟨tb, 0, none⟩)) := (World.cell?_of_block (a := ⟨Bt, 0, none⟩) (HK3.out.block Bt (by have := HB2.out; have := hs.out; omega) (show ¬ (Bt = ra ∨ w.heap.size ≤ Bt) by have := HB2.out; have := HRA.out; omega))).trans c0
      have d1 := hm3.out.c1
      have d2 : W3.cell? ⟨bl, p, none⟩ = some (.iface 93 (.slice (some ⟨b1, f1, none⟩) mn mc)) := (hm3.out.leafAt HM2.out).trans ((hm.out.leafAt HM2.out).symm.trans c4)
      have d3 := hm3.out.leafFr p
      have i3 : (1 : Int) ≤ mn := by omega
      have i4 : (mn : Int) ≤ mc := by omega
      have HL1 := Lib.hid (fun (o : Option Addr) (c : Nat) W => leafOf_any o (mn - 1) c t W (by have := HM.out.2.2; rw [HX.out, List.length_cons] at this; omega))
      clear c0 c1 c2 c3 c4 r1 r2 ta
      have ht2 := Lib.hid (show ∀ m2 : Ls, m2.xs = t → ClimbT (lessR by_) (lsx (ms2.set p m2)) n los2 W2 (n + p) p from fun m2 e => by
        rw [lsx_set, e]
        have := ht.out.turn h1 t
        rw [← HTP.out] at this
        exact this)
      have hb3 := Lib.hid (hb.out.trans (HK3.out.below hb.out.size (fun r e => by have := HRA.out; have := hs.out; rcases e with e | e <;> omega)))
      refine wpIn_wide.2 ?_
      by_cases hc1 : mc = 1
      · have ht0 : t = [] := by
          have := HM.out.2.2
          rw [HX.out, List.length_cons] at this
          exact List.eq_nil_of_length_eq_zero (by omega)
        subst ht0
        have HLv : Hid (∀ (o : Option Addr) (c : Nat) W, Calls Tryz.prog 70 #[.slice o (mn - 1) c] W fun e w' => e = .returned (.iface 138 (.agg #[])) ∧ w' = W) := HL1
        have hls3 : Hid (LsS w0 B ⟨none, 0, []⟩) := Lib.hid ⟨Nat.le_refl _, Nat.zero_le _, .inl rfl⟩
        go_region_with (go_at_call 70; refine (HLv.out _ _ _).mono ?_; rintro e w2 ⟨rfl, rfl⟩)
        all_goals
          obtain ⟨W4, hW4⟩ : ∃ W4, (W3.setCell ⟨bl, p, none⟩ (.iface 138 (.agg #[]))).drew = W4 := ⟨_, rfl⟩
          have hm4 : TreeM W4 tb bl bo cl n by_ (ms2.set p ⟨none, 0, []⟩) los2 := by
            have h9 := hm3.out.setLeaf p ⟨none, 0, []⟩
            rw [show leafV ⟨none, 0, []⟩ = .iface 138 (.agg #[]) from rfl] at h9
            rw [← hW4]; exact h9.keep rfl rfl rfl
          have ht4 : Turns (fun r => r = bl ∨ r = bo) W3 W4 := by
            rw [← hW4]
            exact (Turns.set (T := fun r => r = bl ∨ r = bo) W3 ⟨bl, p, none⟩ (.iface 138 (.agg #[])) (.inl rfl)).trans (Turns.of_below (Below.refl _ _).drew)
          have hb4 : Below w0.heap.size w0 W4 := hb3.out.trans (ht4.below hb3.out.size (fun r e => by have := HN.out; rcases e with e | e <;> omega))
          have hr4 : ∀ m' ∈ ms2.set p ⟨none, 0, []⟩, LsS w0 B m' := fun m' hm' => by
            rcases List.mem_or_eq_of_mem_set hm' with h9 | h9
            · exact hr.out m' h9
            · rw [h9]; exact hls3.out
          have hcl := Lib.hid (climb_any hm4 HN.out.2 hb4 hr4 p (ht2.out ⟨none, 0, []⟩ rfl) hp h2)
          have hj4 := Lib.hid (HJ.out (k + 1) W3 W4 HJ3.out ht4)
          have d4 : W4.cell? ⟨Bt, 0, none⟩ = some (.pointer (some ⟨tb, 0, none⟩)) := (World.cell?_of_block (a := ⟨Bt, 0, none⟩) (ht4.block Bt (by have := HB2.out.1; have := hs.out.1; have := HK3.out.size; omega) (fun e => by have := HB2.out.2; rcases e with e | e <;> omega))).trans d0
          have hs4 := Lib.hid (show w.heap.size ≤ W4.heap.size from Nat.le_trans hs.out.1 (Nat.le_trans HK3.out.size ht4.size))
          have hr5 := Lib.hid hr4
          have hb5 := Lib.hid hb4
          have hf : Hid ((lsx (ms2.set p ⟨none, 0, []⟩)) = (lsx ms2).set p []) := Lib.hid (by rw [lsx_set])
          rw [hW4]
          clear hm4 ht4 hb4 hr4 hW4 d0 d1 d2 d3
          gi_wp2
          refine ⟨trivial, (callsIn_wide.2 hcl.out).mono ?_⟩
          rintro e W5 ⟨rfl, ⟨los5, W6, hm5, ht5⟩, hu5⟩
          have hj5 := Lib.hid (HJ.out (k + 1) W4 W5 hj4.out (hu5.mono (fun r e => .inr e)))
          have hb6 := Lib.hid (hb5.out.trans (hu5.below hb5.out.size (fun r e => by have := HN.out; omega)))
          have d5 := Lib.hid ((World.cell?_of_block (a := ⟨Bt, 0, none⟩) (hu5.block Bt (by have := HB2.out.1; have := hs4.out; omega) (fun e => by have := HB2.out.2; omega))).trans d4)
          have hs5 := Lib.hid (Nat.le_trans hs4.out hu5.size)
          have hm6 := Lib.hid hm5
          have ht6 := Lib.hid ht5
          clear hm5 ht5 hu5 d4 hcl
          gi_wp2
          go_roundw
          case rel => exact ⟨k + 1, ms2.set p ⟨none, 0, []⟩, los5, W6, hkl2, hj5, by rw [hf.out]; exact HA3, hm6, ht6, hr5, hb6, d5, Lib.hid ⟨hs5.out, hs.out.2⟩⟩
          case measure =>
            have q1 := congrArg List.length ha.out
            have q2 := congrArg List.length HA3.out
            rw [mergeN_len (swo_less by_) _ _ (Nat.le_refl _), List.length_drop] at q1 q2
            rw [leafSum_is hm6.out, leafSum_is hm.out, hf.out]
            omega
      · have hls3 := Lib.hid (show LsS w0 B ⟨some ⟨b1, f1 + 2, none⟩, mc - 1, t⟩ from by
          have h4 := HLS.out
          have e4 : m = ⟨some ⟨b1, f1, none⟩, mc, x :: t⟩ := by rw [← HM.out.1, ← HM.out.2.1, ← HX.out]
          rw [e4] at h4
          exact h4.tail _ (fun _ => rfl))
        obtain ⟨lt, lw, hlv⟩ := leaf_form ⟨some ⟨b1, f1 + 2, none⟩, mc - 1, t⟩
        have HLv := Lib.hid (fun W => HL1.out (some ⟨b1, f1 + 2, none⟩) (mc - 1) W)
        rw [hlv] at HLv
        have HLW := Lib.hid hlv
        clear hlv
        go_region_with (go_at_call 70; refine (HLv.out _).mono ?_; rintro e w2 ⟨rfl, rfl⟩)
        all_goals
          obtain ⟨W4, hW4⟩ : ∃ W4, (W3.setCell ⟨bl, p, none⟩ (.iface lt lw)).drew = W4 := ⟨_, rfl⟩
          have hm4 : TreeM W4 tb bl bo cl n by_ (ms2.set p ⟨some ⟨b1, f1 + 2, none⟩, mc - 1, t⟩) los2 := by
            have h9 := hm3.out.setLeaf p ⟨some ⟨b1, f1 + 2, none⟩, mc - 1, t⟩
            rw [HLW.out] at h9
            rw [← hW4]; exact h9.keep rfl rfl rfl
          have ht4 : Turns (fun r => r = bl ∨ r = bo) W3 W4 := by
            rw [← hW4]
            exact (Turns.set (T := fun r => r = bl ∨ r = bo) W3 ⟨bl, p, none⟩ (.iface lt lw) (.inl rfl)).trans (Turns.of_below (Below.refl _ _).drew)
          have hb4 : Below w0.heap.size w0 W4 := hb3.out.trans (ht4.below hb3.out.size (fun r e => by have := HN.out; rcases e with e | e <;> omega))
          have hr4 : ∀ m' ∈ ms2.set p ⟨some ⟨b1, f1 + 2, none⟩, mc - 1, t⟩, LsS w0 B m' := fun m' hm' => by
            rcases List.mem_or_eq_of_mem_set hm' with h9 | h9
            · exact hr.out m' h9
            · rw [h9]; exact hls3.out
          have hcl := Lib.hid (climb_any hm4 HN.out.2 hb4 hr4 p (ht2.out ⟨some ⟨b1, f1 + 2, none⟩, mc - 1, t⟩ rfl) hp h2)
          have hj4 := Lib.hid (HJ.out (k + 1) W3 W4 HJ3.out ht4)
          have d4 : W4.cell? ⟨Bt, 0, none⟩ = some (.pointer (some ⟨tb, 0, none⟩)) := (World.cell?_of_block (a := ⟨Bt, 0, none⟩) (ht4.block Bt (by have := HB2.out.1; have := hs.out.1; have := HK3.out.size; omega) (fun e => by have := HB2.out.2; rcases e with e | e <;> omega))).trans d0
          have hs4 := Lib.hid (show w.heap.size ≤ W4.heap.size from Nat.le_trans hs.out.1 (Nat.le_trans HK3.out.size ht4.size))
          have hr5 := Lib.hid hr4
          have hb5 := Lib.hid hb4
          have hf : Hid ((lsx (ms2.set p ⟨some ⟨b1, f1 + 2, none⟩, mc - 1, t⟩)) = (lsx ms2).set p t) := Lib.hid (by rw [lsx_set])
          rw [hW4]
          clear hm4 ht4 hb4 hr4 hW4 d0 d1 d2 d3
          gi_wp2
          refine ⟨trivial, (callsIn_wide.2 hcl.out).mono ?_⟩
          rintro e W5 ⟨rfl, ⟨los5, W6, hm5, ht5⟩, hu5⟩
          have hj5 := Lib.hid (HJ.out (k + 1) W4 W5 hj4.out (hu5.mono (fun r e => .inr e)))
          have hb6 := Lib.hid (hb5.out.trans (hu5.below hb5.out.size (fun r e => by have := HN.out; omega)))
          have d5 := Lib.hid ((World.cell?_of_block (a := ⟨Bt, 0, none⟩) (hu5.block Bt (by have := HB2.out.1; have := hs4.out; omega) (fun e => by have := HB2.out.2; omega))).trans d4)
          have hs5 := Lib.hid (Nat.le_trans hs4.out hu5.size)
          have hm6 := Lib.hid hm5
          have ht6 := Lib.hid ht5
          clear hm5 ht5 hu5 d4 hcl
          gi_wp2
          go_roundw
          case rel => exact ⟨k + 1, ms2.set p ⟨some ⟨b1, f1 + 2, none⟩, mc - 1, t⟩, los5, W6, hkl2, hj5, by rw [hf.out]; exact HA3, hm6, ht6, hr5, hb6, d5, Lib.hid ⟨hs5.out, hs.out.2⟩⟩
          case measure =>
            have q1 := congrArg List.length ha.out
            have q2 := congrArg List.length HA3.out
            rw [mergeN_len (swo_less by_) _ _ (Nat.le_refl _), List.length_drop] at q1 q2
            rw [leafSum_is hm6.out, leafSum_is hm.out, hf.out]
            omega
end Go.Proofs.YtlnlbahggbbaeaaGreat.Mrg
