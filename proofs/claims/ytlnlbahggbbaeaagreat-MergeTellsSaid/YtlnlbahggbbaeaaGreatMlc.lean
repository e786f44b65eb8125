/- How lists of rows, and a tree of losers, lie; which leaf goes out ahead: the walks. -/
import Derived.Test.YtlnlbahggbbaeaaGreatMlb
import Derived.Test.YtlnlbahggbbaeaaGreatHc
import Derived.Deep.OwnRows
namespace Go.Proofs.YtlnlbahggbbaeaaGreat.Mrg
open Go.RowKit Go.Lib Go.Proofs.YtlnlbahggbbaeaaGreat Go.Proofs.YtlnlbahggbbaeaaGreat.Vec Go.Proofs.YtlnlbahggbbaeaaGreat.Stb

/-- A list of rows as it is handed in. -/
structure Ls where
  o : Option Addr
  c : Nat
  xs : List Rw
/-- It lies so. -/
structure LsS (w : World) (B : Nat) (m : Ls) : Prop where
  cap : m.xs.length ≤ m.c
  len : m.xs.length ≤ 100000
  rows : RowsS w B m.o m.xs
theorem LsS.below {w w' : World} {B : Nat} {m : Ls} (h : LsS w B m) (hb : Below w.heap.size w w') : LsS w' B m := ⟨h.cap, h.len, h.rows.below frow hb⟩
/-- What is left of a list, as a value. -/
def leafV (m : Ls) : Value := if m.xs.length = 0 then .iface 138 (.agg #[]) else .iface 93 (.slice m.o m.xs.length m.c)
def lsx (ms : List Ls) : List (List Rw) := ms.map Ls.xs
theorem lsx_at {ms : List Ls} {i : Nat} {m : Ls} (h : ms[i]? = some m) : (lsx ms).getD i [] = m.xs := by
  unfold lsx
  rw [List.getD, List.getElem?_map, h]; rfl
theorem lsx_set (ms : List Ls) (i : Nat) (m : Ls) : lsx (ms.set i m) = (lsx ms).set i m.xs := by
  unfold lsx; rw [List.map_set]

structure TreeM (w : World) (tb bl bo cl n : Nat) (by_ : Int) (ms : List Ls) (los : Nat → Nat) : Prop where
  tree : w.heap[tb]? = some (.cells #[.int .i64 by_, .slice (some ⟨bl, 0, none⟩) n cl, .slice (some ⟨bo, 0, none⟩) n n] 87 (0, 0))
  len : ms.length = n
  cap : n ≤ cl
  leaf : ∃ f, w.rowIs bl 88 cl f ∧ ∀ (i : Nat) (m : Ls), ms[i]? = some m → f i = leafV m
  los : w.rowIs bo 3 n (fun j => .int .i64 (los j : Nat))
section
variable {w : World} {tb bl bo cl n : Nat} {by_ : Int} {ms : List Ls} {los : Nat → Nat}
theorem TreeM.c0 (h : TreeM w tb bl bo cl n by_ ms los) : w.cell? ⟨tb, 0, none⟩ = some (.int .i64 by_) := by simp [World.cell?, h.tree]
theorem TreeM.c1 (h : TreeM w tb bl bo cl n by_ ms los) : w.cell? ⟨tb, 1, none⟩ = some (.slice (some ⟨bl, 0, none⟩) n cl) := by simp [World.cell?, h.tree]
theorem TreeM.c2 (h : TreeM w tb bl bo cl n by_ ms los) : w.cell? ⟨tb, 2, none⟩ = some (.slice (some ⟨bo, 0, none⟩) n n) := by simp [World.cell?, h.tree]
theorem TreeM.lt (h : TreeM w tb bl bo cl n by_ ms los) : tb < w.heap.size := (Array.getElem?_eq_some_iff.1 h.tree).1
theorem TreeM.leafAt (h : TreeM w tb bl bo cl n by_ ms los) {i : Nat} {m : Ls} (hm : ms[i]? = some m) : w.cell? ⟨bl, i, none⟩ = some (leafV m) := by
  obtain ⟨f, h1, h2⟩ := h.leaf
  have hi := (List.getElem?_eq_some_iff.1 hm).1
  rw [h1.cell (by have := h.len; have := h.cap; omega), h2 i m hm]
theorem TreeM.leafLt (h : TreeM w tb bl bo cl n by_ ms los) : bl < w.heap.size := by obtain ⟨f, h1, _⟩ := h.leaf; exact h1.lt
theorem TreeM.leafFr (h : TreeM w tb bl bo cl n by_ ms los) (i : Nat) : w.frozen? ⟨bl, i, none⟩ = false := by obtain ⟨f, h1, _⟩ := h.leaf; exact h1.frozen i
theorem ne_types {w : World} {a b : Nat} {ca cb : Array Value} {ta tb : TypeId} {ma mb : Nat × Nat} (h1 : w.heap[a]? = some (.cells ca ta ma)) (h2 : w.heap[b]? = some (.cells cb tb mb)) (hne : ta ≠ tb) : a ≠ b := fun e => by
  subst e
  rw [h1] at h2
  cases h2
  exact hne rfl
theorem TreeM.tl (h : TreeM w tb bl bo cl n by_ ms los) : tb ≠ bl := by
  obtain ⟨f, ⟨c, hc, _⟩, _⟩ := h.leaf
  exact ne_types h.tree hc (by decide)
theorem TreeM.to (h : TreeM w tb bl bo cl n by_ ms los) : tb ≠ bo := by
  obtain ⟨c, hc, _⟩ := h.los
  exact ne_types h.tree hc (by decide)
theorem TreeM.lo (h : TreeM w tb bl bo cl n by_ ms los) : bl ≠ bo := by
  obtain ⟨f, ⟨c, hc, _⟩, _⟩ := h.leaf
  obtain ⟨c2, hc2, _⟩ := h.los
  exact ne_types hc hc2 (by decide)
theorem TreeM.keep {w' : World} (h : TreeM w tb bl bo cl n by_ ms los) (h1 : w'.heap[tb]? = w.heap[tb]?) (h2 : w'.heap[bl]? = w.heap[bl]?) (h3 : w'.heap[bo]? = w.heap[bo]?) : TreeM w' tb bl bo cl n by_ ms los := by
  obtain ⟨f, g1, g2⟩ := h.leaf
  exact ⟨h1.trans h.tree, h.len, h.cap, ⟨f, g1.of_block h2, g2⟩, h.los.of_block h3⟩
theorem TreeM.below {w' : World} (h : TreeM w tb bl bo cl n by_ ms los) (hb : Below w.heap.size w w') : TreeM w' tb bl bo cl n by_ ms los :=
  h.keep (hb.block _ h.lt) (hb.block _ h.leafLt) (hb.block _ h.los.lt)
theorem heap_set_other (w : World) (a : Addr) (v : Value) (k : Nat) (h : k ≠ a.block) : (w.setCell a v).heap[k]? = w.heap[k]? := Below.heap_setCell _ _ _ k h
theorem TreeM.setLeaf (h : TreeM w tb bl bo cl n by_ ms los) (p : Nat) (m : Ls) : TreeM (w.setCell ⟨bl, p, none⟩ (leafV m)) tb bl bo cl n by_ (ms.set p m) los := by
  obtain ⟨f, g1, g2⟩ := h.leaf
  refine ⟨(heap_set_other _ _ _ _ h.tl).trans h.tree, by rw [List.length_set]; exact h.len, h.cap, ⟨_, g1.set p (leafV m), fun i m' hm' => ?_⟩, h.los.setOther (fun e => h.lo e.symm) _⟩
  by_cases e : i = p
  · subst e
    rw [if_pos rfl]
    have hi : i < ms.length := by
      have := (List.getElem?_eq_some_iff.1 hm').1
      rwa [List.length_set] at this
    rw [List.getElem?_set_self hi] at hm'
    cases hm'; rfl
  · rw [if_neg e]
    rw [List.getElem?_set_ne (Ne.symm e)] at hm'
    exact g2 i m' hm'
theorem TreeM.setLos (h : TreeM w tb bl bo cl n by_ ms los) (j v : Nat) : TreeM (w.setCell ⟨bo, j, none⟩ (.int .i64 (v : Nat))) tb bl bo cl n by_ ms (updT los j v) := by
  obtain ⟨f, g1, g2⟩ := h.leaf
  refine ⟨(heap_set_other _ _ _ _ h.to).trans h.tree, h.len, h.cap, ⟨f, g1.setOther h.lo _, g2⟩, (h.los.set j (.int .i64 (v : Nat))).congr fun i hi => ?_⟩
  unfold updT
  by_cases e : i = j
  · rw [if_pos e, if_pos e]
  · rw [if_neg e, if_neg e]
end

theorem ta_over (W : World) : (Instr.typeAssert (.iface 138 (.agg #[])) 88 93 true).run Tryz.prog W = .ok (.tuple #[.slice none 0 0, .bool false]) W := by kernel_rfl
theorem ta_rows (o : Option Addr) (n c : Nat) (W : World) : (Instr.typeAssert (.iface 93 (.slice o n c)) 88 93 true).run Tryz.prog W = .ok (.tuple #[.slice o n c, .bool true]) W := by kernel_rfl

set_option maxHeartbeats 1000000 in
set_option maxRecDepth 100000 in
theorem leafOf_any (o : Option Addr) (n c : Nat) (xs : List Rw) (w : World) (hn : xs.length = n) : Calls Tryz.prog 70 #[.slice o n c] w fun e w' => e = .returned (leafV ⟨o, c, xs⟩) ∧ w' = w := by
  have HV := Lib.hid (show leafV ⟨o, c, xs⟩ = if n = 0 then .iface 138 (.agg #[]) else .iface 93 (.slice o n c) by rw [← hn]; rfl)
  by_cases h : n = 0
  · subst h
    rw [if_pos rfl] at HV
    clear hn
    go_enter Tryz.func70, Tryz.ntmps70
    go_wp2
    go_ret
    exact ⟨by rw [HV.out]; rfl, rfl⟩
  · rw [if_neg h] at HV
    have h2 : ((n : Int) == 0) = false := by simpa using h
    clear hn
    go_enter Tryz.func70, Tryz.ntmps70
    go_wp2
    go_ret
    exact ⟨by rw [HV.out]; rfl, rfl⟩

set_option maxHeartbeats 4000000 in
set_option maxRecDepth 100000 in
theorem ahead_any {B tb bl bo cl n : Nat} {by_ : Int} {ms : List Ls} {los : Nat → Nat} {w : World} (h : TreeM w tb bl bo cl n by_ ms los) (hR : ∀ m ∈ ms, LsS w B m) (a b : Nat) (ha : a < n) (hb : b < n) :
    Calls Tryz.prog 96 #[.pointer (some ⟨tb, 0, none⟩), .int .i64 a, .int .i64 b] w fun e w' => e = .returned (.bool (aheadT (lessR by_) (lsx ms) a b)) ∧ Below w.heap.size w w' := by
  obtain ⟨ma, hma⟩ := get_ltG h.len ha
  obtain ⟨mb, hmb⟩ := get_ltG h.len hb
  have t0 := h.c0
  have t1 := h.c1
  have la := h.leafAt hma
  have lb := h.leafAt hmb
  have hlo := Lib.hid (And.intro h.lt h.leafLt)
  have ga := lsx_at hma
  have gb := lsx_at hmb
  have ra := hR ma (List.mem_of_getElem? hma)
  have rb := hR mb (List.mem_of_getElem? hmb)
  have HE : Hid (∀ x t y u, ma.xs = x :: t → mb.xs = y :: u → aheadT (lessR by_) (lsx ms) a b = if a < b then !lessR by_ y x else lessR by_ x y) := Lib.hid (fun x t y u e1 e2 => by unfold aheadT; rw [ga, gb, e1, e2])
  have i1 : (a : Int) < n := by omega
  have i2 : (b : Int) < n := by omega
  have i3 : (0 : Int) ≤ a := by omega
  have i4 : (0 : Int) ≤ b := by omega
  obtain ⟨r, hr⟩ : ∃ r, aheadT (lessR by_) (lsx ms) a b = r := ⟨_, rfl⟩
  cases exa : ma.xs with
  | nil =>
    have hr0 : r = false := by rw [← hr]; unfold aheadT; rw [ga, exa]
    have : leafV ma = .iface 138 (.agg #[]) := by unfold leafV; rw [exa]; rfl
    rw [this] at la
    have ta := fun W => ta_over W
    rw [hr]
    subst hr0
    clear h hR ga gb ra rb HE hr this hma hmb lb exa
    go_enter Tryz.func96, Tryz.ntmps96
    go_wp2
    go_ret
    exact ⟨rfl, Below.refl _ _⟩
  | cons x t =>
    have ea : leafV ma = .iface 93 (.slice ma.o ma.xs.length ma.c) := by unfold leafV; rw [exa]; rfl
    obtain ⟨oa, hoa⟩ : ∃ oa, ma.o = oa := ⟨_, rfl⟩
    obtain ⟨ca, hca⟩ : ∃ ca, ma.c = ca := ⟨_, rfl⟩
    obtain ⟨na, hna⟩ : ∃ na, ma.xs.length = na := ⟨_, rfl⟩
    have hna1 : 1 ≤ na := by rw [← hna, exa, List.length_cons]; omega
    rw [ea, hoa, hca, hna] at la
    have ta := fun W => ta_rows oa na ca W
    cases exb : mb.xs with
    | nil =>
      have hr0 : r = true := by rw [← hr]; unfold aheadT; rw [ga, gb, exa, exb]
      have : leafV mb = .iface 138 (.agg #[]) := by unfold leafV; rw [exb]; rfl
      rw [this] at lb
      have ta2 := fun W => ta_over W
      rw [hr]
      subst hr0
      clear h hR ga gb ra rb HE hr this hma hmb ea exa exb hoa hca hna
      go_enter Tryz.func96, Tryz.ntmps96
      go_wp2
      go_ret
      exact ⟨rfl, Below.refl _ _⟩
    | cons y u =>
      have eb : leafV mb = .iface 93 (.slice mb.o mb.xs.length mb.c) := by unfold leafV; rw [exb]; rfl
      obtain ⟨ob, hob⟩ : ∃ ob, mb.o = ob := ⟨_, rfl⟩
      obtain ⟨cb, hcb⟩ : ∃ cb, mb.c = cb := ⟨_, rfl⟩
      obtain ⟨nb, hnb⟩ : ∃ nb, mb.xs.length = nb := ⟨_, rfl⟩
      have hnb1 : 1 ≤ nb := by rw [← hnb, exb, List.length_cons]; omega
      rw [eb, hob, hcb, hnb] at lb
      have ta2 := fun W => ta_rows ob nb cb W
      have e := HE.out x t y u exa exb
      rw [hr] at e
      have hxa : ma.xs[0]? = some x := by rw [exa]; rfl
      have hxb : mb.xs[0]? = some y := by rw [exb]; rfl
      have hra := ra.rows
      have hrb := rb.rows
      rw [hoa] at hra
      rw [hob] at hrb
      obtain ⟨b1, f1, rfl, hA⟩ := SeeG.at hra hxa
      obtain ⟨b2, f2, rfl, hB⟩ := SeeG.at hrb hxb
      obtain ⟨oL, cL, r1, r2, hL, lL⟩ := row_at hA hxa
      obtain ⟨oM, cM, r3, r4, hM, lM⟩ := row_at hB hxb
      have w1 := hA.low
      have w2 := hB.low
      have w3 := h.lt
      obtain ⟨nL, hnL⟩ : ∃ nL, x.1.length = nL := ⟨_, rfl⟩
      obtain ⟨nM, hnM⟩ : ∃ nM, y.1.length = nM := ⟨_, rfl⟩
      rw [hnL, Nat.zero_mul, Nat.add_zero] at r1
      rw [hnM, Nat.zero_mul, Nat.add_zero] at r3
      rw [Nat.zero_mul, Nat.add_zero] at r2 r4
      have bb := Lib.hid (Below.refl w.heap.size w).drew
      have i5 : 0 < na := hna1
      have i6 : 0 < nb := hnb1
      clear hna1 hnb1
      by_cases hab : a < b
      · rw [if_pos hab] at e
        obtain ⟨cc, hcc⟩ : ∃ cc, lessR by_ y x = cc := ⟨_, rfl⟩
        rw [hcc] at e
        have HC := Lib.hid (fun W (hb : Hid (Below w.heap.size w W)) => (less_any by_ oM oL nM cM nL cL y x W hnM hnL lM lL (hM.sees.below hb.out) (hL.sees.below hb.out)).mono (fun e w' q => show e = .returned (.bool cc) ∧ (w'.cell? ⟨tb, 0, none⟩ = some (.int .i64 by_) ∧ w'.cell? ⟨b1, f1, none⟩ = some (.slice oL nL cL) ∧ w'.cell? ⟨b1, f1 + 1, none⟩ = some (.int .i64 x.2) ∧ w'.cell? ⟨b2, f2, none⟩ = some (.slice oM nM cM) ∧ w'.cell? ⟨b2, f2 + 1, none⟩ = some (.int .i64 y.2)) ∧ Hid (Below w.heap.size w w') from
          have h2 := hb.out.trans (q.2.mono hb.out.size)
          ⟨by rw [q.1, hcc], ⟨(h2.cell (p := ⟨tb, _, none⟩) w3).trans t0, (h2.cell (p := ⟨b1, _, none⟩) w1).trans r1, (h2.cell (p := ⟨b1, _, none⟩) w1).trans r2, (h2.cell (p := ⟨b2, _, none⟩) w2).trans r3, (h2.cell (p := ⟨b2, _, none⟩) w2).trans r4⟩, h2⟩))
        obtain ⟨vx, hvx⟩ : ∃ vx, x.2 = vx := ⟨_, rfl⟩
        obtain ⟨vy, hvy⟩ : ∃ vy, y.2 = vy := ⟨_, rfl⟩
        rw [hvx] at HC r2
        rw [hvy] at HC r4
        have i7 : (a : Int) < b := by omega
        have HR := Lib.hid e
        rw [hr]
        clear h hR ga gb ra rb HE hr hma hmb ea exa exb hoa hca hna eb hob hcb hnb e hxa hxb hra hrb hA hB hL hM lL lM w1 w2 w3 hnL hnM hcc hvx hvy
        go_enter Tryz.func96, Tryz.ntmps96
        go_wp2_with fail
        go_region_held3 (fun w' => w'.cell? ⟨tb, 0, none⟩ = some (.int .i64 by_) ∧ w'.cell? ⟨b1, f1, none⟩ = some (.slice oL nL cL) ∧ w'.cell? ⟨b1, f1 + 1, none⟩ = some (.int .i64 vx) ∧ w'.cell? ⟨b2, f2, none⟩ = some (.slice oM nM cM) ∧ w'.cell? ⟨b2, f2 + 1, none⟩ = some (.int .i64 vy)) (first | exact ⟨s1, s2, s3, s4, s5⟩ | exact ⟨t0, r1, r2, r3, r4⟩) (first
          | (go_at_call 27; go_fit (HC.out _ bb); rintro e wq ⟨rfl, ⟨s1, s2, s3, s4, s5⟩, sb⟩))
        go_wp2
        go_ret
        exact ⟨by rw [HR.out]; rfl, sb.out⟩
      · rw [if_neg hab] at e
        obtain ⟨cc, hcc⟩ : ∃ cc, lessR by_ x y = cc := ⟨_, rfl⟩
        rw [hcc] at e
        have HC := Lib.hid (fun W (hb : Hid (Below w.heap.size w W)) => (less_any by_ oL oM nL cL nM cM x y W hnL hnM lL lM (hL.sees.below hb.out) (hM.sees.below hb.out)).mono (fun e w' q => show e = .returned (.bool cc) ∧ (w'.cell? ⟨tb, 0, none⟩ = some (.int .i64 by_) ∧ w'.cell? ⟨b1, f1, none⟩ = some (.slice oL nL cL) ∧ w'.cell? ⟨b1, f1 + 1, none⟩ = some (.int .i64 x.2) ∧ w'.cell? ⟨b2, f2, none⟩ = some (.slice oM nM cM) ∧ w'.cell? ⟨b2, f2 + 1, none⟩ = some (.int .i64 y.2)) ∧ Hid (Below w.heap.size w w') from
          have h2 := hb.out.trans (q.2.mono hb.out.size)
          ⟨by rw [q.1, hcc], ⟨(h2.cell (p := ⟨tb, _, none⟩) w3).trans t0, (h2.cell (p := ⟨b1, _, none⟩) w1).trans r1, (h2.cell (p := ⟨b1, _, none⟩) w1).trans r2, (h2.cell (p := ⟨b2, _, none⟩) w2).trans r3, (h2.cell (p := ⟨b2, _, none⟩) w2).trans r4⟩, h2⟩))
        obtain ⟨vx, hvx⟩ : ∃ vx, x.2 = vx := ⟨_, rfl⟩
        obtain ⟨vy, hvy⟩ : ∃ vy, y.2 = vy := ⟨_, rfl⟩
        rw [hvx] at HC r2
        rw [hvy] at HC r4
        have i7 : (b : Int) ≤ a := by omega
        have HR := Lib.hid e
        rw [hr]
        clear h hR ga gb ra rb HE hr hma hmb ea exa exb hoa hca hna eb hob hcb hnb e hxa hxb hra hrb hA hB hL hM lL lM w1 w2 w3 hnL hnM hcc hvx hvy hab
        go_enter Tryz.func96, Tryz.ntmps96
        go_wp2_with fail
        go_region_held3 (fun w' => w'.cell? ⟨tb, 0, none⟩ = some (.int .i64 by_) ∧ w'.cell? ⟨b1, f1, none⟩ = some (.slice oL nL cL) ∧ w'.cell? ⟨b1, f1 + 1, none⟩ = some (.int .i64 vx) ∧ w'.cell? ⟨b2, f2, none⟩ = some (.slice oM nM cM) ∧ w'.cell? ⟨b2, f2 + 1, none⟩ = some (.int .i64 vy)) (first | exact ⟨s1, s2, s3, s4, s5⟩ | exact ⟨t0, r1, r2, r3, r4⟩) (first
          | (go_at_call 27; go_fit (HC.out _ bb); rintro e wq ⟨rfl, ⟨s1, s2, s3, s4, s5⟩, sb⟩))
        go_wp2
        go_ret
        exact ⟨by rw [HR.out]; rfl, sb.out⟩

theorem holdT_mk {by_ : Int} {ms : List Ls} {a b : Nat} {r : Bool} (h : aheadT (lessR by_) (lsx ms) a b = r) : holdT (lessR by_) (lsx ms) a b = if r = true then (a, b) else (b, a) := by unfold holdT; rw [h]
set_option maxHeartbeats 1000000 in
set_option maxRecDepth 100000 in
theorem hold_any {B tb bl bo cl n : Nat} {by_ : Int} {ms : List Ls} {los : Nat → Nat} {w : World} (h : TreeM w tb bl bo cl n by_ ms los) (hR : ∀ m ∈ ms, LsS w B m) (a b : Nat) (ha : a < n) (hb : b < n) :
    Calls Tryz.prog 71 #[.pointer (some ⟨tb, 0, none⟩), .int .i64 a, .int .i64 b] w fun e w' => e = .returned (.tuple #[.int .i64 ((holdT (lessR by_) (lsx ms) a b).1 : Nat), .int .i64 ((holdT (lessR by_) (lsx ms) a b).2 : Nat)]) ∧ Below w.heap.size w w' := by
  have HA := Lib.hid (ahead_any h hR a b ha hb)
  obtain ⟨r, hr⟩ : ∃ r, aheadT (lessR by_) (lsx ms) a b = r := ⟨_, rfl⟩
  rw [holdT_mk hr]
  rw [hr] at HA
  clear h hR hr
  go_enter Tryz.func71, Tryz.ntmps71
  go_wp2_with fail
  refine HA.out.mono ?_
  rintro e w1 ⟨rfl, b1⟩
  have HB := Lib.hid b1
  clear b1 HA
  cases r with
  | true =>
    go_wp2
    go_ret2
    exact ⟨rfl, HB.out⟩
  | false =>
    go_wp2
    go_ret2
    exact ⟨rfl, HB.out⟩
end Go.Proofs.YtlnlbahggbbaeaaGreat.Mrg
