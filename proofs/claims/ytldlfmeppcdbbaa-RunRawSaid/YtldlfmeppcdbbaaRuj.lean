/- A walk: a file is made of rows. -/
import Derived.Test.YtldlfmeppcdbbaaRuh
import Derived.Test.YtldlfmeppcdbbaaRui
namespace Go.Proofs.Ytldlfmeppcdbbaa.Run
open Go.RowKit Go.Lib Go.Shelf Go.Proofs.Ytldlfmeppcdbbaa.Crc Go.Proofs.Ytldlfmeppcdbbaa.Row Go.Proofs.Ytldlfmeppcdbbaa.Vec

attribute [local go_sem] Oper.semAt_some

set_option maxRecDepth 100000 in
set_option maxHeartbeats 1000000 in
theorem chunk_in (F : Fence) (n : Nat) (h29 : F.fn 29) (hro : F.round = none) (o : Option Addr) (len cap : Nat) (w : World) :
    CallsIn F n Try.prog 29 #[.slice o len cap, .int .i64 8] w fun e w' => e = .returned (.func (.func 46) #[] #[.pointer (some ⟨w.heap.size, 0, none⟩), .pointer (some ⟨w.heap.size + 1, 0, none⟩)]) ∧ w' = (w.alloc (.cells #[.slice o len cap] 23)).alloc (.cells #[.int .i64 8] 3) := by
  refine callsIn_of_wp Try.func29 rfl h29 ?_ hro
  simp only [Try.ntmps29, List.size_toArray, List.length_cons, List.length_nil, Nat.reduceAdd, Nat.reduceSub, Array.replicate_succ, Array.replicate_zero, List.push_toArray, List.append_toArray, List.nil_append, List.cons_append]
  gi_wp2
  go_ret
  exact ⟨rfl, rfl⟩

/-- What a round keeps: what lay when the call began, and the iterator's two boxes. -/
structure KpM (N bs bn : Nat) (W W' : World) : Prop where
  low : Below N W W'
  s : W'.heap[bs]? = W.heap[bs]?
  n : W'.heap[bn]? = W.heap[bn]?
theorem KpM.trans {N bs bn : Nat} {A B C : World} (h : KpM N bs bn A B) (k : KpM N bs bn B C) : KpM N bs bn A C := ⟨h.low.trans k.low, k.s.trans h.s, k.n.trans h.n⟩
theorem KpM.put {N bs bn : Nat} {w : World} (hN : N ≤ w.heap.size) (hs : bs < w.heap.size) (hn : bn < w.heap.size) (W : World) (l : Nat) (o o' : Obj) (hl : w.heap.size ≤ l) (h : W.heap[l]? = some o) (_ : o.isCells = false) (_ : o.isWalk = false) : KpM N bs bn W (W.putObj l o') :=
  ⟨(Below.refl N W).grown (grownBy_putObj' W l o') (by have := (Array.getElem?_eq_some_iff.1 h).1; omega) (fun k e => by cases e; omega), World.putObj_heap_other (by omega), World.putObj_heap_other (by omega)⟩
theorem KpM.cell {N bs bn : Nat} {W W' : World} (h : KpM N bs bn W W') : W'.cell? ⟨bs, 0, none⟩ = W.cell? ⟨bs, 0, none⟩ ∧ W'.cell? ⟨bn, 0, none⟩ = W.cell? ⟨bn, 0, none⟩ := by
  constructor
  · simp [World.cell?, h.s]
  · simp [World.cell?, h.n]
theorem chunk_stops (F : Fence) (n : Nat) (h46 : F.fn 46) (hro : F.round = none) (hn : 1 ≤ n) (N bs bn b off len cap : Nat) (o : Option Addr) (ho : 0 < len → o = some ⟨b, off, none⟩) (hlen : len ≤ 1000000) (hcap : len ≤ cap) (w : World) (hbs : bs < w.heap.size) (hbn : bn < w.heap.size)
    (hBs : w.cell? ⟨bs, 0, none⟩ = some (.slice o len cap)) (hBn : w.cell? ⟨bn, 0, none⟩ = some (.int .i64 8)) :
    SeqStopsK F n Try.prog 46 #[.pointer (some ⟨bs, 0, none⟩), .pointer (some ⟨bn, 0, none⟩)] (chunkV b off len) (KpM N bs bn) (fun ys => ys = List.range ((len + 7) / 8)) (fun _ => True) ((len + 7) / 8) w := fun l J Jx W hW hJ _ hY h0 =>
  chunk1_in F n h46 hro hn l bs bn b off len cap o ho hlen hcap (KpM N bs bn) (fun h k => h.trans k) (fun A => ⟨Below.refl _ _, rfl, rfl⟩) (fun A B v h k => k.cell.1.trans h) (fun A B v h k => k.cell.2.trans h) (fun A => ⟨(Below.refl _ _).drew, rfl, rfl⟩)
    J Jx (fun pre A h => hJ pre A A.drew none h ⟨rfl, rfl, rfl, Nat.le_refl _, fun _ _ _ => rfl⟩ (fun r e => by cases e)) hY W ((hW.cell (p := ⟨bs, 0, none⟩) hbs).trans hBs) ((hW.cell (p := ⟨bn, 0, none⟩) hbn).trans hBn) h0

/-- What is told of a file that is made. -/
def makeV (xs : List Rw) : Value := if (runF xs).length ≤ 60000 then .tuple #[.string ⟨(runF xs).toArray⟩, .int .i64 0] else .tuple #[.string ⟨#[]⟩, .int .i64 8]

def blockN (xs : List Rw) (k : Nat) : List Rw := (xs.drop (8 * k)).take 8
def accM (xs : List Rw) (pre : List Nat) : List UInt8 := frameL (lep ++ numB 2 xs.length) ++ pre.flatMap fun k => frameL (catR (blockN xs k))
theorem accM_snoc (xs : List Rw) (pre : List Nat) (k : Nat) : accM xs (pre ++ [k]) = accM xs pre ++ frameL (catR (blockN xs k)) := by
  unfold accM
  rw [List.flatMap_append, List.append_assoc]; simp
theorem blockN_ok {xs : List Rw} (hok : ∀ x ∈ xs, okX x = true) (k : Nat) : ∀ x ∈ blockN xs k, okX x = true := fun x hx => hok x (List.mem_of_mem_drop (List.mem_of_mem_take hx))
theorem blockN_len (xs : List Rw) (k : Nat) : (blockN xs k).length = min 8 (xs.length - 8 * k) := by unfold blockN; rw [List.length_take, List.length_drop]
theorem blockN_cat {xs : List Rw} (hok : ∀ x ∈ xs, okX x = true) (k : Nat) : (catR (blockN xs k)).length ≤ 11704 := by
  have h := catR_le _ (blockN_ok hok k)
  rw [blockN_len] at h; omega
theorem accM_len {xs : List Rw} (hok : ∀ x ∈ xs, okX x = true) : ∀ pre : List Nat, (accM xs pre).length ≤ 15 + 11714 * pre.length := by
  have key : ∀ pre : List Nat, (pre.flatMap fun k => frameL (catR (blockN xs k))).length ≤ 11714 * pre.length := by
    intro pre
    induction pre with
    | nil => simp
    | cons k pre ih =>
      have := blockN_cat hok k
      rw [List.flatMap_cons, List.length_append, frameL_len, List.length_cons]; omega
  intro pre
  have := key pre
  unfold accM
  rw [List.length_append, frameL_len, List.length_append, numB_len]
  have h3 : lep.length = 3 := rfl
  omega
theorem accM_all (xs : List Rw) : accM xs (List.range ((xs.length + 7) / 8)) = frameL (lep ++ numB 2 xs.length) ++ catF ((blocks xs).map catR) := by
  have key : ∀ k, 8 * k ≤ xs.length + 7 → (List.range k).flatMap (fun k => frameL (catR (blockN xs k))) = catF ((blocks (xs.take (8 * k))).map catR) := by
    intro k
    induction k with
    | zero => intro _; rw [Nat.mul_zero, List.take_zero]; rfl
    | succ k ih =>
      intro h
      rw [List.range_succ, List.flatMap_append, ih (by omega), blocks_snoc k xs (by omega), List.map_append, catF_app]
      simp [catF, blockN]
  unfold accM
  rw [key _ (by omega), List.take_of_length_le (by omega)]
/-- The rows of a chunk, where they lie. -/
theorem rows_chunk {w : World} {B b off : Nat} {o : Option Addr} {xs : List Rw} (h : RowsS w B o xs) (ho : 0 < xs.length → o = some ⟨b, off, none⟩) (k : Nat) : RowsS w B (some ⟨b, off + 8 * k * 2, none⟩) (blockN xs k) := by
  by_cases hk : 8 * k < xs.length
  · obtain ⟨b2, off2, e, hp⟩ := rows_part h (8 * k) (min 8 (xs.length - 8 * k)) (by omega) (by omega)
    rw [ho (by omega)] at e
    cases e
    have e2 : blockN xs k = (xs.take (8 * k + min 8 (xs.length - 8 * k))).drop (8 * k) := by
      unfold blockN
      rw [List.drop_take, show 8 * k + min 8 (xs.length - 8 * k) - 8 * k = min 8 (xs.length - 8 * k) by omega]
      by_cases h8 : 8 ≤ xs.length - 8 * k
      · rw [Nat.min_eq_left h8]
      · rw [Nat.min_eq_right (by omega), List.take_of_length_le (by rw [List.length_drop]; omega), List.take_of_length_le (by rw [List.length_drop]; omega)]
    rw [e2]; exact hp
  · left
    unfold blockN
    rw [List.drop_eq_nil_of_le (by omega), List.take_nil]
/-- Between two rounds: the builder, the iterator's boxes, what lay below the builder. -/
def IM (xs : List Rw) (b bs bn : Nat) (sv : Value) (W0 : World) (pre : List Nat) (W : World) : Prop :=
  (IsBuilderF 60 5 b b (Lib.byteCells (accM xs pre)) W ∧ Boxed W bs 23 sv ∧ Boxed W bn 3 (.int .i64 8)) ∧ Below b W0 W
theorem boxed_on {W W' : World} {row : Option Nat} {B : Nat} {t : TypeId} {v : Value} (h : Boxed W B t v) (hg : W.grownBy W' row) (hr : ∀ r, row = some r → ∃ o : Obj, W.heap[r]? = some o ∧ o.isCells = false) : Boxed W' B t v :=
  h.kept hg (fun e => by obtain ⟨o, h1, h2⟩ := hr B e.symm; rw [show W.heap[B]? = _ from h] at h1; cases h1; cases h2)
theorem IM_own (xs : List Rw) (b bs bn : Nat) (sv : Value) (W0 : World) (w : World) (hb0 : b ≤ W0.heap.size) (hb : b ≤ w.heap.size) : OwnFrom w.heap.size (IM xs b bs bn sv W0) :=
  OwnFrom.and (Own.from (fun _s _A _C _row hs hg hr => ⟨builder_kept hs.1 hg hr, boxed_on hs.2.1 hg hr, boxed_on hs.2.2 hg hr⟩) _) (ownFrom_below hb0 hb)
theorem keeps_below {B : Nat} {W W' : World} (h : Below W.heap.size W W') : KeepsFrom B W W' := KeepsFrom.of_grownBy (grown_of_below h none) (fun j e => by cases e)
theorem keeps_others {B b : Nat} {e : TypeId} {W W' : World} (h : OthersKept e (some b) W W') (hs : W.heap.size ≤ W'.heap.size) (hb : b < B) : KeepsFrom B W W' :=
  ⟨hs, fun k o hk ho hc => h k o ho (fun e2 => by cases e2; omega) (fun c fz e2 => by subst e2; cases hc)⟩

set_option maxHeartbeats 8000000 in
set_option maxRecDepth 100000 in
theorem make_any (o : Option Addr) (n c : Nat) (xs : List Rw) (w : World) (B : Nat) (hn : xs.length = n) (hn6 : n ≤ 600) (hc : n ≤ c) (hok : ∀ x ∈ xs, okX x = true) (hS : RowsS w B o xs) :
    Calls Try.prog 12 #[.slice o n c] w fun e w' => e = .returned (makeV xs) ∧ Below w.heap.size w w' := by
  refine (callsIn_wide (n := 6)).1 ?_
  refine callsIn_of_wp_marks Try.func12 rfl trivial ?_ rfl
  simp only [Try.ntmps12, List.size_toArray, List.length_cons, List.length_nil, Nat.reduceAdd, Nat.reduceSub, Array.replicate_succ, Array.replicate_zero, List.push_toArray, List.append_toArray, List.nil_append, List.cons_append]
  have j1 : (n : Int) ≤ 2000 := by omega
  obtain ⟨ra, hra⟩ : ∃ r, w.heap.size = r := ⟨_, rfl⟩
  obtain ⟨b, hb⟩ : ∃ b, ra + 1 + 1 = b := ⟨_, rfl⟩
  obtain ⟨wA, hwA⟩ : ∃ wA, (w.alloc (Obj.cells #[Value.string { data := #[] }] 9)).alloc (Obj.cells #[Value.int IntKind.i64 0] 24) = wA := ⟨_, rfl⟩
  have hzA : wA.heap.size = b := by rw [← hwA]; simp [World.size_alloc]; omega
  have hBA : Below ra w wA := by rw [← hwA, ← hra]; exact ((Below.refl _ w).alloc (Nat.le_refl _) _).alloc (by simp) _
  have hI0 := Lib.hid (Lib.IsBuilderF.of (Lib.fresh_isBuilder 60 5 wA))
  obtain ⟨W0, hW0⟩ : ∃ W0, wA.alloc (Obj.cells #[Value.pointer none, Value.slice none 0 0] 60) = W0 := ⟨_, rfl⟩
  rw [hW0, hzA] at hI0
  have hz0 : W0.heap.size = b + 1 := by rw [← hW0, World.size_alloc, hzA]
  have hB0 : Below ra w W0 := by rw [← hW0]; exact hBA.alloc (by omega) _
  have HB0 := Lib.hid hB0
  have bR : Boxed W0 ra 9 (.string ⟨#[]⟩) := by
    rw [← hW0, ← hwA, ← hra]; exact ((Boxed.new w _ _).alloc _).alloc _
  have bE : Boxed W0 (ra + 1) 24 (.int .i64 0) := by
    have := ((Boxed.new (w.alloc (Obj.cells #[Value.string { data := #[] }] 9)) 24 (.int .i64 0)).alloc (Obj.cells #[Value.pointer none, Value.slice none 0 0] 60))
    rw [World.size_alloc, hra, hwA, hW0] at this
    exact this
  have BR := Lib.hid bR
  have BE := Lib.hid bE
  have HWA := Lib.hid hwA
  have HW0 := Lib.hid hW0
  have HRA := Lib.hid hra
  have HB := Lib.hid hb
  have HN := Lib.hid hn
  clear hBA hB0 bR bE hwA hW0 hzA
  gi_wp2
  rw [HWA.out, HW0.out]
  refine ⟨trivial, (callsIn_wide.2 (headText_any n W0 (by omega))).mono ?_⟩
  rintro e w1 ⟨rfl, b1⟩
  have hI1 := builder_below hI0.out b1
  have HB1 := Lib.hid (show Below b W0 w1 from b1.mono (by omega))
  clear b1
  gi_wp2
  refine ⟨trivial, (callsIn_wide.2 (rframe_any (headS n) w1 (by rw [headS_size]; decide))).mono ?_⟩
  rintro e w2 ⟨rfl, b2⟩
  have hI2 := builder_below hI1 b2
  have HB2 := Lib.hid (HB1.out.trans (b2.mono (by have := HB1.out.size; omega)))
  clear b2 hI1
  gi_wp2
  refine ⟨trivial, (callsIn_wide.2 (text_any b b [] (frameS (headS n)) w2 hI2 (by simp) (by rw [frameS_size, headS_size]; decide) (by have := HB2.out.size; omega))).mono ?_⟩
  rintro e w3 ⟨rfl, h3⟩
  have HI3 := Lib.hid (show IsBuilderF 60 5 b b (Lib.byteCells (accM xs [])) w3 by
    have h := h3.has
    rw [List.nil_append, frameS_data, headS_data] at h
    unfold accM
    rw [HN.out, List.flatMap_nil, List.append_nil]; exact h)
  have HB3 := Lib.hid (HB2.out.trans h3.below)
  clear h3 hI2
  gi_wp2
  refine ⟨trivial, (chunk_in Fence.wide 5 trivial rfl o n c w3).mono ?_⟩
  rintro e w4 ⟨rfl, rfl⟩
  gi_wp2
  obtain ⟨q, hq⟩ : ∃ q, w3.heap.size = q := ⟨_, rfl⟩
  rw [hq]
  obtain ⟨bA, off, hoo⟩ : ∃ bA off, 0 < n → o = some ⟨bA, off, none⟩ := by
    rcases hS with h | ⟨bA, off, e, _⟩
    · exact ⟨0, 0, fun h2 => by rw [h] at hn; simp at hn; omega⟩
    · exact ⟨bA, off, fun _ => e⟩
  have bS := (Boxed.new w3 23 (.slice o n c)).alloc (Obj.cells #[.int .i64 8] 3)
  have bN := Boxed.new (w3.alloc (Obj.cells #[.slice o n c] 23)) 3 (.int .i64 8)
  rw [World.size_alloc] at bN
  rw [hq] at bS bN
  have HI4 := Lib.hid ((HI3.out.alloc (Obj.cells #[.slice o n c] 23)).alloc (Obj.cells #[.int .i64 8] 3))
  have hz3 := HB3.out.size
  have HB4 := Lib.hid ((HB3.out.alloc (by omega) (Obj.cells #[.slice o n c] 23)).alloc (by rw [World.size_alloc]; omega) (Obj.cells #[.int .i64 8] 3))
  have hz4 : ((w3.alloc (Obj.cells #[.slice o n c] 23)).alloc (Obj.cells #[.int .i64 8] 3)).heap.size = q + 2 := by simp [World.size_alloc]; omega
  obtain ⟨W4, hW4⟩ : ∃ W4, (w3.alloc (Obj.cells #[.slice o n c] 23)).alloc (Obj.cells #[.int .i64 8] 3) = W4 := ⟨_, rfl⟩
  rw [hW4] at HI4 HB4 hz4 bS bN ⊢
  obtain ⟨fh, hfh⟩ : ∃ fh, frameS (headS n) = fh := ⟨_, rfl⟩
  rw [hfh]
  have hbq : b < q := by omega
  clear hW4 hfh HI3 HB3 hz3 hq
  refine wpIn_rangeFunc_ownG rfl (by decide : 1 ≤ 6) (gf := 46) (lb := #[.pointer (some ⟨q, 0, none⟩), .pointer (some ⟨q + 1, 0, none⟩)]) rfl trivial (enters_of Try.func46 (by kernel_rfl) rfl)
    (chunk_stops Fence.wide 5 trivial rfl (by decide) b q (q + 1) bA off n c o hoo (by omega) hc W4 (by omega) (by omega) bS.cell bN.cell) (fun h k => KpM.trans h k) (KpM.put (by omega) (by omega) (by omega)) (Below.refl _ _) (fun _ => rfl)
    (IM xs b q (q + 1) (.slice o n c) W0) (fun _ _ _ => False) (IM_own xs b q (q + 1) (.slice o n c) W0 W4 (by omega) (by omega)) (fun _ _ _ _ _ hs _ _ => hs)
    ⟨⟨HI4.out, bS, bN⟩, HB4.out⟩
    (fun x => { tmps := #[.slice o n c, undef, .pointer (some ⟨ra, 0, none⟩), .pointer (some ⟨ra + 1, 0, none⟩), .pointer (some ⟨b, 0, none⟩), .slice (some ⟨bA, off + 8 * x * 2, none⟩) (min 8 (n - 8 * x)) (min 8 (n - 8 * x)), undef, undef, .slice o n c, .int .i64 n, .bool (decide ((2000 : Int) < n)), .slice o n c, .int .i64 n, .string (headS n), .string fh, .tuple #[.int .i64 fh.size, .nilIface], .slice o n c,
      .func (.func 46) #[] #[.pointer (some ⟨q, 0, none⟩), .pointer (some ⟨q + 1, 0, none⟩)], .slice (some ⟨bA, off + 8 * x * 2, none⟩) (min 8 (n - 8 * x)) (min 8 (n - 8 * x)), undef, undef, undef, undef, undef, undef, undef, undef, undef, undef, undef, undef, undef, undef, undef, undef], defers := [] }) ?assign ?body ?done ?stop
  case assign =>
    intro l x W K hK
    simp only [chunkV]
    gi_wp2
    exact hK
  case body =>
    rintro l pre x W ⟨⟨hI, hs, hn2⟩, hB⟩ hpre
    have hzW := hB.size
    obtain ⟨m, hm⟩ : ∃ m, min 8 (n - 8 * x) = m := ⟨_, rfl⟩
    obtain ⟨off2, ho2⟩ : ∃ off2, off + 8 * x * 2 = off2 := ⟨_, rfl⟩
    have hR := rows_chunk (hS.below frow (by have := (HB0.out.trans (hB.mono (by omega))); rwa [← HRA.out] at this)) (fun h => hoo (by omega)) x
    rw [ho2] at hR
    rw [hm, ho2]
    have hbl : (blockN xs x).length = m := by rw [blockN_len, hn, hm]
    have hbo := blockN_ok hok x
    have hcl := blockN_cat hok x
    have hal := accM_len hok pre
    gi_wp2
    refine ⟨trivial, (CallsIn.inRound l (callsIn_wide.2 (rowsText_any _ m m (blockN xs x) W B hbl (by omega) hbo hR))).mono ?_⟩
    rintro e w5 ⟨rfl, b5⟩
    have hI5 := builder_below hI b5
    have hK5 : KeepsFrom W4.heap.size W w5 := keeps_below b5
    gi_wp2
    refine ⟨trivial, (CallsIn.inRound l (callsIn_wide.2 (rframe_any (catS (blockN xs x)) w5 (by rw [catS_size]; omega)))).mono ?_⟩
    rintro e w6 ⟨rfl, b6⟩
    have hI6 := builder_below hI5 b6
    have hK6 : KeepsFrom W4.heap.size W w6 := hK5.trans (keeps_below b6)
    have hz5 := b5.size
    have b56 := b5.trans (b6.mono hz5)
    gi_wp2
    refine ⟨trivial, (CallsIn.inRound l (callsIn_wide.2 (text_any b b (accM xs pre) (frameS (catS (blockN xs x))) w6 hI6 (by omega) (by rw [frameS_size, catS_size]; omega) (by have := b56.size; omega)))).mono ?_⟩
    rintro e w7 ⟨rfl, h7⟩
    have hs6 : Boxed w6 q 23 (.slice o n c) := (b56.block q hs.lt).trans hs
    have hn6 : Boxed w6 (q + 1) 3 (.int .i64 8) := (b56.block (q + 1) hn2.lt).trans hn2
    have hs7 : Boxed w7 q 23 (.slice o n c) := h7.others q _ hs6 (fun e => by cases e; omega) (fun c fz e => by cases e)
    have hn7 : Boxed w7 (q + 1) 3 (.int .i64 8) := h7.others (q + 1) _ hn6 (fun e => by cases e; omega) (fun c fz e => by cases e)
    have hB7 : Below b W w7 := (b56.mono (by omega)).trans h7.below
    gi_wp2
    refine ⟨hK6.trans (keeps_others h7.others h7.below.size (by omega)), ⟨hB7, (show w7.heap[q]? = _ from hs7).trans (show W.heap[q]? = _ from hs).symm, (show w7.heap[q + 1]? = _ from hn7).trans (show W.heap[q + 1]? = _ from hn2).symm⟩, ⟨⟨?_, hs7, hn7⟩, hB.trans hB7⟩⟩
    rw [accM_snoc]
    have h := h7.has
    rw [frameS_data, catS_data] at h
    exact h
  case done =>
    rintro D ys W hD rfl ⟨⟨hI, -, -⟩, hB⟩ hK
    have hacc := accM_all xs
    rw [hn] at hacc
    rw [hacc] at hI
    have hlen := run_len xs hok
    have hrp := run_parts xs
    rw [hn] at hlen hrp
    have hfin : (⟨#[69, 78, 68]⟩ : ByteArray).data.toList = fin := rfl
    have hcl := catF_len _ xs (Nat.le_refl _) hok
    have hl3 : lep.length = 3 := rfl
    have hDq : q + 2 ≤ D := by omega
    have hzW := hB.size
    gi_wp2
    refine ⟨trivial, (callsIn_wide.2 (rframe_any ⟨#[69, 78, 68]⟩ W (by decide))).mono ?_⟩
    rintro e w5 ⟨rfl, b5⟩
    have hI5 := builder_below hI b5
    have hB5 := hB.trans (b5.mono (by omega))
    have hK5 : w5.heap[D]? = some (.deferred (some [])) := (b5.block D (Array.getElem?_eq_some_iff.1 hK).1).trans hK
    have hz5 := b5.size
    clear hI b5
    gi_wp2
    refine ⟨trivial, (callsIn_wide.2 (text_any b b _ (frameS ⟨#[69, 78, 68]⟩) w5 hI5 (by rw [List.length_append, frameL_len, List.length_append, numB_len]; omega) (by rw [frameS_size]; decide) (by omega))).mono ?_⟩
    rintro e w6 ⟨rfl, h6⟩
    have hI6 : IsBuilderF 60 5 b b (Lib.byteCells (runF xs)) w6 := by
      have h := h6.has
      rwa [frameS_data, hfin, List.append_assoc, ← hrp] at h
    have hB6 := hB5.trans h6.below
    have hK6 : w6.heap[D]? = some (.deferred (some [])) := h6.others D _ hK5 (fun e => by cases e; omega) (fun c fz e => by cases e)
    have hz6 := hB6.size
    clear h6 hI5 hB5 hK5
    obtain ⟨L, hL⟩ : ∃ L, (runF xs).length = L := ⟨_, rfl⟩
    gi_wp2
    refine ⟨trivial, (callsIn_wide.2 (Try.Builder_Len_f b b _ w6 hI6)).mono ?_⟩
    rintro e w7 ⟨rfl, rfl⟩
    rw [Lib.byteCells_length, hL]
    have cr := (show Boxed w7 ra 9 (.string ⟨#[]⟩) from (hB6.block ra (by omega)).trans BR.out)
    have ce := (show Boxed w7 (ra + 1) 24 (.int .i64 0) from (hB6.block (ra + 1) (by omega)).trans BE.out)
    by_cases h60 : L ≤ 60000
    · have j2 : (L : Int) ≤ 60000 := by omega
      gi_wp2
      refine ⟨trivial, (callsIn_wide.2 (Try.Builder_String_any_k b b (runF xs) w7 hI6 (by omega))).mono ?_⟩
      rintro e w8 ⟨rfl, _, b8, o8⟩
      have hB8 := hB6.trans b8
      have hK8 : w8.heap[D]? = some (.deferred (some [])) := o8 D _ hK6 (fun e => by cases e; omega) (fun c fz e => by cases e)
      have cr8 := (show Boxed w8 ra 9 (.string ⟨#[]⟩) from (hB8.block ra (by omega)).trans BR.out)
      have ce8 := (show Boxed w8 (ra + 1) 24 (.int .i64 0) from (hB8.block (ra + 1) (by omega)).trans BE.out)
      have hz8 := hB8.size
      have c0 := cr8.cell
      have f0 := cr8.frozen
      have c1 := ce8.cell
      have f1 := ce8.frozen
      obtain ⟨st, hst⟩ : ∃ st : ByteArray, ⟨(runF xs).toArray⟩ = st := ⟨_, rfl⟩
      rw [hst]
      gi_wp2
      have hK9 := (KeepsOthers.setCell (w8.setCell ⟨ra, 0, none⟩ (.string st)) ⟨ra + 1, 0, none⟩ (.int .i64 0)).same D _ ((KeepsOthers.setCell w8 ⟨ra, 0, none⟩ (.string st)).same D _ hK8 rfl) rfl
      have cr9 : Boxed ((w8.setCell ⟨ra, 0, none⟩ (.string st)).setCell ⟨ra + 1, 0, none⟩ (.int .i64 0)) ra 9 (.string st) := (cr8.set _).kept (grownBy_setCell' _ _ _) (fun e => by cases e)
      have ce9 : Boxed ((w8.setCell ⟨ra, 0, none⟩ (.string st)).setCell ⟨ra + 1, 0, none⟩ (.int .i64 0)) (ra + 1) 24 (.int .i64 0) := (ce8.kept (grownBy_setCell' _ _ _) (fun e => by cases e)).set _
      have hB9 : Below ra w ((w8.setCell ⟨ra, 0, none⟩ (.string st)).setCell ⟨ra + 1, 0, none⟩ (.int .i64 0)) := ((HB0.out.trans (hB8.mono (by omega))).setCell (p := ⟨ra, 0, none⟩) (Nat.le_refl _) _).setCell (p := ⟨ra + 1, 0, none⟩) (Nat.le_succ _) _
      refine ⟨by simp, .inl ⟨_, _, rfl, run_takeDeferred hK9, ?_⟩⟩
      have cr10 := cell_kept cr9.cell (grownBy_putObj' _ D (.deferred none)) (fun r e => by cases e; exact ⟨_, hK9, rfl⟩)
      have ce10 := cell_kept ce9.cell (grownBy_putObj' _ D (.deferred none)) (fun r e => by cases e; exact ⟨_, hK9, rfl⟩)
      refine ⟨.tuple #[.string st, .int .i64 0], ?_, ?_, by rw [HRA.out]; exact hB9.trans ((Below.refl ra _).grown (grownBy_putObj' _ D (.deferred none)) (by have := (Array.getElem?_eq_some_iff.1 hK9).1; omega) (fun k e => by cases e; omega))⟩
      · simp [results, Try.results12, go_sem, cr10, ce10]
      · unfold makeV
        rw [hL, if_pos h60, hst]
    · have j2 : (60000 : Int) < L := by omega
      have c0 := cr.cell
      have f0 := cr.frozen
      have c1 := ce.cell
      have f1 := ce.frozen
      gi_wp2
      have hK9 := (KeepsOthers.setCell (w7.setCell ⟨ra, 0, none⟩ (.string ⟨#[]⟩)) ⟨ra + 1, 0, none⟩ (.int .i64 8)).same D _ ((KeepsOthers.setCell w7 ⟨ra, 0, none⟩ (.string ⟨#[]⟩)).same D _ hK6 rfl) rfl
      have cr9 : Boxed ((w7.setCell ⟨ra, 0, none⟩ (.string ⟨#[]⟩)).setCell ⟨ra + 1, 0, none⟩ (.int .i64 8)) ra 9 (.string ⟨#[]⟩) := (cr.set _).kept (grownBy_setCell' _ _ _) (fun e => by cases e)
      have ce9 : Boxed ((w7.setCell ⟨ra, 0, none⟩ (.string ⟨#[]⟩)).setCell ⟨ra + 1, 0, none⟩ (.int .i64 8)) (ra + 1) 24 (.int .i64 8) := (ce.kept (grownBy_setCell' _ _ _) (fun e => by cases e)).set _
      have hB9 : Below ra w ((w7.setCell ⟨ra, 0, none⟩ (.string ⟨#[]⟩)).setCell ⟨ra + 1, 0, none⟩ (.int .i64 8)) := ((HB0.out.trans (hB6.mono (by omega))).setCell (p := ⟨ra, 0, none⟩) (Nat.le_refl _) _).setCell (p := ⟨ra + 1, 0, none⟩) (Nat.le_succ _) _
      refine ⟨by simp, .inl ⟨_, _, rfl, run_takeDeferred hK9, ?_⟩⟩
      have cr10 := cell_kept cr9.cell (grownBy_putObj' _ D (.deferred none)) (fun r e => by cases e; exact ⟨_, hK9, rfl⟩)
      have ce10 := cell_kept ce9.cell (grownBy_putObj' _ D (.deferred none)) (fun r e => by cases e; exact ⟨_, hK9, rfl⟩)
      refine ⟨.tuple #[.string ⟨#[]⟩, .int .i64 8], ?_, ?_, by rw [HRA.out]; exact hB9.trans ((Below.refl ra _).grown (grownBy_putObj' _ D (.deferred none)) (by have := (Array.getElem?_eq_some_iff.1 hK9).1; omega) (fun k e => by cases e; omega))⟩
      · simp [results, Try.results12, go_sem, cr10, ce10]
      · unfold makeV
        rw [hL, if_neg h60]
  case stop =>
    rintro D c pre W _ _ h _
    exact h.elim
end Go.Proofs.Ytldlfmeppcdbbaa.Run
