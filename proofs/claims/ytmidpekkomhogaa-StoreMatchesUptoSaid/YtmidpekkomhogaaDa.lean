/- The document's patterns read: its state; the rune that comes; a rune of a class. -/
import Derived.Test.YtmidpekkomhogaaQh
import Derived.Test.YtmidpekkomhogaaMg06
import Derived.Laws.OwnMore
import Derived.BigQuiet
namespace Go.Proofs.Ytmidpekkomhogaa.Dpt
open Go.RowKit Go.Lib
open Go.Proofs.Ytmidpekkomhogaa.Pat

/-- Runes in memory. -/
def RunesO (w : World) (bp : Nat) (o : Option Addr) (rs : List Int) : Prop := rs = [] ∨ ∃ b off, o = some ⟨b, off, none⟩ ∧ b < bp ∧ ∀ (j : Nat) r, rs[j]? = some r → w.cell? ⟨b, off + j, none⟩ = some (.int .i32 r)
theorem RunesO.keep {w w' : World} {bp : Nat} {o : Option Addr} {rs : List Int} (h : RunesO w bp o rs) (hb : ∀ k, k < bp → w'.heap[k]? = w.heap[k]?) : RunesO w' bp o rs :=
  h.imp id fun ⟨b, off, e, hl, hc⟩ => ⟨b, off, e, hl, fun j r hj => (World.cell?_of_block (a := ⟨b, off + j, none⟩) (hb b hl)).trans (hc j r hj)⟩
/-- A pattern that is read: its runes, how far it is, whether it is bad. -/
def DP (w : World) (bp : Nat) (rs : List Int) (a : Nat) (bad : Bool) (k : Nat) : Prop := ∃ (vp : Value) (root : Int) (o : Option Addr) (c N : Nat) (xs : List Value),
  w.heap[bp]? = some (.cells #[vp, .int .i64 root, .slice o rs.length c, .int .i64 (a : Nat), .bool bad] 73 (0, 0)) ∧ RunesO w bp o rs ∧ w.ownsRow (bp + 1) 88 9 vp N xs ∧ N ≤ k
theorem DP.lt {w : World} {bp : Nat} {rs : List Int} {a : Nat} {bad : Bool} {k : Nat} (h : DP w bp rs a bad k) : bp < w.heap.size := by
  obtain ⟨_, _, _, _, _, _, h, _⟩ := h; exact (Array.getElem?_eq_some_iff.1 h).1
theorem cells5 {w : World} {k T : Nat} {a b c d e : Value} (h : w.heap[k]? = some (.cells #[a, b, c, d, e] T (0, 0))) : (w.cell? ⟨k, 0, none⟩ = some a ∧ w.cell? ⟨k, 1, none⟩ = some b ∧ w.cell? ⟨k, 2, none⟩ = some c ∧ w.cell? ⟨k, 3, none⟩ = some d ∧ w.cell? ⟨k, 4, none⟩ = some e) ∧ (w.frozen? ⟨k, 0, none⟩ = false ∧ w.frozen? ⟨k, 1, none⟩ = false ∧ w.frozen? ⟨k, 2, none⟩ = false ∧ w.frozen? ⟨k, 3, none⟩ = false ∧ w.frozen? ⟨k, 4, none⟩ = false) := by
  refine ⟨⟨?_, ?_, ?_, ?_, ?_⟩, ?_, ?_, ?_, ?_, ?_⟩ <;> simp [World.cell?, World.frozen?, h]
theorem cell_row (w : World) (b i : Nat) (cs : Array Value) (T : TypeId) (lk : Nat × Nat) (h : w.heap[b]? = some (.cells cs T lk)) : w.cell? ⟨b, i, none⟩ = cs[i]? := by simp [World.cell?, h]
theorem DP.drewN {w : World} {bp : Nat} {rs : List Int} {a : Nat} {bad : Bool} {k : Nat} (h : DP w bp rs a bad k) (n : Nat) : DP (w.drewN n) bp rs a bad k := h
/-- One more place on. -/
theorem DP.setAt {w : World} {bp : Nat} {rs : List Int} {a : Nat} {bad : Bool} {k : Nat} (h : DP w bp rs a bad k) (a' : Nat) (z : Int) (hz : z = (a' : Nat)) : DP (w.setCell ⟨bp, 3, none⟩ (.int .i64 z)) bp rs a' bad k := by
  subst hz
  obtain ⟨vp, root, o, c, N, xs, h1, h2, h3, h4⟩ := h
  refine ⟨vp, root, o, c, N, xs, heap_setCell_same w bp 3 #[vp, .int .i64 root, .slice o rs.length c, .int .i64 (a : Nat), .bool bad] 73 (.int .i64 (a' : Nat)) h1, h2.keep fun k hk => heap_setCell_other w ⟨bp, 3, none⟩ k _ (fun e => by have e2 : k = bp := e; omega), ?_, h4⟩
  refine h3.kept (row := some bp) ⟨rfl, rfl, rfl, by simp [World.setCell], fun k _ hk => heap_setCell_other w ⟨bp, 3, none⟩ k _ (fun e => hk (by simp [e]))⟩ ?_
  cases ho : vp.ownBlock with
  | none => exact .inl rfl
  | some g =>
    have := (h3.lt g ho).1
    exact .inr (by simp; omega)
theorem DP.setBad {w : World} {bp : Nat} {rs : List Int} {a : Nat} {bad : Bool} {k : Nat} (h : DP w bp rs a bad k) (b' : Bool) : DP (w.setCell ⟨bp, 4, none⟩ (.bool b')) bp rs a b' k := by
  obtain ⟨vp, root, o, c, N, xs, h1, h2, h3, h4⟩ := h
  refine ⟨vp, root, o, c, N, xs, heap_setCell_same w bp 4 #[vp, .int .i64 root, .slice o rs.length c, .int .i64 (a : Nat), .bool bad] 73 (.bool b') h1, h2.keep fun k hk => heap_setCell_other w ⟨bp, 4, none⟩ k _ (fun e => by have e2 : k = bp := e; omega), ?_, h4⟩
  refine h3.kept (row := some bp) ⟨rfl, rfl, rfl, by simp [World.setCell], fun k _ hk => heap_setCell_other w ⟨bp, 4, none⟩ k _ (fun e => hk (by simp [e]))⟩ ?_
  cases ho : vp.ownBlock with
  | none => exact .inl rfl
  | some g =>
    have := (h3.lt g ho).1
    exact .inr (by simp; omega)
theorem below_set {B k : Nat} {a w : World} (h : Below B a w) (hk : B ≤ k) (i : Nat) (v : Value) : Below B a (w.setCell ⟨k, i, none⟩ v) := h.setCell hk _
/-- All blocks but the pattern's own are what they were, and where its parts lie. -/
def Kept1 (bp : Nat) (w w' : World) : Prop := w'.heap.size = w.heap.size ∧ (∀ j, j ≠ bp → w'.heap[j]? = w.heap[j]?) ∧ w'.cell? ⟨bp, 0, none⟩ = w.cell? ⟨bp, 0, none⟩
theorem Kept1.trans {bp : Nat} {a b c : World} (h : Kept1 bp a b) (g : Kept1 bp b c) : Kept1 bp a c := ⟨g.1.trans h.1, fun j hj => (g.2.1 j hj).trans (h.2.1 j hj), g.2.2.trans h.2.2⟩
theorem Kept1.set {w : World} {bp : Nat} {rs : List Int} {a : Nat} {bad : Bool} {k : Nat} (h : DP w bp rs a bad k) (i : Nat) (hi : i ≠ 0) (v : Value) : Kept1 bp w (w.setCell ⟨bp, i, none⟩ v) := by
  obtain ⟨vp, root, o, c, N, xs, h1, _⟩ := h
  refine ⟨by simp [World.setCell], fun j hj => heap_setCell_other w ⟨bp, i, none⟩ j _ hj, ?_⟩
  have := heap_setCell_same w bp i #[vp, .int .i64 root, .slice o rs.length c, .int .i64 (a : Nat), .bool bad] 73 v h1
  rw [cell_row w bp 0 _ _ _ h1, cell_row _ bp 0 _ _ _ this, Array.getElem?_setIfInBounds_ne hi]
theorem hd_none {rs : List Int} {a : Nat} (h : rs.length ≤ a) : hd (rs.drop a) = -1 := by rw [List.drop_eq_nil_of_le h]; rfl
theorem hd_some {rs : List Int} {a : Nat} {r : Int} (h : rs[a]? = some r) : hd (rs.drop a) = r := by
  obtain ⟨hp, e⟩ := List.getElem?_eq_some_iff.1 h
  rw [List.drop_eq_getElem_cons hp, e]; rfl
theorem quietD {w wr : World} (h : ∃ q, wr = w.drewN q) (n : Nat) : ∃ q, wr.drewN n = w.drewN q := by
  obtain ⟨q, rfl⟩ := h
  exact ⟨q + n, World.drewN_drewN _ _ _⟩

set_option maxHeartbeats 2000000 in
set_option maxRecDepth 100000 in
theorem next_any (bp : Nat) (rs : List Int) (a : Nat) (bad : Bool) (k : Nat) (w : World) (h : DP w bp rs a bad k) (_hl : rs.length ≤ 1000000) (ha : a ≤ 1000000) :
    Calls Try.prog 37 #[.pointer (some ⟨bp, 0, none⟩)] w fun e w' => e = .returned (.int .i32 (hd (rs.drop a))) ∧ ∃ q, w' = w.drewN q := by
  obtain ⟨vp, root, o, c, N, xs, h1, h2, -, -⟩ := h
  obtain ⟨⟨c0, c1, c2, c3, c4⟩, -⟩ := cells5 h1
  obtain ⟨n, hn⟩ : ∃ n, rs.length = n := ⟨_, rfl⟩
  rw [hn] at c2
  have HN := Lib.hid hn
  by_cases hlt : a < n
  · have j1 : (a : Int) < n := by omega
    have j0 : (0 : Int) ≤ (a : Int) := by omega
    obtain ⟨r, hr⟩ : ∃ r, rs[a]? = some r := ⟨_, List.getElem?_eq_getElem (by omega)⟩
    obtain ⟨b, off, rfl, hb, hc⟩ := h2.resolve_left (fun e => by rw [e] at hr; simp at hr)
    have d0 := hc a r hr
    rw [hd_some hr]
    clear h1 hc hr hn
    go_enter Try.func37, Try.ntmps37
    go_wp2_with fail
    go_quiet (fail)
    go_wp2_with fail
    go_quiet (fail)
    go_wp2
    go_ret
    exact ⟨rfl, ⟨_, World.drewN_drewN _ _ _⟩⟩
  · have j1 : ¬ (a : Int) < n := by omega
    rw [hd_none (by omega)]
    clear h1 h2 hn
    go_enter Try.func37, Try.ntmps37
    go_wp2_with fail
    go_quiet (fail)
    go_wp2
    go_ret
    exact ⟨rfl, _, rfl⟩

/-- How an item ends: a rune, or none. -/
def ItemEnd (w : World) (bp : Nat) (rs : List Int) (a k : Nat) (e : Ending) (w' : World) : Prop := ∃ (r : Int) (a' : Nat) (b' : Bool), e = .returned (.int .i32 r) ∧ DP w' bp rs a' b' k ∧ Below bp w w' ∧ Kept1 bp w w' ∧ a < a' ∧ a' ≤ a + 2 ∧ match itR (rs.drop a) with
  | none => b' = true
  | some (x, m) => b' = false ∧ r = x ∧ rs.drop a' = m ∧ a' ≤ rs.length
set_option maxHeartbeats 4000000 in
set_option maxRecDepth 100000 in
theorem item_any (bp : Nat) (rs : List Int) (a k : Nat) (w : World) (h : DP w bp rs a false k) (hl : rs.length ≤ 1000) (ha : a < rs.length) (hpos : ∀ r ∈ rs, 0 ≤ r) :
    Calls Try.prog 79 #[.pointer (some ⟨bp, 0, none⟩)] w (ItemEnd w bp rs a k) := by
  have HN1 := Lib.hid (next_any bp rs a false k w h (by omega) (by omega))
  obtain ⟨r, hr⟩ : ∃ r, rs[a]? = some r := ⟨_, List.getElem?_eq_getElem ha⟩
  have hr0 := hpos r (List.mem_of_getElem? hr)
  rw [hd_some hr] at HN1
  have HD := Lib.hid h
  have HR := Lib.hid hr
  have hdr : rs.drop a = r :: rs.drop (a + 1) := by
    obtain ⟨hp, e⟩ := List.getElem?_eq_some_iff.1 hr
    rw [List.drop_eq_getElem_cons hp, e]
  have HDR := Lib.hid hdr
  have ia : (a : Int) ≤ 1000 := by omega
  obtain ⟨n, hn⟩ : ∃ n, rs.length = n := ⟨_, rfl⟩
  have HLN := Lib.hid hn
  have first : ∀ w1, (∃ q, w1 = w.drewN q) → DP w1 bp rs a false k ∧ Below bp w w1 ∧ Kept1 bp w w1 := by
    rintro w1 ⟨q, rfl⟩
    exact ⟨h, ⟨rfl, rfl, rfl, Nat.le_refl _, fun _ _ => rfl⟩, rfl, fun _ _ => rfl, rfl⟩
  by_cases h92 : r = 92
  · subst h92
    obtain ⟨x, hx⟩ : ∃ x, hd (rs.drop (a + 1)) = x := ⟨_, rfl⟩
    have HX := Lib.hid hx
    have hxx : (x < 0 ∧ rs.drop (a + 1) = []) ∨ (¬ x < 0 ∧ rs.drop (a + 1) = x :: rs.drop (a + 2) ∧ a + 2 ≤ n) := by
      by_cases h2 : a + 1 < rs.length
      · obtain ⟨y, hy⟩ : ∃ y, rs[a + 1]? = some y := ⟨_, List.getElem?_eq_getElem h2⟩
        have hy0 := hpos y (List.mem_of_getElem? hy)
        rw [hd_some hy] at hx
        subst hx
        refine .inr ⟨by omega, ?_, by omega⟩
        obtain ⟨hp, e⟩ := List.getElem?_eq_some_iff.1 hy
        rw [List.drop_eq_getElem_cons hp, e]
      · rw [hd_none (by omega)] at hx
        exact .inl ⟨by omega, List.drop_eq_nil_of_le (by omega)⟩
    have HXX := Lib.hid hxx
    have HN2 := Lib.hid (fun W (h2 : DP W bp rs (a + 1) false k) => next_any bp rs (a + 1) false k W h2 (by omega) (by omega))
    rw [hx] at HN2
    have HF := Lib.hid first
    clear h hr hdr hn hx hxx first
    go_enter Try.func79, Try.ntmps79
    go_wp2_with fail
    refine HN1.out.mono ?_
    rintro e w1 ⟨rfl, hq⟩
    obtain ⟨hd1, hb1, hk1⟩ := HF.out w1 hq
    have hd2 := hd1.setAt (a + 1) ((a : Int) + 1) (by omega)
    have HB2 := Lib.hid (below_set hb1 (Nat.le_refl _) 3 (.int .i64 ((a : Int) + 1)))
    have HK2 := Lib.hid (hk1.trans (Kept1.set hd1 3 (by decide) (.int .i64 ((a : Int) + 1))))
    have HD2 := Lib.hid hd2
    have HNN := Lib.hid (HN2.out _ hd2)
    obtain ⟨vp, root, o, c, N, xs, h1, -⟩ := hd1
    obtain ⟨⟨c0, c1, c2, c3, c4⟩, f0, f1, f2, f3, f4⟩ := cells5 h1
    clear hq hb1 hk1 hd2 h1
    go_wp2_with fail
    refine HNN.out.mono ?_
    rintro e w3 ⟨rfl, hq⟩
    have hd3 : DP w3 bp rs (a + 1) false k := by obtain ⟨q, rfl⟩ := hq; exact HD2.out
    have hb3 : Below bp w w3 := by obtain ⟨q, rfl⟩ := hq; exact ⟨HB2.out.os, HB2.out.tape, HB2.out.output, HB2.out.size, HB2.out.block⟩
    have hk3 : Kept1 bp w w3 := by obtain ⟨q, rfl⟩ := hq; exact HK2.out
    have hd4 := (hd3.setAt (a + 2) ((a : Int) + 1 + 1) (by omega)).setBad (decide (x < 0))
    have HE := Lib.hid (And.intro hd4 (And.intro (below_set (below_set hb3 (Nat.le_refl _) 3 (.int .i64 ((a : Int) + 1 + 1))) (Nat.le_refl _) 4 (.bool (decide (x < 0)))) (hk3.trans ((Kept1.set hd3 3 (by decide) (.int .i64 ((a : Int) + 1 + 1))).trans (Kept1.set (hd3.setAt (a + 2) ((a : Int) + 1 + 1) (by omega)) 4 (by decide) (.bool (decide (x < 0))))))))
    clear c0 c1 c2 c3 c4 f0 f1 f2 f3 f4
    obtain ⟨vp, root, o, c, N, xs, h1, -⟩ := hd3
    obtain ⟨⟨c0, c1, c2, c3, c4⟩, f0, f1, f2, f3, f4⟩ := cells5 h1
    have c3' : w3.cell? ⟨bp, 3, none⟩ = some (.int .i64 ((a : Int) + 1)) := by rw [c3]; simp
    clear hq hb3 hk3 hd4 h1 c3
    go_wp2
    go_ret
    refine ⟨x, a + 2, decide (x < 0), rfl, HE.out.1, HE.out.2.1, HE.out.2.2, by omega, by omega, ?_⟩
    rw [HDR.out]
    rcases HXX.out with ⟨g1, g2⟩ | ⟨g1, g2, g3⟩
    · rw [g2]
      show decide (x < 0) = true
      simp [g1]
    · rw [g2]
      show decide (x < 0) = false ∧ x = x ∧ rs.drop (a + 2) = rs.drop (a + 2) ∧ a + 2 ≤ rs.length
      exact ⟨by simp [g1], rfl, rfl, by rw [HLN.out]; exact g3⟩
  · have e92 : (r == 92) = false := by simp [h92]
    have e0 : decide (r < 0) = false := by simp; omega
    have HF := Lib.hid first
    have HR0 := Lib.hid hr0
    clear h hr hdr hn first hr0
    go_enter Try.func79, Try.ntmps79
    go_wp2_with fail
    refine HN1.out.mono ?_
    rintro e w1 ⟨rfl, hq⟩
    obtain ⟨hd1, hb1, hk1⟩ := HF.out w1 hq
    have hd3 := (hd1.setAt (a + 1) ((a : Int) + 1) (by omega)).setBad (decide (r < 0))
    have HE := Lib.hid (And.intro hd3 (And.intro (below_set (below_set hb1 (Nat.le_refl _) 3 (.int .i64 ((a : Int) + 1))) (Nat.le_refl _) 4 (.bool (decide (r < 0)))) (hk1.trans ((Kept1.set hd1 3 (by decide) (.int .i64 ((a : Int) + 1))).trans (Kept1.set (hd1.setAt (a + 1) ((a : Int) + 1) (by omega)) 4 (by decide) (.bool (decide (r < 0))))))))
    obtain ⟨vp, root, o, c, N, xs, h1, -⟩ := hd1
    obtain ⟨⟨c0, c1, c2, c3, c4⟩, f0, f1, f2, f3, f4⟩ := cells5 h1
    have e0' := Lib.hid e0
    clear hq hb1 hk1 hd3 h1 e0
    go_wp2
    go_ret
    refine ⟨r, a + 1, decide (r < 0), rfl, HE.out.1, HE.out.2.1, HE.out.2.2, by omega, by omega, ?_⟩
    rw [HDR.out]
    unfold itR
    dsimp only
    rw [if_neg h92]
    exact ⟨e0'.out, rfl, rfl, by omega⟩
theorem infoP : (Try.prog.info? 88).map (fun i => (i.zero, i.size, i.bytes)) = some (some (.agg #[.int .i64 0, .int .i32 0, .slice none 0 0, .slice none 0 0, .bool false, .int .i64 0, .int .i64 0, .int .i64 0, .bool false]), 9, 104) := by kernel_rfl
theorem own_shapeD {w : World} {B e size n : Nat} {v : Value} {xs : List Value} (h : w.ownsRow B e size v n xs) : ∃ o c, v = .slice o n c := by
  rcases h.2 with ⟨rfl, rfl⟩ | ⟨g, cap, cur, rfl, _⟩
  · exact ⟨_, _, rfl⟩
  · exact ⟨_, _, rfl⟩
theorem own_stepD {P : Program} {ops : Array Oper} {o : Oper} {a : Act} {w : World} {K : Act → World → Prop} {Q : Exit → Act → World → Prop} {E : Prop} (hg : o.guard = none) (s x : Operand) (t : TypeId)
    (ho : o.op = .call { callee := .builtin .append, args := #[s, x], argTypes := #[t, t] })
    (base : Nat) (e : TypeId) (i : TypeInfo) (z : Value) (size bytes : Nat) (ht : P.underlying t = some (.slice e)) (hi : P.info? e = some i) (hz : i.zero = some z)
    (hsize : i.size = size) (hby : i.bytes = bytes) (hzs : z.cells.size = size) (hsz : 0 < size)
    (v : Value) (n : Nat) (xs : List Value) (hs : a.eval s = v) (hown : w.ownsRow base e size v n xs)
    (ad : Addr) (m c : Nat) (news : List Value) (hx : a.eval x = .slice (some ad) m c) (hl : news.length = m * size) (hnews : ∀ j u, news[j]? = some u → w.cell? (ad.add j) = some u) (h1 : ∀ u ∈ news, u.oneCell' = true)
    (h63 : n + m ≤ maxLen) (hbytes : (n + m) * bytes ≤ 140737488355328) (hbase : base ≤ w.heap.size)
    (h : ∀ v' w', w'.ownsRow base e size v' (n + m) (xs ++ news) → w.grownBy w' v.ownBlock → K (a.put o.dst v') w') :
    if Region.wanted o (yielded ops a.tmps) = true then Oper.wp P o a w K Q else E := by
  rw [if_pos (by simp [Region.wanted, hg])]
  exact wp_append_own w s x t ho base e i z size bytes ht hi hz hsize hby hzs hsz v n xs hs hown ad m c news hx hl hnews h1 h63 hbytes hbase fun v' w' h2 h3 _ => h v' w' h2 h3
theorem cells9 (w : World) (c0 c1 c2 c3 c4 c5 c6 c7 c8 : Value) (t : TypeId) : ∀ j u, [c0, c1, c2, c3, c4, c5, c6, c7, c8][j]? = some u → (w.alloc (.cells #[c0, c1, c2, c3, c4, c5, c6, c7, c8] t)).cell? ((⟨w.heap.size, 0, none⟩ : Addr).add j) = some u := by
  intro j u hj
  match j, hj with
  | 0, hj => simp at hj; subst hj; simp [Addr.add]
  | 1, hj => simp at hj; subst hj; simp [Addr.add]
  | 2, hj => simp at hj; subst hj; simp [Addr.add]
  | 3, hj => simp at hj; subst hj; simp [Addr.add]
  | 4, hj => simp at hj; subst hj; simp [Addr.add]
  | 5, hj => simp at hj; subst hj; simp [Addr.add]
  | 6, hj => simp at hj; subst hj; simp [Addr.add]
  | 7, hj => simp at hj; subst hj; simp [Addr.add]
  | 8, hj => simp at hj; subst hj; simp [Addr.add]
  | j + 9, hj => simp at hj
theorem grown_belowD {B : Nat} {w w2 w3 : World} {v : Value} (hb : Below B w w2) (hg : w2.grownBy w3 v.ownBlock) (hB : B ≤ w2.heap.size) (hv : ∀ g, v.ownBlock = some g → B ≤ g) : Below B w w3 :=
  hb.trans ⟨hg.os, hg.tape, hg.output, hg.size, fun k hk => hg.block k (by omega) (fun e => by have := hv k e.symm; omega)⟩
/-- How a call that reads a part of a pattern ends: where it is, whether it is bad. -/
def PartEnd (w : World) (bp : Nat) (rs : List Int) (a' : Nat) (bad' : Bool) (k' : Nat) (e : Ending) (w' : World) : Prop := (∃ n : Int, e = .returned (.int .i64 n)) ∧ DP w' bp rs a' bad' k' ∧ Below bp w w'

set_option maxHeartbeats 4000000 in
set_option maxRecDepth 100000 in
theorem add_any (bp : Nat) (rs : List Int) (a : Nat) (bad : Bool) (k : Nat) (w : World) (h : DP w bp rs a bad k) (hk : k ≤ 100000) (kd r : Int) (lo hi : Option Addr) (ln lc hn hc : Nat) (nt : Bool) (pa pb le : Int) (on : Bool) :
    Calls Try.prog 38 #[.pointer (some ⟨bp, 0, none⟩), .agg #[.int .i64 kd, .int .i32 r, .slice lo ln lc, .slice hi hn hc, .bool nt, .int .i64 pa, .int .i64 pb, .int .i64 le, .bool on]] w (PartEnd w bp rs a bad (k + 1)) := by
  obtain ⟨ie, hinf, hz0, hz1, hz2⟩ := info_parts infoP
  have hlt := h.lt
  obtain ⟨vp, root, o, c, N, xs, h1, h2, h3, h4⟩ := h
  obtain ⟨wP, hwP⟩ : ∃ wP, w.alloc (Obj.cells #[.int .i64 kd, .int .i32 r, .slice lo ln lc, .slice hi hn hc, .bool nt, .int .i64 pa, .int .i64 pb, .int .i64 le, .bool on] 88) = wP := ⟨_, rfl⟩
  have hbP : Below w.heap.size w wP := by rw [← hwP]; exact (Below.refl _ _).alloc (Nat.le_refl _) _
  have hsP : w.heap.size < wP.heap.size := by rw [← hwP]; simp
  have hbx : wP.heap[w.heap.size]? = some (.cells #[.int .i64 kd, .int .i32 r, .slice lo ln lc, .slice hi hn hc, .bool nt, .int .i64 pa, .int .i64 pb, .int .i64 le, .bool on] 88 (0, 0)) := by rw [← hwP]; exact Array.getElem?_push_size
  have h1P : wP.heap[bp]? = _ := (hbP.block bp hlt).trans h1
  have HO0 := Lib.hid h3
  have HOP := Lib.hid (show wP.ownsRow (bp + 1) 88 9 vp N xs by rw [← hwP]; exact h3.alloc _)
  obtain ⟨vo, vc, hvp⟩ := own_shapeD h3
  subst hvp
  have HH := Lib.hid (fun (W : World) (hW : ∀ j, j ≤ bp ∨ j = w.heap.size → W.heap[j]? = wP.heap[j]?) => (show W.cell? ⟨bp, 0, none⟩ = some (.slice vo N vc) ∧ W.cell? ⟨w.heap.size, 0, none⟩ = some (.int .i64 kd) ∧ W.cell? ⟨w.heap.size, 1, none⟩ = some (.int .i32 r) ∧ W.cell? ⟨w.heap.size, 2, none⟩ = some (.slice lo ln lc) ∧ W.cell? ⟨w.heap.size, 3, none⟩ = some (.slice hi hn hc) ∧ W.cell? ⟨w.heap.size, 4, none⟩ = some (.bool nt) ∧ W.cell? ⟨w.heap.size, 5, none⟩ = some (.int .i64 pa) ∧ W.cell? ⟨w.heap.size, 6, none⟩ = some (.int .i64 pb) ∧ W.cell? ⟨w.heap.size, 7, none⟩ = some (.int .i64 le) ∧ W.cell? ⟨w.heap.size, 8, none⟩ = some (.bool on) from by
    have e1 := (hW bp (.inl (Nat.le_refl _))).trans h1P
    have e2 := (hW w.heap.size (.inr rfl)).trans hbx
    refine ⟨?_, ?_, ?_, ?_, ?_, ?_, ?_, ?_, ?_, ?_⟩ <;> simp [World.cell?, e1, e2]))
  have HFZ := Lib.hid (fun (W : World) (hW : W.heap[bp]? = wP.heap[bp]?) => (show W.frozen? ⟨bp, 0, none⟩ = false from by have e1 := hW.trans h1P; simp [World.frozen?, e1]))
  have HP := Lib.hid (And.intro hbP (And.intro h1P h2))
  have HWP := Lib.hid hwP
  have HLT := Lib.hid (And.intro hlt hsP)
  have HN := Lib.hid h4
  have hN : N ≤ 100000 := by omega
  obtain ⟨r0, r1, r2, r3, r4, r5, r6, r7, r8, r9⟩ := HH.out wP (fun _ _ => rfl)
  obtain ⟨t0, t1, t2, t3, t4, t5, t6, t7, t8, t9⟩ := HH.out ((wP.alloc (.cells #[.int .i64 kd, .int .i32 r, .slice lo ln lc, .slice hi hn hc, .bool nt, .int .i64 pa, .int .i64 pb, .int .i64 le, .bool on] 88)).drew) (fun j hj => Below.heap_alloc _ _ _ (by rcases hj with hj | hj <;> omega))
  clear h1 h2 h3 h4 hbP hsP hbx h1P hwP hlt
  go_enter Try.func38, Try.ntmps38
  go_wp2_with fail
  rw [show w.alloc (Obj.cells #[.int .i64 kd, .int .i32 r, .slice lo ln lc, .slice hi hn hc, .bool nt, .int .i64 pa, .int .i64 pb, .int .i64 le, .bool on] 88) = wP from HWP.out]
  go_region_law (first
    | (refine own_stepD rfl (.tmp 9) (.tmp 11) 71 rfl (bp + 1) 88 ie _ 9 104 Try.underlying71 hinf hz0 hz1 hz2 rfl (by decide) (.slice vo N vc) N xs rfl (World.ownsRow.alloc (w := wP.drew) HOP.out _) ⟨wP.heap.size, 0, none⟩ 1 1 [.int .i64 kd, .int .i32 r, .slice lo ln lc, .slice hi hn hc, .bool nt, .int .i64 pa, .int .i64 pb, .int .i64 le, .bool on] rfl rfl (cells9 wP.drew _ _ _ _ _ _ _ _ _ _) (by intro u hu; simp at hu; rcases hu with rfl | rfl | rfl | rfl | rfl | rfl | rfl | rfl | rfl <;> rfl) (by unfold maxLen; omega) (by omega) (by have := HLT.out; simp; omega) ?_
       intro v2 wC hoC hgC
       obtain ⟨o2, c2, rfl⟩ := own_shapeD hoC
       have HOC := Lib.hid hoC
       have HGC := Lib.hid hgC
       have hWC : ∀ j, j ≤ bp ∨ j = w.heap.size → wC.heap[j]? = wP.heap[j]? := fun j hj => by
         have hl := HLT.out
         refine (hgC.block j (by simp; rcases hj with hj | hj <;> omega) (fun e => ?_)).trans (Below.heap_alloc _ _ _ (by rcases hj with hj | hj <;> (show _ < wP.heap.size; omega)))
         have h5 := HO0.out.lt j e.symm
         rcases hj with hj | hj <;> omega
       obtain ⟨s0, s1, s2, s3, s4, s5, s6, s7, s8, s9⟩ := HH.out wC hWC
       have f0 := HFZ.out wC (hWC bp (.inl (Nat.le_refl _)))
       have HWC := Lib.hid hWC
       clear hoC hgC hWC))
  all_goals
    go_wp2
    go_ret
    have hl := HLT.out
    have hbC : Below bp w wC := grown_belowD (w2 := wP.drew.alloc (.cells #[.int .i64 kd, .int .i32 r, .slice lo ln lc, .slice hi hn hc, .bool nt, .int .i64 pa, .int .i64 pb, .int .i64 le, .bool on] 88)) ((HP.out.1.mono (by omega)).drew.alloc (by show bp ≤ wP.heap.size; omega) _) HGC.out (by simp; omega) (fun g hg => by have := HOP.out.lt g hg; omega)
    have e1 := (HWC.out bp (.inl (Nat.le_refl _))).trans HP.out.2.1
    refine ⟨⟨_, rfl⟩, ⟨_, root, o, c, N + 1, _, heap_setCell_same wC bp 0 #[.slice vo N vc, .int .i64 root, .slice o rs.length c, .int .i64 (a : Nat), .bool bad] 73 _ e1, HP.out.2.2.keep fun j hj => (heap_setCell_other wC ⟨bp, 0, none⟩ j _ (fun e => by have e2 : j = bp := e; omega)).trans (hbC.block j hj), HOC.out.kept (row := some bp) ⟨rfl, rfl, rfl, by simp [World.setCell], fun j _ hj => heap_setCell_other wC ⟨bp, 0, none⟩ j _ (fun e => hj (by simp [e]))⟩ ?_, by have := HN.out; omega⟩, below_set hbC (Nat.le_refl _) 0 _⟩
    cases ho : Value.ownBlock (.slice o2 (N + 1) c2) with
    | none => exact .inl rfl
    | some g =>
      have := (HOC.out.lt g ho).1
      exact .inr (by simp; omega)
end Go.Proofs.Ytmidpekkomhogaa.Dpt
