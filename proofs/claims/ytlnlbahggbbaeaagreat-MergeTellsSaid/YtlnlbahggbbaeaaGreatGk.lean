import Derived.Test.YtlnlbahggbbaeaaGreatGj
import Derived.Test.YtlnlbahggbbaeaaGreatGi
import Derived.Deep.QuietTactic
import Derived.Laws.AppendOwnNone
section
/- The document's Tidy of rows; light rows; the walks. -/

namespace Go.Proofs.YtlnlbahggbbaeaaGreat.Vec
open Go.RowKit

/-- Are rows few and short enough? -/
def lightR (xs : List Rw) : Bool := (xs.take 100).all (fun x => lightB x.1) && decide ((xs.length : Int) ≤ 60)
theorem light_sml {l : Labs} (h : lightB l = true) : SmL l := by
  unfold lightB at h
  rw [Bool.and_eq_true, List.all_eq_true] at h
  obtain ⟨h1, h2⟩ := h
  have h3 : l.length ≤ 20 := by simp at h2; omega
  refine ⟨by omega, fun y hy => ?_⟩
  have := h1 y (by rw [List.take_of_length_le (by omega)]; exact hy)
  unfold shortB at this
  simp at this
  omega
theorem lightR_mk {xs : List Rw} (h : lightR xs = true) : xs.length ≤ 60 ∧ SmR xs := by
  unfold lightR at h
  rw [Bool.and_eq_true, List.all_eq_true] at h
  obtain ⟨h1, h2⟩ := h
  have h3 : xs.length ≤ 60 := by simp at h2; omega
  refine ⟨h3, fun x hx => light_sml (h1 x (by rw [List.take_of_length_le (by omega)]; exact hx))⟩
end Go.Proofs.YtlnlbahggbbaeaaGreat.Vec
end

section
/- The statements' own vectors: rows that may be, in order; light rows. -/

namespace Go.Proofs.YtlnlbahggbbaeaaGreat.Vec
open Go.RowKit

theorem first_row {W wC : World} {B : Nat} {v2 : Value} {oT : Option Addr} {nT cT : Nat} {tl : Labs} {v : Int} (hn : tl.length = nT) (hl : tl.length ≤ maxLen) (h : LabS W 0 oT tl) (hoC : wC.ownsRow B 51 2 v2 (0 + 1) ([] ++ [.slice oT nT cT, .int .i64 v])) (hgC : W.grownBy wC (Value.slice none 0 0).ownBlock) : OwnR wC B v2 ([] ++ [[.slice oT nT cT, .int .i64 v]]) ([] ++ [(tl, v)]) := by
  subst hn
  exact OwnG.snoc (us := []) (xs := []) (v := .slice none 0 0) frow (Nat.zero_le _) (OwnG.nil W B) ⟨oT, cT, rfl, h, hl⟩ hoC hgC
theorem OwnG.at_all {α : Type} {E : Elem α} {k : Nat} {t : TypeId} {w : World} {B g n c : Nat} {us : List (List Value)} {xs : List α} (h : OwnG E k t w B (.slice (some ⟨g, 0, none⟩) n c) us xs) {W : World} (hb : Below w.heap.size w W) : ∀ j u, us.flatten[j]? = some u → W.cell? ((⟨g, 0, none⟩ : Addr).add j) = some u := by
  intro j u hj
  have h2 := h.own.cells (g := g) rfl j u hj
  have hg := (h.own.lt g rfl).2
  rw [← h2]
  unfold Addr.add
  split
  · exact hb.cell (p := ⟨g, 0, none⟩) hg
  · exact hb.cell (p := ⟨g, _, none⟩) hg
theorem OwnG.copy_snoc {α : Type} {E : Elem α} {k : Nat} {t : TypeId} {BE : Nat} {wq wC : World} {B w0 i : Nat} {v v3 : Value} {us : List (List Value)} {S : List α} {u : List Value} {x : α} (F : Firm E k t BE) (h : OwnG E k t wq B v us S) (hx : E wq u x) (hb : Below wq.heap.size wq wC) (hown : wC.ownsRow w0 t k v3 i ([] ++ us.flatten ++ u)) (hi : i = us.length + 1) : OwnG E k t wC w0 v3 (us ++ [u]) (S ++ [x]) := by
  refine ⟨by rw [List.length_append, List.length_append, h.len]; rfl, ?_, fun j y hy => ?_⟩
  · rw [List.length_append, List.flatten_append, List.flatten_singleton]
    rw [hi] at hown
    exact hown
  · by_cases hj : j < S.length
    · rw [List.getElem?_append_left hj] at hy
      obtain ⟨q, h1, h2⟩ := h.one j y hy
      exact ⟨q, by rw [List.getElem?_append_left (by rw [h.len]; exact hj)]; exact h1, F.below _ _ _ _ h2 hb⟩
    · have hjl := (List.getElem?_eq_some_iff.1 hy).1
      rw [List.length_append] at hjl
      simp at hjl
      obtain rfl : j = S.length := by omega
      rw [List.getElem?_append_right (Nat.le_refl _), Nat.sub_self] at hy
      simp at hy; subst hy
      refine ⟨u, ?_, F.below _ _ _ _ hx hb⟩
      rw [← h.len, List.getElem?_append_right (Nat.le_refl _), Nat.sub_self]; rfl

end Go.Proofs.YtlnlbahggbbaeaaGreat.Vec
end

section
/- Rows compared; light rows: the walks. -/

namespace Go.Proofs.YtlnlbahggbbaeaaGreat.Vec
open Go.RowKit

/-- Are two rows alike? -/
def eqR (x y : Rw) : Bool := Go.Proofs.YtlnlbahggbbaeaaGreat.sameL x.1 y.1 && (x.2 == y.2)
def sameR : List Rw → List Rw → Bool
  | [], [] => true
  | x :: xs, y :: ys => eqR x y && sameR xs ys
  | _, _ => false
theorem sameR_len : ∀ (xs ys : List Rw), xs.length ≠ ys.length → sameR xs ys = false
  | [], [], h => absurd rfl h
  | [], _ :: _, _ => rfl
  | _ :: _, [], _ => rfl
  | x :: xs, y :: ys, h => by rw [sameR, sameR_len xs ys (by simpa using h), Bool.and_false]
theorem sameR_refl : ∀ xs : List Rw, sameR xs xs = true
  | [] => rfl
  | x :: xs => by rw [sameR, sameR_refl xs, Bool.and_true]; unfold eqR; rw [Go.Proofs.YtlnlbahggbbaeaaGreat.sameL_refl]; simp

set_option maxHeartbeats 4000000 in
set_option maxRecDepth 100000 in
theorem sameRows_quiet (o1 o2 : Option Addr) (c1 c2 : Nat) (xs ys : List Rw) (w : World) (hm : xs.length ≤ maxLen) (hm2 : ys.length ≤ maxLen) (B : Nat) (h1 : RowsS w B o1 xs) (h2 : RowsS w B o2 ys) :
    Calls Tryz.prog 11 #[.slice o1 xs.length c1, .slice o2 ys.length c2] w fun e w' => e = .returned (.bool (sameR xs ys)) ∧ ∃ q, w' = w.drewN q := by
  obtain ⟨n, hn⟩ : ∃ n, xs.length = n := ⟨_, rfl⟩
  obtain ⟨m, hm'⟩ : ∃ m, ys.length = m := ⟨_, rfl⟩
  have HN := Lib.hid hn
  have HM := Lib.hid hm'
  rw [hn] at hm ⊢
  rw [hm'] at hm2 ⊢
  clear hn hm'
  unfold maxLen at hm hm2
  by_cases hnm : n = m
  · subst hnm
    have HS1 := Lib.hid h1
    have HS2 := Lib.hid h2
    clear h1 h2
    go_enter Tryz.func11, Tryz.ntmps11
    go_wp2
    go_loopw [5] (fun v13 wr => ∃ k : Nat, v13 = .int .i64 k ∧ k ≤ n ∧ Hid (∃ q, wr = w.drewN q) ∧ Hid (sameR (xs.drop k) (ys.drop k) = sameR xs ys)) (fun v13 _ => n - (Go.RowKit.intOf v13).toNat)
    case atStart => exact ⟨0, rfl, Nat.zero_le _, ⟨0, rfl⟩, rfl⟩
    case round =>
      obtain ⟨k, rfl, hk, HB, H⟩ := hrel
      by_cases hkn : k < n
      · have j1 : (k : Int) < n := by omega
        obtain ⟨x, hx⟩ := get_ltG HN.out hkn
        obtain ⟨b, off, rfl, hS⟩ := (HS1.out.below frow (quietB HB.out)).at hx
        obtain ⟨y, hy⟩ := get_ltG HM.out hkn
        obtain ⟨b2, off2, rfl, hS2⟩ := (HS2.out.below frow (quietB HB.out)).at hy
        obtain ⟨oL, cL, c0, c1, hL, lL⟩ := row_at hS hx
        obtain ⟨oM, cM, d0, d1, hM, lM⟩ := row_at hS2 hy
        have HX := Lib.hid (drop_atG hx)
        have HY := Lib.hid (drop_atG hy)
        have HCL := Lib.hid (fun q => Go.Proofs.YtlnlbahggbbaeaaGreat.sameLabels_quiet oL oM cL cM x.1 y.1 (wr.drewN q) lL lM (hL.sees.below (quietB ⟨q, rfl⟩)) (hM.sees.below (quietB ⟨q, rfl⟩)))
        clear hS hS2 hx hy hL hM
        generalize x.1.length = nL at c0 HCL lL
        generalize y.1.length = nM at d0 HCL lM
        unfold maxLen at lL lM
        have HE := Lib.hid (show eqR x y = (Go.Proofs.YtlnlbahggbbaeaaGreat.sameL x.1 y.1 && (x.2 == y.2)) from rfl)
        cases eP : x.2 == y.2 with
        | false =>
          rw [eP] at HE
          have H2 := Lib.hid (show false = sameR xs ys by rw [← H.out, HX.out, HY.out, sameR, HE.out]; simp)
          clear HCL
          go_wp2_with fail
          go_quiet (fail)
          have HBq := Lib.hid (quietQ HB.out nq)
          go_wp2
          go_ret
          exact ⟨ret_bool H2.out, HBq.out⟩
        | true =>
          cases eL : Go.Proofs.YtlnlbahggbbaeaaGreat.sameL x.1 y.1 with
          | false =>
            rw [eL] at HCL HE
            have H2 := Lib.hid (show false = sameR xs ys by rw [← H.out, HX.out, HY.out, sameR, HE.out]; simp)
            clear eL
            go_wp2_with fail
            go_quiet (first | (go_at_call 25; exact Calls.quiet_of (HCL.out _)))
            have HBq := Lib.hid (quietQ HB.out nq)
            go_wp2
            go_ret
            exact ⟨ret_bool H2.out, HBq.out⟩
          | true =>
            rw [eL] at HCL HE
            rw [eP] at HE
            have H2 := Lib.hid (show sameR (xs.drop (k + 1)) (ys.drop (k + 1)) = sameR xs ys by rw [← H.out, HX.out, HY.out, sameR, HE.out]; simp)
            clear eL
            go_wp2_with fail
            go_quiet (first | (go_at_call 25; exact Calls.quiet_of (HCL.out _)))
            have HBq := Lib.hid (quietQ HB.out nq)
            go_wp2
            go_roundw
            case rel => exact ⟨k + 1, by go_num, by omega, HBq, H2⟩
            case measure => simp [Go.RowKit.intOf]; omega
      · have j1 : (n : Int) ≤ k := by omega
        have H2 := Lib.hid (show true = sameR xs ys by
          have e1 : xs.drop k = [] := List.drop_eq_nil_of_le (by rw [HN.out]; omega)
          have e2 : ys.drop k = [] := List.drop_eq_nil_of_le (by rw [HM.out]; omega)
          rw [← H.out, e1, e2, sameR])
        go_wp2
        go_ret
        exact ⟨ret_bool H2.out, HB.out⟩
  · have H2 := Lib.hid (show false = sameR xs ys from (sameR_len xs ys (by rw [HN.out, HM.out]; exact hnm)).symm)
    have t1 : ((n : Int) != (m : Int)) = true := by rw [bne_iff_ne]; omega
    have t2 : ((n : Int) == (m : Int)) = false := by rw [beq_eq_false_iff_ne]; omega
    clear hnm
    go_enter Tryz.func11, Tryz.ntmps11
    go_wp2
    go_ret
    exact ⟨ret_bool H2.out, 0, rfl⟩
theorem sameRows_any (o1 o2 : Option Addr) (c1 c2 : Nat) (xs ys : List Rw) (w : World) (hm : xs.length ≤ maxLen) (hm2 : ys.length ≤ maxLen) (B : Nat) (h1 : RowsS w B o1 xs) (h2 : RowsS w B o2 ys) :
    Calls Tryz.prog 11 #[.slice o1 xs.length c1, .slice o2 ys.length c2] w fun e w' => e = .returned (.bool (sameR xs ys)) ∧ Below w.heap.size w w' :=
  (sameRows_quiet o1 o2 c1 c2 xs ys w hm hm2 B h1 h2).mono fun _ _ h => ⟨h.1, quietB h.2⟩
theorem sameR_iff : ∀ (xs ys : List Rw), sameR xs ys = true ↔ xs = ys
  | [], [] => by simp [sameR]
  | [], y :: ys => by simp [sameR]
  | x :: xs, [] => by simp [sameR]
  | x :: xs, y :: ys => by
    rw [sameR, Bool.and_eq_true, sameR_iff xs ys, eqR, Bool.and_eq_true, sameL_iff, beq_iff_eq, List.cons.injEq]
    constructor
    · rintro ⟨⟨h1, h2⟩, h3⟩; exact ⟨Prod.ext h1 h2, h3⟩
    · rintro ⟨rfl, rfl⟩; exact ⟨⟨rfl, rfl⟩, rfl⟩

set_option maxHeartbeats 4000000 in
set_option maxRecDepth 100000 in
theorem lightR_any (o : Option Addr) (n c : Nat) (xs : List Rw) (w : World) (B : Nat) (hn : xs.length = n) (hS : RowsS w B o xs) :
    Calls Tryz.prog 19 #[.slice o n c] w fun e w' => e = .returned (.bool (lightR xs)) ∧ Below w.heap.size w w' := by
  have HN := Lib.hid hn
  have HS := Lib.hid hS
  clear hn hS
  have HE := Lib.hid (show lightR xs = ((xs.take 100).all (fun x => lightB x.1) && decide ((n : Int) ≤ 60)) by unfold lightR; rw [HN.out])
  go_enter Tryz.func19, Tryz.ntmps19
  go_wp2
  go_loopw [3] (fun v3 wr => ∃ k : Nat, v3 = .int .i64 k ∧ k ≤ n ∧ k ≤ 100 ∧ Hid (Below w.heap.size w wr) ∧ Hid ((xs.take k).all (fun x => lightB x.1) = true)) (fun v3 _ => n - (Go.RowKit.intOf v3).toNat)
  case atStart => exact ⟨0, rfl, Nat.zero_le _, Nat.zero_le _, Below.refl _ _, rfl⟩
  case round =>
    obtain ⟨k, rfl, hk, hk100, HB, H⟩ := hrel
    by_cases hkn : k < n
    · have j1 : (k : Int) < n := by omega
      by_cases h100 : k < 100
      · have j2 : (k : Int) < 100 := by omega
        obtain ⟨x, hx⟩ := get_ltG HN.out hkn
        obtain ⟨b, off, rfl, hR⟩ := (HS.out.below frow HB.out).at hx
        obtain ⟨oL, cL, c0, c1, hL, lL⟩ := row_at hR hx
        have HX := Lib.hid (take_atG hx)
        have HMem := Lib.hid (show x ∈ xs.take 100 from by
          obtain ⟨h1, h2⟩ := List.getElem?_eq_some_iff.1 hx
          rw [← h2]; exact List.mem_iff_getElem.2 ⟨k, by rw [List.length_take]; omega, List.getElem_take⟩)
        obtain ⟨nL, hnL⟩ : ∃ nL, x.1.length = nL := ⟨_, rfl⟩
        have HLt := Lib.hid (light_any oL cL x.1 wr lL hL.sees)
        rw [hnL] at c0 HLt
        obtain ⟨g, hg⟩ : ∃ g, lightB x.1 = g := ⟨_, rfl⟩
        have HG := Lib.hid hg
        rw [hg] at HLt
        clear hR hx hL lL hnL hg c1
        cases g with
        | false =>
          have H2 := Lib.hid (show lightR xs = false by
            rw [HE.out, show (xs.take 100).all (fun x => lightB x.1) = false by rw [List.all_eq_false]; exact ⟨x, HMem.out, by rw [HG.out]; simp⟩, Bool.false_and])
          go_wp2_with fail
          refine HLt.out.mono ?_
          rintro e w2 ⟨rfl, b2⟩
          have HB2 := Lib.hid (HB.out.trans (b2.mono HB.out.size))
          clear b2
          go_wp2
          go_ret
          exact ⟨ret_bool H2.out.symm, HB2.out⟩
        | true =>
          have H2 := Lib.hid (show (xs.take (k + 1)).all (fun x => lightB x.1) = true by
            rw [HX.out, List.all_append, H.out]; simp [HG.out])
          go_wp2_with fail
          refine HLt.out.mono ?_
          rintro e w2 ⟨rfl, b2⟩
          have HB2 := Lib.hid (HB.out.trans (b2.mono HB.out.size))
          clear b2
          go_wp2
          go_roundw
          case rel => exact ⟨k + 1, by go_num, by omega, by omega, HB2, H2⟩
          case measure => simp [Go.RowKit.intOf]; omega
      · have j2 : ¬ (k : Int) < 100 := by omega
        have H2 := Lib.hid (show lightR xs = decide ((n : Int) ≤ 60) by
          have e : k = 100 := by omega
          have h := H.out
          rw [e] at h
          rw [HE.out, h, Bool.true_and])
        go_wp2
        go_ret
        exact ⟨ret_bool H2.out.symm, HB.out⟩
    · have j1 : ¬ (k : Int) < n := by omega
      have H2 := Lib.hid (show lightR xs = decide ((n : Int) ≤ 60) by
        have e : xs.take 100 = xs.take k := by
          rw [List.take_of_length_le (by rw [HN.out]; omega), List.take_of_length_le (by rw [HN.out]; omega)]
        rw [HE.out, e, H.out, Bool.true_and])
      go_wp2
      go_ret
      exact ⟨ret_bool H2.out.symm, HB.out⟩
end Go.Proofs.YtlnlbahggbbaeaaGreat.Vec
end

section
/- A first call whose answer the document fixes. -/

namespace Go.Proofs.YtlnlbahggbbaeaaGreat.Vec
open Go.RowKit

def la : Labs := [(⟨#[97]⟩, ⟨#[49]⟩)]

end Go.Proofs.YtlnlbahggbbaeaaGreat.Vec
end

section
/- Lists of the call's own put behind each other; what comparisons come to. -/

namespace Go.Proofs.YtlnlbahggbbaeaaGreat.Vec
open Go.RowKit

theorem grown_refl (w : World) (r : Option Nat) : w.grownBy w r := ⟨rfl, rfl, rfl, Nat.le_refl _, fun _ _ _ => rfl⟩
theorem OwnG.app {α : Type} {E : Elem α} {k : Nat} {t : TypeId} {BE : Nat} {w w' : World} {B : Nat} {v v' : Value} {us us2 : List (List Value)} {xs ys : List α} (F : Firm E k t BE) (hB : BE ≤ B) (h : OwnG E k t w B v us xs) (hl : us2.length = ys.length) (h2 : ∀ (j : Nat) (x : α), ys[j]? = some x → ∃ u, us2[j]? = some u ∧ E w u x) (hown : w'.ownsRow B t k v' (us.length + us2.length) (us.flatten ++ us2.flatten)) (hg : w.grownBy w' v.ownBlock) : OwnG E k t w' B v' (us ++ us2) (xs ++ ys) := by
  have hr : ∀ g, v.ownBlock = some g → BE ≤ g ∧ ∃ cs m, w.heap[g]? = some (.cells cs t m) := fun g hg => ⟨Nat.le_trans hB (own_row h.own g hg).1, (own_row h.own g hg).2⟩
  refine ⟨by rw [List.length_append, List.length_append, h.len, hl], by rw [List.length_append, List.flatten_append]; exact hown, fun j y hy => ?_⟩
  by_cases hj : j < xs.length
  · rw [List.getElem?_append_left hj] at hy
    obtain ⟨q, h1, h3⟩ := h.one j y hy
    exact ⟨q, by rw [List.getElem?_append_left (by rw [h.len]; exact hj)]; exact h1, F.grown _ _ _ _ _ h3 hr hg⟩
  · rw [List.getElem?_append_right (by omega)] at hy
    obtain ⟨q, h1, h3⟩ := h2 _ y hy
    exact ⟨q, by rw [List.getElem?_append_right (by rw [h.len]; omega), h.len]; exact h1, F.grown _ _ _ _ _ h3 hr hg⟩
theorem flat_lenG {k : Nat} {us : List (List Value)} (h : ∀ u ∈ us, u.length = k) : us.flatten.length = us.length * k := by
  induction us with
  | nil => simp
  | cons u us ih => rw [List.flatten_cons, List.length_append, ih (fun v hv => h v (List.mem_cons_of_mem _ hv)), h u List.mem_cons_self, List.length_cons, Nat.add_mul]; omega
/-- append(l, m...), both of the call's own. -/
theorem wpList_append_G {α : Type} {E : Elem α} {P : Program} (w : World) {ops : Array Oper} {rest : List Oper} {o : Oper} {a : Act} {Q : Exit → Act → World → Prop} (hgd : o.guard = none) (s x : Operand) (t : TypeId)
    (ho : o.op = .call { callee := .builtin .append, args := #[s, x], argTypes := #[t, t] })
    (base : Nat) (e : TypeId) (i : TypeInfo) (z : Value) (size bytes : Nat) (ht : P.underlying t = some (.slice e)) (hi : P.info? e = some i) (hz : i.zero = some z)
    (hsize : i.size = size) (hby : i.bytes = bytes) (hzs : z.cells.size = size) (hsz : 0 < size) {BE : Nat} (F : Firm E size e BE) (hBE : BE ≤ base)
    (v : Value) (us : List (List Value)) (xs : List α) (hs : a.eval s = v) (hown : OwnG E size e w base v us xs)
    (v2 : Value) (base2 : Nat) (us2 : List (List Value)) (ys : List α) (hx : a.eval x = v2) (h2 : OwnG E size e w base2 v2 us2 ys)
    (h63 : xs.length + ys.length ≤ maxLen) (hbytes : (xs.length + ys.length) * bytes ≤ 140737488355328) (hbase : base ≤ w.heap.size)
    (h : ∀ v' w', OwnG E size e w' base v' (us ++ us2) (xs ++ ys) → w.grownBy w' v.ownBlock → wpList P ops Q rest (a.put o.dst v') w') : wpList P ops Q (o :: rest) a w := by
  have hl := hown.len
  have hl2 := h2.len
  have h9 := h2.own
  rcases h9.2 with ⟨rfl, h0⟩ | ⟨g, cap, cur, rfl, _, _, _, _, _, _⟩
  · obtain rfl : us2 = [] := List.eq_nil_of_length_eq_zero h0
    obtain rfl : ys = [] := List.eq_nil_of_length_eq_zero (by rw [← hl2]; rfl)
    refine wpList_append_own_none hgd s x t ho base e i size ht hi v us.length us.flatten hs hown.own hx (h v w ?_ (grown_refl _ _))
    rw [List.append_nil, List.append_nil]; exact hown
  · refine wpList_append_own w hgd s x t ho base e i z size bytes ht hi hz hsize hby hzs hsz v us.length us.flatten hs hown.own ⟨g, 0, none⟩ us2.length cap us2.flatten hx (flat_lenG (h2.wide F)) (h2.at_all (Below.refl _ _)) (fun u hu => by obtain ⟨q, hq, hu⟩ := List.mem_flatten.1 hu; exact h2.cellsE F q hq u hu) (by omega) (by rw [hl, hl2]; exact hbytes) hbase (fun v' w' h3 h4 _ => h v' w' ?_ h4)
    exact hown.app F hBE hl2 h2.one h3 h4
end Go.Proofs.YtlnlbahggbbaeaaGreat.Vec
end
