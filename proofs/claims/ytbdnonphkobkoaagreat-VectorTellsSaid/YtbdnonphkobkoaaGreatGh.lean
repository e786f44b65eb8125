import Derived.Test.YtbdnonphkobkoaaGreatGg
import Derived.Test.YtbdnonphkobkoaaGreatGe
import Derived.Test.YtbdnonphkobkoaaGreatGf
import Derived.Maps.Own
import Derived.Maps.Views
import Derived.Maps.OwnOps
import Derived.Maps.OwnSet
import Derived.Test.YtbdnonphkobkoaaGreatSort
import Derived.Shelf.SlSortCmp.NoneTotal
section
/- Vectors: all rows with their keys, keys as texts, numbers by these. -/







namespace Go.Proofs.YtbdnonphkobkoaaGreat.Vec
open Go.RowKit Go.Maps Go.WideMaps

theorem infoKey : (Tryz.prog.info? 74).map (fun i => (i.zero, i.size, i.bytes)) = some (some (.agg #[.slice none 0 0, .int .i64 0, .slice none 0 0]), 3, 56) := by kernel_rfl
theorem infoPair : (Tryz.prog.info? 76).map (fun i => (i.zero, i.size, i.bytes)) = some (some (.agg #[.slice none 0 0, .int .i64 0, .slice none 0 0, .int .i64 0, .int .i64 0]), 5, 72) := by kernel_rfl
theorem infoRow : (Tryz.prog.info? 53).map (fun i => (i.zero, i.size, i.bytes)) = some (some (.agg #[.slice none 0 0, .int .i64 0]), 2, 32) := by kernel_rfl
theorem cells_k (w : World) (L : List Value) (t : TypeId) : ∀ j u, L[j]? = some u → (w.alloc (.cells L.toArray t)).cell? ((⟨w.heap.size, 0, none⟩ : Addr).add j) = some u := by
  intro j u hj
  have hW : (w.alloc (.cells L.toArray t)).heap[w.heap.size]? = some (.cells L.toArray t (0, 0)) := Array.getElem?_push_size
  unfold Addr.add
  split
  · next e => subst e; unfold World.cell?; simp only [hW]; simpa using hj
  · unfold World.cell?; simp only [hW]; simpa using hj
theorem boxk (w : World) (L : List Value) (t : TypeId) : ∀ W, Below (w.alloc (.cells L.toArray t)).heap.size (w.alloc (.cells L.toArray t)) W → ∀ j u, L[j]? = some u → W.cell? ⟨w.heap.size, j, none⟩ = some u := by
  intro W h j u hj
  have hW : (w.alloc (.cells L.toArray t)).heap[w.heap.size]? = some (.cells L.toArray t (0, 0)) := Array.getElem?_push_size
  have h1 := (h.block _ (Array.getElem?_eq_some_iff.1 hW).1).trans hW
  unfold World.cell?; simp only [h1]; simpa using hj
/-- A block that is not the row's own is kept. -/
theorem kept_else {wq wA : World} {v : Value} {o : Obj} {p : Nat} (hp : p < wq.heap.size) (hne : ∀ g, v.ownBlock = some g → g ≠ p) (hg : (wq.alloc o).grownBy wA v.ownBlock) (j : Nat) : wA.cell? ⟨p, j, none⟩ = wq.cell? ⟨p, j, none⟩ := by
  have h1 : wA.heap[p]? = (wq.alloc o).heap[p]? := hg.block p (by simp; omega) (fun e => hne p e.symm rfl)
  rw [cell_same h1, cell_same (Below.heap_alloc wq o p hp)]
theorem neKey : 62 ≠ 74 := by decide
theorem nePair : 62 ≠ 76 := by decide
theorem fkey {B : Nat} : Firm (EKey B) 3 74 B := firmKey neKey
theorem fpair {B : Nat} : Firm (EPair B) 5 76 B := firmPair nePair
abbrev OwnK (BE : Nat) (w : World) (B : Nat) (v : Value) (us : List (List Value)) (xs : List (Rw × Labs)) : Prop := OwnG (EKey BE) 3 74 w B v us xs
abbrev OwnP (BE : Nat) (w : World) (B : Nat) (v : Value) (us : List (List Value)) (xs : List Pr) : Prop := OwnG (EPair BE) 5 76 w B v us xs
abbrev OwnR (w : World) (B : Nat) (v : Value) (us : List (List Value)) (xs : List Rw) : Prop := OwnG (ERow 0) 2 53 w B v us xs
def keyed (mode : Int) (ns : List ByteArray) (x : Rw) : Rw × Labs := (x, keyR mode ns x.1)
def SmR (xs : List Rw) : Prop := ∀ x ∈ xs, SmL x.1

set_option maxHeartbeats 4000000 in
set_option maxRecDepth 100000 in
theorem keyAll_any (mode : Int) (on o : Option Addr) (nn cn n c : Nat) (ns : List ByteArray) (xs : List Rw) (w : World) (hnn : ns.length = nn) (hn : xs.length = n) (hl : SmR xs) (hmn : nn ≤ maxLen) (hm : n ≤ 2000) (BE : Nat) (hBE : BE ≤ w.heap.size) (hS : RowsS w BE o xs) (hN : SeesN w on ns) :
    Calls Tryz.prog 42 #[.int .i64 mode, .slice on nn cn, .slice o n c] w fun e w' => (∃ v, e = .returned v ∧ ∃ us, OwnK BE w' w.heap.size v us (xs.map (keyed mode ns))) ∧ Below w.heap.size w w' := by
  obtain ⟨i0, hi, hz0, hz1, hz2⟩ := info_parts infoKey
  have HN := Lib.hid hn
  have HS := Lib.hid hS
  have HL := Lib.hid hl
  have HNN := Lib.hid hnn
  have HM := Lib.hid hmn
  have HSN := Lib.hid hN
  clear hn hS hl hnn hN hmn
  go_enter Tryz.func42, Tryz.ntmps42
  go_wp2
  go_loopw [7, 9, 12] (fun v7 v9 v12 wr => ∃ (k : Nat) (us : List (List Value)), v12 = .int .i64 k ∧ k ≤ n ∧ us.length = k ∧ OwnK BE wr w.heap.size v7 us ((xs.take k).map (keyed mode ns)) ∧ Hid (Below w.heap.size w wr)) (fun _ _ v12 _ => n - (Go.RowKit.intOf v12).toNat)
  case atStart => exact ⟨0, [], rfl, Nat.zero_le _, rfl, OwnG.nil _ _, Below.refl _ _⟩
  case round =>
    obtain ⟨k, us, rfl, hk, hus, hown, HB⟩ := hrel
    by_cases hkn : k < n
    · have j1 : (k : Int) < n := by omega
      obtain ⟨x, hx⟩ := get_ltG HN.out hkn
      obtain ⟨b, off, rfl, hR⟩ := (HS.out.below frow HB.out).at hx
      obtain ⟨oL, cL, c0, c1, hL, lL⟩ := row_at hR hx
      have hsm := HL.out x (List.mem_of_getElem? hx)
      obtain ⟨nL, hnL⟩ : ∃ nL, x.1.length = nL := ⟨_, rfl⟩
      obtain ⟨kl, hkl⟩ : ∃ kl, keyR mode ns x.1 = kl := ⟨_, rfl⟩
      obtain ⟨nK, hnK⟩ : ∃ nK, kl.length = nK := ⟨_, rfl⟩
      rw [hnL] at c0
      obtain ⟨W1, hW1⟩ : ∃ W1, wr.alloc (Obj.cells #[.slice oL nL cL, .int .i64 x.2] 53) = W1 := ⟨_, rfl⟩
      have HW1 := Lib.hid hW1
      have HBW := Lib.hid (show Below wr.heap.size wr W1 by rw [← hW1]; exact below_box (Below.refl _ _) _ _ _)
      have HB1 := Lib.hid (HB.out.trans (HBW.out.mono HB.out.size))
      have HBX := Lib.hid (show ∀ W, Below W1.heap.size W1 W → W.cell? ⟨wr.heap.size, 0, none⟩ = some (.slice oL nL cL) ∧ W.cell? ⟨wr.heap.size, 1, none⟩ = some (.int .i64 x.2) by rw [← hW1]; exact box2 wr _ _ _)
      have HLS := Lib.hid (hL.below HBW.out)
      have HC := Lib.hid (fun W (hb : Hid (Below W1.heap.size W1 W)) => (key_any mode on oL nn cn nL cL ns x.1 W HNN.out hnL hsm HM.out ((hL.sees.below HBW.out).below hb.out) (HSN.out.below (HB1.out.trans (hb.out.mono HB1.out.size)))).mono (fun e w' q => show ∃ oK cK, e = .returned (.slice oK nK cK) ∧ (w'.cell? ⟨wr.heap.size, 0, none⟩ = some (.slice oL nL cL) ∧ w'.cell? ⟨wr.heap.size, 1, none⟩ = some (.int .i64 x.2)) ∧ Hid (LabS w' 0 oK kl) ∧ Hid (Below W1.heap.size W1 w') from by
        obtain ⟨⟨v, rfl, ho⟩, h2⟩ := q
        rw [hkl] at ho
        obtain ⟨oK, cK, rfl, h3, _⟩ := labs_own (C := 0) ho
        have h4 := hb.out.trans (h2.mono hb.out.size)
        exact ⟨oK, cK, by rw [hnK], HBX.out _ h4, h3, h4⟩))
      have rb := Lib.hid (show Below W1.heap.size W1 W1.drew from (Below.refl _ _).drew)
      obtain ⟨r0, r1⟩ := HBX.out W1 (Below.refl _ _)
      have HO := Lib.hid (hown.below fkey (HBW.out))
      have HLT := Lib.hid (fun g hg => hown.own.lt g hg)
      have HLW := Lib.hid (show wr.heap.size < W1.heap.size by rw [← hW1]; simp)
      have HX := Lib.hid (show (xs.take (k + 1)).map (keyed mode ns) = (xs.take k).map (keyed mode ns) ++ [(x, kl)] by
        rw [take_atG hx, List.map_append, ← hkl]; rfl)
      have HnL := Lib.hid hnL
      have HnK := Lib.hid hnK
      have HlL := Lib.hid lL
      have HlK := Lib.hid (show kl.length ≤ maxLen by rw [← hkl]; exact Nat.le_trans (key_len _ _ _) lL)
      clear hR hx hL lL hsm hnL hkl hnK hown hW1
      go_wp2_with fail
      rw [HW1.out]
      go_region_held3 (fun w' => w'.cell? ⟨wr.heap.size, 0, none⟩ = some (.slice oL nL cL) ∧ w'.cell? ⟨wr.heap.size, 1, none⟩ = some (.int .i64 x.2)) (first | exact ⟨s0, s1⟩ | exact ⟨r0, r1⟩ | exact cB | exact cA) (first
        | (go_at_call 22; go_fit (HC.out _ rb); rintro e wq ⟨oK, cK, rfl, ⟨s0, s1⟩, sl, sb⟩; have cB := HBX.out (wq.alloc (Obj.cells #[.slice oL nL cL, .int .i64 x.2, .slice oK nK cK] 74)) (sb.out.trans ((Below.refl _ _).alloc sb.out.size _)))
        | (refine own_stepL rfl (.tmp 16) (.tmp 24) 71 rfl w.heap.size 74 i0 (.agg #[.slice none 0 0, .int .i64 0, .slice none 0 0]) 3 56 Tryz.underlying71 hi hz0 hz1 hz2 rfl (by decide) _ _ _ rfl ((HO.out.below fkey sb.out).own.alloc _) ⟨wq.heap.size, 0, none⟩ 1 1 [.slice oL nL cL, .int .i64 x.2, .slice oK nK cK] rfl rfl (cells_k _ _ _) (by intro v hv; simp at hv; rcases hv with rfl | rfl | rfl <;> rfl) (by unfold maxLen; omega) (by omega) (by have := HB1.out.size; have := sb.out.size; simp; omega) ?_
           intro vA wA hoA hgA
           have hp : wr.heap.size < wq.heap.size := Nat.lt_of_lt_of_le HLW.out sb.out.size
           have cA : wA.cell? ⟨wr.heap.size, 0, none⟩ = some (.slice oL nL cL) ∧ wA.cell? ⟨wr.heap.size, 1, none⟩ = some (.int .i64 x.2) := ⟨(kept_else hp (fun g hg => by have := (HLT.out g hg).2; omega) hgA 0).trans s0, (kept_else hp (fun g hg => by have := (HLT.out g hg).2; omega) hgA 1).trans s1⟩
           have hal : Below wq.heap.size wq (wq.alloc (Obj.cells #[.slice oL nL cL, .int .i64 x.2, .slice oK nK cK] 74)) := (Below.refl _ _).alloc (Nat.le_refl _) _
           have HA := Lib.hid (show OwnK BE wA w.heap.size vA (us ++ [[.slice oL nL cL, .int .i64 x.2, .slice oK nK cK]]) ((xs.take (k + 1)).map (keyed mode ns)) by
             rw [HX.out]
             exact ((HO.out.below fkey sb.out).below fkey hal).snoc fkey hBE ⟨oL, cL, oK, cK, by rw [HnL.out, HnK.out], (HLS.out.below sb.out).below hal, HlL.out, sl.out.below hal, HlK.out⟩ hoA hgA)
           have HBA := Lib.hid (Below.grown ((HB1.out.trans (sb.out.mono HB1.out.size)).trans (hal.mono (Nat.le_trans HB1.out.size sb.out.size))) hgA (by have := HB1.out.size; have := sb.out.size; simp; omega) (fun g hg => (HLT.out g hg).1))
           clear hoA hgA hal hp))
      all_goals
        go_wp2
        go_roundw
        case rel => exact ⟨k + 1, _, by go_num, by omega, by simp [hus], HA.out, HBA⟩
        case measure => simp [Go.RowKit.intOf]; omega
    · have HE := Lib.hid (show (xs.take k).map (keyed mode ns) = xs.map (keyed mode ns) by rw [List.take_of_length_le (by rw [HN.out]; omega)])
      have j1 : ¬ (k : Int) < n := by omega
      rw [HE.out] at hown
      have HO := Lib.hid hown
      clear hown
      go_wp2
      go_ret
      exact ⟨⟨_, rfl, us, HO.out⟩, HB.out⟩
end Go.Proofs.YtbdnonphkobkoaaGreat.Vec
end

section
/- Vectors: keys as texts, numbers by these. -/

namespace Go.Proofs.YtbdnonphkobkoaaGreat.Vec
open Go.RowKit Go.Maps Go.WideMaps

def kT (l : Labs) : ByteArray := ⟨(textT l).toArray⟩
theorem kT_list (l : Labs) : (kT l).data.toList = textT l := rfl
theorem tail_len : ∀ (xs : Labs), (∀ y ∈ xs, y.1.size ≤ 1000 ∧ y.2.size ≤ 1000) → (tailT xs).length ≤ 7000 * xs.length + 1
  | [], _ => by simp [tailT]
  | x :: xs, h => by
    have ih := tail_len xs fun y hy => h y (List.mem_cons_of_mem _ hy)
    have h1 := h x List.mem_cons_self
    have h2 := quoteL_len x.2.data.toList
    have e1 : x.1.data.toList.length = x.1.size := Array.length_toList
    have e2 : x.2.data.toList.length = x.2.size := Array.length_toList
    unfold tailT pairT
    simp only [List.length_cons, List.length_append]
    omega
theorem kT_size {l : Labs} (h : SmL l) : (kT l).size ≤ 7007010 := by
  have e : (kT l).size = (textT l).length := by unfold kT; simp [ByteArray.size]
  have hl := h.len
  rw [e]
  unfold textT
  match l, h, hl with
  | [], _, _ => simp [headT]
  | x :: xs, h, hl =>
    have h0 := tail_len xs fun y hy => h.sizes y (List.mem_cons_of_mem _ hy)
    have h1 := h.sizes x List.mem_cons_self
    have h2 := quoteL_len x.2.data.toList
    have e1 : x.1.data.toList.length = x.1.size := Array.length_toList
    have e2 : x.2.data.toList.length = x.2.size := Array.length_toList
    unfold headT pairT
    simp only [List.length_cons, List.length_append] at hl ⊢
    omega

set_option maxHeartbeats 2000000 in
set_option maxRecDepth 100000 in
theorem ktext_any (o1 o2 : Option Addr) (n1 c1 n2 c2 : Nat) (v : Int) (l : Labs) (w : World) (hn : l.length = n2) (hl : SmL l) (hS : Go.Proofs.YtbdnonphkobkoaaGreat.SeesO w o2 l) :
    Calls Tryz.prog 45 #[.agg #[.slice o1 n1 c1, .int .i64 v, .slice o2 n2 c2]] w fun e w' => e = .returned (.string (kT l)) ∧ Below w.heap.size w w' := by
  subst hn
  have HB := Lib.hid ((Below.refl w.heap.size w).alloc (Nat.le_refl _) (.cells #[.slice o1 n1 c1, .int .i64 v, .slice o2 l.length c2] 74))
  have HC := Lib.hid (text_any o2 c2 l _ (Nat.le_trans hl.len (by omega)) (hS.below HB.out) hl.sizes)
  change Hid (Calls _ _ _ _ fun e w' => e = .returned (.string (kT l)) ∧ _) at HC
  clear hS hl
  generalize kT l = t at *
  generalize l.length = n2 at *
  go_enter Tryz.func45, Tryz.ntmps45
  go_wp2_with fail
  refine HC.out.mono ?_
  rintro e w1 ⟨rfl, b1⟩
  have HB2 := Lib.hid (HB.out.trans (b1.mono HB.out.size))
  clear b1
  go_wp2
  go_ret
  exact ⟨rfl, HB2.out⟩

def findK (key : Labs) : List (Rw × Labs) → Option Int
  | [] => none
  | p :: r => if sameL p.2 key then some p.1.2 else findK key r
theorem findK_keyed (mode : Int) (ns : List ByteArray) (key : Labs) : ∀ b : List Rw, findK key (b.map (keyed mode ns)) = findV mode ns key b
  | [] => rfl
  | y :: r => by rw [List.map_cons, findK, findV, findK_keyed mode ns key r]; rfl
theorem findK_snoc (key : Labs) (p : Rw × Labs) : ∀ l : List (Rw × Labs), findK key (l ++ [p]) = (findK key l).or (if sameL p.2 key then some p.1.2 else none)
  | [] => by simp [findK]
  | q :: r => by
    rw [List.cons_append, findK, findK, findK_snoc key p r]
    split <;> simp
theorem findK_none {key : Labs} : ∀ {l : List (Rw × Labs)}, findK key l = none → key ∉ l.map (·.2)
  | [], _ => by simp
  | q :: r, h => by
    rw [findK] at h
    by_cases hs : sameL q.2 key = true
    · rw [if_pos hs] at h; cases h
    · rw [if_neg hs] at h
      rw [List.map_cons, List.mem_cons, not_or]
      exact ⟨fun e => hs ((sameL_iff _ _).2 e.symm), findK_none h⟩
theorem findK_some {key : Labs} {v : Int} : ∀ {l : List (Rw × Labs)}, findK key l = some v → key ∈ l.map (·.2)
  | [], h => by cases h
  | q :: r, h => by
    rw [findK] at h
    by_cases hs : sameL q.2 key = true
    · rw [List.map_cons, List.mem_cons]; exact .inl ((sameL_iff _ _).1 hs).symm
    · rw [if_neg hs] at h
      rw [List.map_cons, List.mem_cons]; exact .inr (findK_some h)
/-- A map from the texts of keys to numbers. -/
structure NumsOf (D : DataW Unit) (l : List (Rw × Labs)) : Prop where
  isMap : IsMap D
  has : ∀ key, rightB key = true → Maps.has D (.string (kT key).data.toList) = (findK key l).isSome
  at0 : ∀ key v, rightB key = true → findK key l = some v → ∀ z, D.atKey (.string (kT key).data.toList) z = .lit (.int .i64 v)
theorem NumsOf.nil : NumsOf (.map []) [] := ⟨isMap_empty, fun _ _ => rfl, fun _ _ _ h => by cases h⟩
theorem NumsOf.put {D : DataW Unit} {l : List (Rw × Labs)} {p : Rw × Labs} (h : NumsOf D l) (hp : rightB p.2 = true) (hf : findK p.2 l = none) : NumsOf (D.put (.string (kT p.2).data.toList) (.lit (.int .i64 p.1.2))) (l ++ [p]) := by
  have hne : ∀ key, rightB key = true → key ≠ p.2 → (Lit.string (kT key).data.toList) ≠ .string (kT p.2).data.toList := fun key hk hne e => by
    rw [kT_list, kT_list] at e
    exact hne (text_inj key p.2 (right_names hk) (right_names hp) (Lit.string.inj e))
  refine ⟨h.isMap.put _ _, fun key hk => ?_, fun key v hk hv z => ?_⟩
  · rw [findK_snoc]
    by_cases e : key = p.2
    · subst e
      rw [has_put_same h.isMap (by simp [WideAt.IsKeyLit]), hf, if_pos ((sameL_iff _ _).2 rfl)]; rfl
    · rw [has_put_other (hne key hk e), h.has key hk, if_neg (fun hs => e ((sameL_iff _ _).1 hs).symm), Option.or_none]
  · rw [findK_snoc] at hv
    by_cases e : key = p.2
    · subst e
      rw [hf, if_pos ((sameL_iff _ _).2 rfl)] at hv
      rw [atKey_put_same h.isMap (by simp [WideAt.IsKeyLit])]
      cases hv; rfl
    · rw [if_neg (fun hs => e ((sameL_iff _ _).1 hs).symm), Option.or_none] at hv
      rw [atKey_put_other (hne key hk e)]
      exact h.at0 key v hk hv z
theorem grown_none {w w' : World} (h : Below w.heap.size w w') : w.grownBy w' none := ⟨h.os, h.tape, h.output, h.size, fun i hi _ => h.block i hi⟩
theorem run_makeHint (n : Int) (W : World) : (Instr.makeMap 78 (some (.int .i64 n))).run Tryz.prog W = .ok (.map (some W.heap.size)) (W.alloc (.map #[] 0)) := by
  simp [Instr.makeMap, underlying, Tryz.underlying78, Result.andThen, asInt]
  rfl
abbrev numsMap (w : World) (b n : Nat) (D : DataW Unit) : Prop := w.ownsMap Tryz.prog 9 (plainElem (H := Unit) Tryz.prog 3) b n D
/-- Numbers by the texts of keys; none, if two are alike. -/
def NumIs (B : Nat) (xs : List (Rw × Labs)) (e : Ending) (w' : World) : Prop :=
  (onceB (xs.map (·.2)) = true ∧ e = .returned (.tuple #[.map (some B), .bool true]) ∧ ∃ D, numsMap w' B xs.length D ∧ NumsOf D xs) ∨ (onceB (xs.map (·.2)) = false ∧ e = .returned (.tuple #[.map none, .bool false]))
end Go.Proofs.YtbdnonphkobkoaaGreat.Vec
end

section
/- Vectors: numbers by the texts of keys: the walk. -/

namespace Go.Proofs.YtbdnonphkobkoaaGreat.Vec
open Go.RowKit Go.Maps Go.WideMaps

theorem once_snoc (l : List Labs) (x : Labs) : onceB (l ++ [x]) = true ↔ onceB l = true ∧ x ∉ l := by
  rw [once_iff, once_iff, List.nodup_append]
  constructor
  · rintro ⟨h1, _, h3⟩
    exact ⟨h1, fun hm => h3 x hm x (by simp) rfl⟩
  · rintro ⟨h1, h2⟩
    exact ⟨h1, by simp, fun a ha b hb e => by simp at hb; subst hb; subst e; exact h2 ha⟩
theorem once_take {xs : List (Rw × Labs)} {k : Nat} (h : onceB ((xs.take k).map (·.2)) = false) : onceB (xs.map (·.2)) = false := by
  cases ho : onceB (xs.map (·.2)) with
  | false => rfl
  | true =>
    rw [once_iff] at ho
    have : ((xs.take k).map (·.2)).Nodup := by
      rw [List.map_take]; exact ho.sublist (List.take_sublist _ _)
    rw [(once_iff _).2 this] at h; cases h

set_option maxHeartbeats 4000000 in
set_option maxRecDepth 100000 in
theorem byText_any (o : Option Addr) (n c : Nat) (xs : List (Rw × Labs)) (w : World) (B : Nat) (hn : xs.length = n) (hm : n ≤ 2000) (hr : ∀ x ∈ xs, rightB x.2 = true ∧ SmL x.2 ∧ Fix.rgt x.1.2) (hS : SeeG (EKey B) 3 w o xs) :
    Calls Tryz.prog 44 #[.slice o n c] w fun e w' => NumIs w.heap.size xs e w' ∧ Below w.heap.size w w' := by
  have hmk := fun (n : Int) W => run_makeHint n W
  have HN := Lib.hid hn
  have HS := Lib.hid hS
  have HR := Lib.hid hr
  clear hn hS hr
  go_enter Tryz.func44, Tryz.ntmps44
  go_wp2
  go_loopw [6, 7, 8, 9, 15] (fun v6 v7 v8 v9 v15 wr => ∃ k : Nat, v15 = .int .i64 k ∧ k ≤ n ∧ Hid (∃ D, numsMap wr w.heap.size k D ∧ NumsOf D (xs.take k)) ∧ Hid (onceB ((xs.take k).map (·.2)) = true) ∧ Hid (Below w.heap.size w wr)) (fun _ _ _ _ v15 _ => n - (Go.RowKit.intOf v15).toNat)
  case atStart => exact ⟨0, rfl, Nat.zero_le _, Lib.hid ⟨_, World.ownsMap_made _ _ _ _, NumsOf.nil⟩, Lib.hid rfl, Lib.hid ((Below.refl _ _).alloc (Nat.le_refl _) _)⟩
  case round =>
    obtain ⟨k, rfl, hk, HMAP, HO, HB⟩ := hrel
    by_cases hkn : k < n
    · have j1 : (k : Int) < n := by omega
      obtain ⟨x, hx⟩ := get_ltG HN.out hkn
      obtain ⟨b, off, rfl, hR⟩ := (HS.out.below fkey HB.out).at hx
      obtain ⟨oL, cL, oK, cK, c0, c1, c2, hL, lL, hK, lK⟩ := key_at hR hx
      obtain ⟨hrk, hsk, hgk⟩ := HR.out x (List.mem_of_getElem? hx)
      obtain ⟨nL, hnL⟩ : ∃ nL, x.1.1.length = nL := ⟨_, rfl⟩
      obtain ⟨nK, hnK⟩ : ∃ nK, x.2.length = nK := ⟨_, rfl⟩
      rw [hnL] at c0
      rw [hnK] at c2
      obtain ⟨W1, hW1⟩ : ∃ W1, wr.alloc (Obj.cells #[.slice oL nL cL, .int .i64 x.1.2, .slice oK nK cK] 74) = W1 := ⟨_, rfl⟩
      have HW1 := Lib.hid hW1
      have hbw : Below wr.heap.size wr W1 := by rw [← hW1]; exact (Below.refl _ _).alloc (Nat.le_refl _) _
      have HB1 := Lib.hid (HB.out.trans (hbw.mono HB.out.size))
      have HT := Lib.hid (ktext_any oL oK nL cL nK cK x.1.2 x.2 W1 hnK hsk (hK.sees.below hbw))
      have HBX := Lib.hid (show ∀ W, Below W1.heap.size W1 W → W.cell? ⟨wr.heap.size, 1, none⟩ = some (.int .i64 x.1.2) by
        intro W h; rw [← hW1] at h; exact boxk wr _ _ W h 1 _ rfl)
      obtain ⟨D, hD, hN⟩ := HMAP.out
      have HD := Lib.hid (hD.kept (grown_none hbw) (by simp))
      have hD0 := hN.has x.2 hrk
      have HP := Lib.hid (fun hf => hN.put hrk hf)
      have hz : (kT x.2).size ≤ maxLen := Nat.le_trans (kT_size hsk) (by unfold maxLen; omega)
      have HKey := Lib.hid (keyOf_string_mk (P := Tryz.prog) Tryz.underlying9 (s := kT x.2) hz)
      have HTK := Lib.hid (take_atG hx)
      have HOS := Lib.hid (show onceB ((xs.take (k + 1)).map (·.2)) = (findK x.2 (xs.take k)).isNone by
        rw [Bool.eq_iff_iff, take_atG hx, List.map_append, List.map_singleton, once_snoc]
        cases hf : findK x.2 (xs.take k) with
        | none => exact ⟨fun _ => rfl, fun _ => ⟨HO.out, findK_none hf⟩⟩
        | some v => exact ⟨fun h => absurd (findK_some hf) h.2, fun h => by cases h⟩)
      obtain ⟨s, hs⟩ : ∃ s, kT x.2 = s := ⟨_, rfl⟩
      rw [hs] at HT HP HKey hD0
      obtain ⟨x1, x2⟩ := x
      obtain ⟨z1, z2⟩ := x1
      obtain ⟨f, hf⟩ : ∃ f, findK x2 (xs.take k) = f := ⟨_, rfl⟩
      simp only at hf hD0 HP HOS HBX HT c1 hgk
      unfold Fix.rgt at hgk
      rw [hf] at hD0 HOS HP
      clear hR hx hL lL hK lK hrk hsk hnL hnK hbw hD hN hs hz hW1 hf
      cases f with
      | some v =>
        have HH := Lib.hid (show Maps.has D (.string s.data.toList) = true from hD0)
        have HOF := Lib.hid (once_take HOS.out)
        clear hD0 HP
        go_wp2_with fail
        rw [HW1.out]
        refine HT.out.mono ?_
        rintro e w2 ⟨rfl, b2⟩
        have hm2 := HD.out.kept (grown_none b2) (by simp)
        have HB2 := Lib.hid (HB1.out.trans (b2.mono HB1.out.size))
        clear b2
        go_wp2_with (at_lookup; refine wpList_lookup_own_ok_int _ rfl _ _ 78 rfl 9 3 .i64 (Maps.string_keyed Tryz.underlying9) Tryz.underlying78 Tryz.underlying3 (Tryz.zeroValue3 _) w.heap.size k D rfl hm2 _ _ rfl HKey.out ?_; intro cc hat hwc; rw [HH.out]; clear hat hwc hm2)
        go_ret2
        exact ⟨.inr ⟨HOF.out, rfl⟩, HB2.out⟩
      | none =>
        have HH := Lib.hid (show Maps.has D (.string s.data.toList) = false from hD0)
        have HP2 := Lib.hid (HP.out rfl)
        have HOT := Lib.hid (show onceB ((xs.take (k + 1)).map (·.2)) = true from HOS.out)
        clear hD0 HP
        go_wp2_with fail
        rw [HW1.out]
        refine HT.out.mono ?_
        rintro e w2 ⟨rfl, b2⟩
        have hm2 := HD.out.kept (grown_none b2) (by simp)
        have t1 := HBX.out _ b2
        have HB2 := Lib.hid (HB1.out.trans (b2.mono HB1.out.size))
        clear b2
        go_wp2_with (first
          | (at_lookup; refine wpList_lookup_own_ok_int _ rfl _ _ 78 rfl 9 3 .i64 (Maps.string_keyed Tryz.underlying9) Tryz.underlying78 Tryz.underlying3 (Tryz.zeroValue3 _) w.heap.size k D rfl hm2 _ _ rfl HKey.out ?_; intro cc hat hwc; rw [HH.out]; clear hat hwc)
          | (at_mapUpdate; refine wpList_mapUpdate_own _ rfl _ _ _ 78 rfl 9 3 (Maps.string_keyed Tryz.underlying9) Tryz.underlying78 _ w.heap.size k _ rfl hm2 (by unfold maxLen; omega) _ _ _ rfl rfl HKey.out _ [] (plainElem_int Tryz.underlying3 (WalkArith.wf_i64 (by omega))) ?_; intro w5 hm5 hg5))
        have HM5 := Lib.hid (show ∃ D, numsMap w5 w.heap.size (k + 1) D ∧ NumsOf D (xs.take (k + 1)) from ⟨_, hm5, by rw [HTK.out]; exact HP2.out⟩)
        have HB5 := Lib.hid (Below.grown HB2.out hg5 HB2.out.size (fun j hj => by have := Option.some.inj hj; omega))
        clear hm5 hg5 hm2
        go_roundw
        case rel => exact ⟨k + 1, by go_num, by omega, HM5, HOT, HB5⟩
        case measure => simp [Go.RowKit.intOf]; omega
    · have HE := Lib.hid (show xs.take k = xs from List.take_of_length_le (by rw [HN.out]; omega))
      have j1 : ¬ (k : Int) < n := by omega
      have hkn2 : k = xs.length := by rw [HN.out]; omega
      have HM := Lib.hid (show ∃ D, numsMap wr w.heap.size xs.length D ∧ NumsOf D xs by
        obtain ⟨D, h1, h2⟩ := HMAP.out
        rw [HE.out] at h2
        exact ⟨D, hkn2 ▸ h1, h2⟩)
      have HO2 := Lib.hid (show onceB (xs.map (·.2)) = true by rw [← HO.out, HE.out])
      clear hkn2
      go_wp2
      go_ret2
      exact ⟨.inl ⟨HO2.out, rfl, HM.out⟩, HB.out⟩
end Go.Proofs.YtbdnonphkobkoaaGreat.Vec
end

section
/- Rows of the call's own, brought into order by the library's sort. -/



namespace Go.Proofs.YtbdnonphkobkoaaGreat.Vec
open Go.RowKit Go.Lib Go.Sort

/-- A row, where it lies in a world. -/
structure At (w : World) where
  o : Option Addr
  c : Nat
  x : Rw
  ok : LabS w 0 o x.1 ∧ x.1.length ≤ maxLen
instance (w : World) : Inhabited (At w) := ⟨⟨none, 0, ([], 0), ⟨.inl rfl, fun h => absurd rfl h⟩, Nat.zero_le _⟩⟩
def encA {w : World} (r : At w) : List Value := [.slice r.o r.x.1.length r.c, .int .i64 r.x.2]
theorem encA_len {w : World} (r : At w) : (encA r).length = 2 := rfl
def cmpA {w : World} (r s : At w) : Int := cmpL r.x.1 s.x.1
theorem ats {w : World} : ∀ (us : List (List Value)) (xs : List Rw), us.length = xs.length → (∀ (j : Nat) (x : Rw), xs[j]? = some x → ∃ u, us[j]? = some u ∧ ERow 0 w u x) → ∃ d : List (At w), us = d.map encA ∧ xs = d.map At.x
  | [], [], _, _ => ⟨[], rfl, rfl⟩
  | [], _ :: _, h, _ => by simp at h
  | _ :: _, [], h, _ => by simp at h
  | u :: us, x :: xs, h, hx => by
    obtain ⟨d, rfl, rfl⟩ := ats us xs (by simpa using h) fun j y hy => hx (j + 1) y (by simpa using hy)
    obtain ⟨u2, h1, o, c, rfl, h2⟩ := hx 0 x rfl
    simp at h1
    exact ⟨⟨o, c, x, h2⟩ :: d, by rw [List.map_cons, h1]; rfl, rfl⟩
theorem flat_encA {w : World} (d : List (At w)) : (flatK encA 2 d.toArray).toList = (d.map encA).flatten := by
  have hw : ∀ u ∈ d.map (encA (w := w)), u.length = 2 := fun u hu => by
    obtain ⟨r, _, rfl⟩ := List.mem_map.1 hu
    rfl
  have hlen : (d.map (encA (w := w))).flatten.length = d.length * 2 := by
    clear hw
    induction d with
    | nil => rfl
    | cons r d ih => rw [List.map_cons, List.flatten_cons, List.length_append, ih, encA_len, List.length_cons]; omega
  apply List.ext_getElem?
  intro t
  by_cases ht : t < d.length * 2
  · have hj : t / 2 < d.length := by omega
    have hi : t % 2 < 2 := Nat.mod_lt _ (by omega)
    have hget : d.toArray[t / 2]! = d[t / 2] := by
      rw [getElem!_pos _ _ (by simpa using hj)]; simp
    have hl : (flatK encA 2 d.toArray)[t]? = some (encA d[t / 2])[t % 2]! := by
      have h1 := get_flatK encA 2 d.toArray t (by simpa using ht)
      rw [hget] at h1
      rw [← h1, Array.getElem?_eq_getElem (by simpa using ht), getElem!_pos _ _ (by simpa using ht)]
    have hf := flat_at (k := 2) (d.map encA) hw (t / 2) (t % 2) (encA d[t / 2]) ((encA d[t / 2])[t % 2]'(by rw [encA_len]; exact hi)) (by rw [List.getElem?_map, List.getElem?_eq_getElem hj]; rfl) (List.getElem?_eq_getElem _)
    rw [Array.getElem?_toList, hl, show (d.map encA).flatten[t]? = (d.map encA).flatten[t / 2 * 2 + t % 2]? by congr 1; omega, hf, getElem!_pos _ _ (by rw [encA_len]; exact hi)]
  · rw [List.getElem?_eq_none (by simp; omega), List.getElem?_eq_none (by rw [hlen]; omega)]
variable {t : TypeId}
theorem holdsK_ownA {w : World} {B g cap : Nat} {d : List (At w)} (h : w.ownsRow B t 2 (.slice (some ⟨g, 0, none⟩) d.length cap) d.length (d.map encA).flatten) : HoldsK encA 2 w g 0 d.toArray ∧ g < w.heap.size := by
  rcases h.2 with ⟨e, _⟩ | ⟨g', cap', cur, e, hbg, hb, h1, h2, h3, h4⟩
  · cases e
  · cases e
    refine ⟨fun j hj => ⟨?_, by simp [World.frozen?, hb]⟩, (Array.getElem?_eq_some_iff.1 hb).1⟩
    have hf := flat_encA d
    have hj' : j < (d.map (encA (w := w))).flatten.length := by rw [← hf]; simpa using hj
    have h5 := h.cells (g := g) rfl j _ (List.getElem?_eq_getElem hj')
    have e1 : (⟨g, 0, none⟩ : Addr).add j = ⟨g, 0 + j, none⟩ := by
      unfold Addr.add; split
      · next h => subst h; rfl
      · simp
    rw [e1] at h5
    rw [h5, getElem!_pos (flatK encA 2 d.toArray) j hj]
    congr 1
    simp only [id]
    have h6 : (flatK encA 2 d.toArray).toList[j]? = (d.map (encA (w := w))).flatten[j]? := by rw [hf]
    rw [Array.getElem?_toList, Array.getElem?_eq_getElem hj, List.getElem?_eq_getElem hj'] at h6
    exact (Option.some.inj h6).symm
theorem grownBy_sortA {w0 w : World} {g n : Nat} {os : Array Obj} (d : Array (At w0)) : w.grownBy (sortWorldK encA 2 w g 0 n d os) (some g) := by
  refine ⟨rfl, rfl, rfl, by simp [sortWorldK, putRowK], fun k hk hne => ?_⟩
  unfold sortWorldK putRowK
  rw [heap_grow_old _ _ (by simpa using hk)]
  have : g ≠ k := fun e => hne (by rw [e])
  simp [putRow, mapBlock, Sort.ahead, Array.getElem?_modify, this]
theorem own_sortA {w : World} {B g cap n : Nat} {os : Array Obj} {d e : List (At w)} (hl : e.length = d.length) (h : w.ownsRow B t 2 (.slice (some ⟨g, 0, none⟩) d.length cap) d.length (d.map encA).flatten) :
    (sortWorldK encA 2 w g 0 n e.toArray os).ownsRow B t 2 (.slice (some ⟨g, 0, none⟩) d.length cap) d.length (e.map encA).flatten := by
  have hlen : ∀ f : List (At w), (f.map encA).flatten.length = f.length * 2 := by
    intro f
    induction f with
    | nil => rfl
    | cons r f ih => rw [List.map_cons, List.flatten_cons, List.length_append, ih, encA_len, List.length_cons]; omega
  rcases h.2 with ⟨e1, _⟩ | ⟨g', cap', cur, e1, hbg, hb, h1, h2, h3, h4⟩
  · cases e1
  · cases e1
    have hg : g < w.heap.size := (Array.getElem?_eq_some_iff.1 hb).1
    have hheap : (sortWorldK encA 2 w g 0 n e.toArray os).heap[g]? = some (.cells (putCells id 0 (flatK encA 2 e.toArray) cur) t (0, 0)) := by
      unfold sortWorldK putRowK
      rw [heap_grow_old _ _ (by simpa using hg)]
      simp [putRow, mapBlock, Sort.ahead, Array.getElem?_modify, hb, onCells]
    refine ⟨by rw [hlen, hl], .inr ⟨g, cap, _, rfl, hbg, hheap, h1, h2, by simp [putCells, h3], ?_⟩⟩
    apply List.ext_getElem?
    intro j
    have hsz : d.length * 2 ≤ cur.size := by rw [h3]; exact Nat.mul_le_mul_right _ h1
    by_cases hj : j < d.length * 2
    · rw [List.getElem?_take_of_lt hj, Array.getElem?_toList]
      have hj2 : j < e.length * 2 := by omega
      have h6 : (flatK encA 2 e.toArray).toList[j]? = (e.map (encA (w := w))).flatten[j]? := by rw [flat_encA]
      rw [Array.getElem?_toList] at h6
      rw [← h6]
      simp [putCells, hj2, show j < cur.size by omega]
    · rw [List.getElem?_take_eq_none (by omega), List.getElem?_eq_none (by rw [hlen]; omega)]
theorem swoA {w : World} : SWO (ltOf (cmpA (w := w))) where
  irrefl x := by
    unfold ltOf cmpA
    rw [cmpL_self]; rfl
  trans x y z h1 h2 := by
    unfold ltOf cmpA at *
    rw [decide_eq_true_eq] at *
    exact cmpL_lt_trans h1 h2
  ntrans x y z h1 h2 := by
    unfold ltOf cmpA at *
    rw [decide_eq_false_iff_not] at *
    have s1 := cmpL_swap x.x.1 y.x.1
    have s2 := cmpL_swap y.x.1 z.x.1
    have s3 := cmpL_swap x.x.1 z.x.1
    have := cmpL_trans z.x.1 y.x.1 x.x.1 (by omega) (by omega)
    omega
theorem sorted_atA {w : World} {s : List (At w)} (h : SortedIn (ltOf cmpA) 0 s.length s.toArray) : (s.map At.x).Pairwise (fun x y => leR x y = true) := by
  rw [List.pairwise_map, List.pairwise_iff_getElem]
  intro i j hi hj hij
  have := h i j (Nat.zero_le _) hij hj
  rw [getElem!_pos s.toArray i (by simpa using hi), getElem!_pos s.toArray j (by simpa using hj)] at this
  simp only [List.getElem_toArray] at this
  have h3 : ¬ cmpL s[j].x.1 s[i].x.1 < 0 := of_decide_eq_false this
  rw [leR_iff]
  have := cmpL_swap s[i].x.1 s[j].x.1
  omega

theorem cmpLaysA {w : World} {B g : Nat} (size : Nat) (hg : B ≤ g ∧ ∃ cs m, w.heap[g]? = some (.cells cs 53 m)) : CmpLays Tryz.prog 55 #[] (encA (w := w)) 2 cmpA g 0 size w := by
  intro m os dk _ x y
  have hr : ∀ k, some g = some k → B ≤ k ∧ ∃ cs m, w.heap[k]? = some (.cells cs 53 m) := fun k hk => by cases hk; exact hg
  have hr0 : ∀ k, some g = some k → 0 ≤ k ∧ ∃ cs m, w.heap[k]? = some (.cells cs 53 m) := fun k hk => ⟨Nat.zero_le _, (hr k hk).2⟩
  have hx := x.ok.1.grown neRow hr0 (grownBy_sortA (w := w) (n := m) (os := os) dk)
  have hy := y.ok.1.grown neRow hr0 (grownBy_sortA (w := w) (n := m) (os := os) dk)
  exact cmpRow_gr x.o y.o _ x.c _ y.c x.x.2 y.x.2 x.x.1 y.x.1 _ rfl rfl x.ok.2 y.ok.2 hx.sees hy.sees
theorem sortRow_any {B : Nat} {v : Value} {us : List (List Value)} {xs : List Rw} {w : World} (hm : xs.length ≤ 1000000) (h : OwnR w B v us xs) :
    Calls Tryz.prog 99 #[v, .func (.func 55) #[] #[]] w fun e w' => e = .returned (.tuple #[]) ∧ ∃ (us2 : List (List Value)) (s : List Rw), s.Perm xs ∧ (s.Pairwise fun x y => leR x y = true) ∧ OwnR w' B v us2 s ∧ w.grownBy w' v.ownBlock := by
  obtain ⟨d, rfl, rfl⟩ := ats us xs h.len h.one
  have hown := h.own
  have hrow := own_row h.own
  rw [List.length_map] at hown hm
  have h9 := hown
  rcases h9.2 with ⟨rfl, h0⟩ | ⟨g, cap, cur, rfl, hbg, hb, h1, h2, h3, h4⟩
  · have h0' : d = [] := List.eq_nil_of_length_eq_zero h0
    subst h0'
    refine (AnyF.slices_SortFunc_none Tryz.sortRow none 0 _ w).mono ?_
    rintro e w' ⟨rfl, rfl⟩
    exact ⟨rfl, [], [], List.Perm.refl _, List.Pairwise.nil, OwnG.nil _ _, ⟨rfl, rfl, rfl, Nat.le_refl _, fun _ _ _ => rfl⟩⟩
  · obtain ⟨hH, hg⟩ := holdsK_ownA hown
    have hgr := hrow g rfl
    have eg : ∀ args w, (callFunc 55 args).run Tryz.prog w = .ok (.enter 55 args) w := enters_of Tryz.func55 (by kernel_rfl) rfl
    have hcon := AnyQ.slices_SortFunc Tryz.sortRow 2 Tryz.isAgg53 Tryz.sizeOf53 encA encA_len (fun x v hv => by simp [encA] at hv; rcases hv with rfl | rfl <;> rfl) cmpA swoA 55 #[] g 0 cap d.toArray w eg (cmpLaysA d.toArray.size hgr) hH hg (by simp; omega)
    change Calls Tryz.prog 99 #[.slice (some ⟨g, 0, none⟩) d.length cap, .func (.func 55) #[] #[]] w _ at hcon
    refine hcon.mono ?_
    rintro e w' ⟨rfl, d', n, os, hp, hs, rfl⟩
    obtain ⟨s, rfl⟩ : ∃ s : List (At w), d' = s.toArray := ⟨d'.toList, by simp⟩
    have hl : s.length = d.length := by simpa using hp.1
    have hperm : s.Perm d := by
      have := hp.2.2
      have e1 : s.toArray.extract 0 d.toArray.size = s.toArray := by simp [← hl]
      have e2 : d.toArray.extract 0 d.toArray.size = d.toArray := by simp
      rw [e1, e2] at this
      simpa using this
    have hgrow : w.grownBy (sortWorldK encA 2 w g 0 n s.toArray os) (some g) := grownBy_sortA _
    refine ⟨rfl, s.map encA, s.map At.x, hperm.map _, sorted_atA ?_, ⟨by simp, ?_, ?_⟩, hgrow⟩
    · have e1 : d.toArray.size = s.length := by simp [hl]
      rw [e1] at hs
      exact hs
    · rw [List.length_map, hl]
      exact own_sortA hl hown
    · intro j x hx
      rw [List.getElem?_map, Option.map_eq_some_iff] at hx
      obtain ⟨r, hr, rfl⟩ := hx
      refine ⟨encA r, by rw [List.getElem?_map, hr]; rfl, r.o, r.c, rfl, r.ok.1.grown neRow (fun k hk => by cases hk; exact ⟨Nat.zero_le _, hgr.2⟩) hgrow, r.ok.2⟩
end Go.Proofs.YtbdnonphkobkoaaGreat.Vec
end

section
/- Vectors: new rows brought into order: the walk. -/


namespace Go.Proofs.YtbdnonphkobkoaaGreat.Vec
open Go.RowKit

/-- Rows of the call's own, and an error. -/
def OutR (B : Nat) (r : List Rw × Int) (e : Ending) (w' : World) : Prop := ∃ v, e = .returned (.tuple #[v, .int .i64 r.2]) ∧ ∃ us, OwnR w' B v us r.1
def AnsR (w : World) (r : List Rw × Int) (e : Ending) (w' : World) : Prop := OutR w.heap.size r e w' ∧ Below w.heap.size w w'
theorem below_grown {B : Nat} {w0 w w' : World} {r : Option Nat} (h0 : B ≤ w.heap.size) (hg : w.grownBy w' r) (hr : ∀ k, r = some k → B ≤ k) (h : Below B w0 w) : Below B w0 w' := h.grown hg h0 hr

set_option maxHeartbeats 4000000 in
set_option maxRecDepth 100000 in
theorem inOrder_any {B : Nat} {v : Value} {us : List (List Value)} {xs : List Rw} {w : World} (hB : B ≤ w.heap.size) (hm : xs.length ≤ 2000) (h : OwnR w B v us xs) :
    Calls Tryz.prog 39 #[v] w fun e w' => OutR B (orderR xs) e w' ∧ Below B w w' := by
  obtain ⟨o, c, rfl, _, _⟩ := h.sees frow
  have HS := Lib.hid (sortRow_any (by omega) h)
  have HLT := Lib.hid (fun g hg => (h.own.lt g hg).1)
  obtain ⟨n, hn⟩ : ∃ n, xs.length = n := ⟨_, rfl⟩
  rw [hn] at HS HLT hm ⊢
  clear h hn
  go_enter Tryz.func39, Tryz.ntmps39
  go_wp2_with fail
  refine HS.out.mono ?_
  rintro e w2 ⟨rfl, us2, s, hp, hso, ho, hg⟩
  have HE := Lib.hid (order_any hp hso)
  have HSo := Lib.hid hso
  have HO := Lib.hid ho
  have HB2 := Lib.hid (show Below B w w2 from (Below.refl _ _).grown hg hB (HLT.out))
  obtain ⟨o2, c2, e2, hs2, hm2⟩ := ho.sees frow
  obtain ⟨rfl, hl, rfl⟩ := Value.slice.inj e2
  have HSe := Lib.hid hs2
  have HN := Lib.hid hl.symm
  have hBs := HB2.out.size
  clear hp hso ho hg e2 hs2 hm2 HS HLT hl
  go_wp2
  go_loopw [4] (fun v4 wr => ∃ k : Nat, v4 = .int .i64 ((k : Int) + 1) ∧ (k = 0 ∨ k + 1 ≤ n) ∧ Hid (Below w2.heap.size w2 wr) ∧ Hid (risesR (s.drop k) = risesR s)) (fun v4 _ => n + 1 - (Go.RowKit.intOf v4).toNat)
  case atStart => exact ⟨0, rfl, .inl rfl, Below.refl _ _, rfl⟩
  case round =>
    obtain ⟨k, rfl, hk, HB, H⟩ := hrel
    by_cases hkn : k + 1 < n
    · have j1 : (k : Int) + 1 < n := by omega
      have j2 : (k : Int) < n := by omega
      have j5 : (0 : Int) ≤ (k : Int) := by omega
      have j6 : (0 : Int) ≤ (k : Int) + 1 := by omega
      have j7 : ((k : Int) + 1).toNat = k + 1 := by omega
      obtain ⟨x, hx⟩ := get_ltG HN.out (show k < n by omega)
      obtain ⟨y, hy⟩ := get_ltG HN.out hkn
      obtain ⟨b, off, rfl, hR⟩ := (HSe.out.below frow HB.out).at hx
      obtain ⟨oL, cL, r1, r2, hL, lL⟩ := row_at hR hx
      obtain ⟨oM, cM, r3, r4, hM, lM⟩ := row_at hR hy
      have hlow := hR.low
      have HX := Lib.hid (show s.drop k = x :: y :: s.drop (k + 2) by rw [drop_atG hx, drop_atG hy])
      have HY := Lib.hid (drop_atG hy)
      obtain ⟨nL, hnL⟩ : ∃ nL, x.1.length = nL := ⟨_, rfl⟩
      obtain ⟨nM, hnM⟩ : ∃ nM, y.1.length = nM := ⟨_, rfl⟩
      rw [hnL] at r1
      rw [hnM] at r3
      obtain ⟨cc, hcc⟩ : ∃ cc, cmpL x.1 y.1 = cc := ⟨_, rfl⟩
      have HC := Lib.hid (fun W (hb : Hid (Below wr.heap.size wr W)) => (cmpRow_any oL oM nL cL nM cM x.2 y.2 x.1 y.1 W hnL hnM lL lM (hL.sees.below hb.out) (hM.sees.below hb.out)).mono (fun e w' q => show e = .returned (.int .i64 cc) ∧ (w'.cell? ⟨b, off + k * 2, none⟩ = some (.slice oL nL cL) ∧ w'.cell? ⟨b, off + k * 2 + 1, none⟩ = some (.int .i64 x.2) ∧ w'.cell? ⟨b, off + (k + 1) * 2, none⟩ = some (.slice oM nM cM) ∧ w'.cell? ⟨b, off + (k + 1) * 2 + 1, none⟩ = some (.int .i64 y.2)) ∧ Hid (Below wr.heap.size wr w') from
        have h2 := hb.out.trans (q.2.mono hb.out.size)
        ⟨by rw [q.1, hcc], ⟨(h2.cell (p := ⟨b, _, none⟩) hlow).trans r1, (h2.cell (p := ⟨b, _, none⟩) hlow).trans r2, (h2.cell (p := ⟨b, _, none⟩) hlow).trans r3, (h2.cell (p := ⟨b, _, none⟩) hlow).trans r4⟩, h2⟩))
      have HCC := Lib.hid (show cc ≤ 0 by
        have hp := HSo.out
        have hd := hp.drop (i := k)
        rw [HX.out] at hd
        have := (List.pairwise_cons.1 hd).1 y List.mem_cons_self
        rw [leR_iff] at this
        rw [← hcc]; exact this)
      have HST := Lib.hid (show risesR s = (decide (cc < 0) && risesR (s.drop (k + 1))) by
        rw [← H.out, HX.out, risesR, hcc, HY.out])
      have rb := Lib.hid (Below.refl wr.heap.size wr).drew
      have wk : IntKind.i64.wrap (k : Int) = k := by rw [IntKind.wrap_i64]; omega
      clear hR hx hy hL lL hM lM hnL hnM hcc hlow
      go_wp2_with fail
      go_region_held3 (fun w' => w'.cell? ⟨b, off + k * 2, none⟩ = some (.slice oL nL cL) ∧ w'.cell? ⟨b, off + k * 2 + 1, none⟩ = some (.int .i64 x.2) ∧ w'.cell? ⟨b, off + (k + 1) * 2, none⟩ = some (.slice oM nM cM) ∧ w'.cell? ⟨b, off + (k + 1) * 2 + 1, none⟩ = some (.int .i64 y.2)) (first | exact ⟨s1, s2, s3, s4⟩ | exact ⟨r1, r2, r3, r4⟩) (first
        | (go_at_call 55; go_fit (HC.out _ rb); rintro e wq ⟨rfl, ⟨s1, s2, s3, s4⟩, sb⟩))
      have HBq := Lib.hid (HB.out.trans (sb.out.mono HB.out.size))
      clear HC r1 r2 r3 r4 s1 s2 s3 s4 rb sb
      by_cases hc0 : cc = 0
      · subst hc0
        have H2 := Lib.hid (show orderR xs = ([], 6) by
          rw [HE.out, HST.out]; rfl)
        go_wp2
        go_ret2
        refine ⟨⟨.slice none 0 0, ?_, [], ?_⟩, HB2.out.trans (HBq.out.mono (Nat.le_trans hB hBs))⟩
        · rw [H2.out]; rfl
        · rw [H2.out]; exact OwnG.nil _ _
      · have H2 := Lib.hid (show risesR (s.drop (k + 1)) = risesR s by rw [HST.out, decide_eq_true (by have := HCC.out; omega), Bool.true_and])
        have t1 : (cc == 0) = false := by rw [beq_eq_false_iff_ne]; exact hc0
        clear hc0
        go_wp2
        go_roundw
        case rel => exact ⟨k + 1, by go_num, .inr (by omega), HBq, H2⟩
        case measure => simp [Go.RowKit.intOf]; omega
    · have j1 : ¬ (k : Int) + 1 < n := by omega
      have H2 := Lib.hid (show orderR xs = (s, 0) by
        rw [HE.out, ← H.out]
        have hl : (s.drop k).length ≤ 1 := by rw [List.length_drop, HN.out]; omega
        rw [if_pos]
        match hd : s.drop k, hl with
        | [], _ => rfl
        | [_], _ => rfl)
      have HO2 := Lib.hid (HO.out.below frow HB.out)
      go_wp2
      go_ret2
      refine ⟨⟨.slice o n c, ?_, us2, ?_⟩, HB2.out.trans (HB.out.mono (Nat.le_trans hB hBs))⟩
      · rw [H2.out]; rfl
      · rw [H2.out]; exact HO2.out
end Go.Proofs.YtbdnonphkobkoaaGreat.Vec
end
