/- Walks (kind): the metrics of a part. -/
import Derived.Test.YtddglepimbfdkaaGreatDoorYh
import Derived.Maps.OwnOps
namespace Go.Proofs.YtddglepimbfdkaaGreatDoor.Knd
open Go.RowKit Go.Lib Go.Maps
open Go.Proofs.YtddglepimbfdkaaGreatDoor.Par

/-- What a part's metrics are found to be: a row of the call's own. -/
def MeC (f : Nat) (x : Ex) : Prop := ∀ (P : Nat → Prop) (w : World) (a b : ByteArray) (z m : Int) (o1 : Option Addr) (k1 c1 : Nat) (o2 : Option Addr) (k2 c2 : Nat) (o3 : Option Addr) (k3 c3 : Nat), Nod w P [.string a, .string b, .int .i64 z, .int .i64 m, .slice o1 k1 c1, .slice o2 k2 c2, .slice o3 k3 c3] x →
  Calls Tryz.prog f #[.agg #[.string a, .string b, .int .i64 z, .int .i64 m, .slice o1 k1 c1, .slice o2 k2 c2, .slice o3 k3 c3]] w fun e w' => (∃ v, e = .returned v ∧ w'.ownsRow w.heap.size 9 1 v (metE x).length (BkX.flatE (metE x))) ∧ Below w.heap.size w w'

theorem mt_start (w1 : World) (B : Nat) (hB : B ≤ w1.heap.size) : MT ((w1.alloc (.map #[] 0)).alloc (Obj.cells #[.slice none 0 0, .map (some w1.heap.size)] 100)) B (w1.heap.size + 1) w1.heap.size [] := by
  refine ⟨.slice none 0 0, 0, ?_, World.ownsRow_nil _ _ _ _, (World.ownsMap_made w1 _ _ _).alloc _, by simp, by omega, hB, by omega⟩
  have e : (w1.alloc (.map #[] 0)).heap.size = w1.heap.size + 1 := by simp
  rw [← e]
  exact Array.getElem?_push_size
set_option maxHeartbeats 4000000 in
set_option maxRecDepth 100000 in
theorem kmet_any (x : Ex) (hc : countE x ≤ 10000) (hz : ∀ s ∈ selsE x, s.size ≤ 1000) : MeC 24 x := by
  intro P w a b z m o1 k1 c1 o2 k2 c2 o3 k3 c3 hN
  have hmm := @run_makeMap Tryz.prog
  have h3 : ∀ W W', Below w.heap.size W W' → True := fun _ _ _ => trivial
  obtain ⟨W1, hW1⟩ : ∃ W1, w.alloc (NBox a b z m o1 k1 c1 o2 k2 c2 o3 k3 c3) = W1 := ⟨_, rfl⟩
  have hs1 : W1.heap.size = w.heap.size + 1 := by rw [← hW1]; simp
  obtain ⟨W3, hW3⟩ : ∃ W3, (W1.alloc (.map #[] 0)).alloc (Obj.cells #[.slice none 0 0, .map (some W1.heap.size)] 100) = W3 := ⟨_, rfl⟩
  have hb3 : Below w.heap.size w W3 := by
    rw [← hW3, ← hW1]
    exact (((Below.refl _ _).alloc (Nat.le_refl _) _).alloc (by simp) _).alloc (by simp; omega) _
  have hx3 : Below (w.heap.size + 1) (w.alloc (NBox a b z m o1 k1 c1 o2 k2 c2 o3 k3 c3)) W3 := by
    rw [← hW3, hW1]
    exact ((Below.refl _ _).alloc (by omega) _).alloc (by simp; omega) _
  obtain ⟨p0, p1, p2, p3, p4, p5, p6⟩ := nbox_reads w W3 a b z m o1 k1 c1 o2 k2 c2 o3 k3 c3 hx3
  have hm3 : MT W3 w.heap.size (W1.heap.size + 1) W1.heap.size [] := by rw [← hW3]; exact mt_start W1 _ (by omega)
  have HC := Lib.hid (gather_any _ x (Nat.le_refl _) w.heap.size (W1.heap.size + 1) W1.heap.size [] W3 a b z m o1 k1 c1 o2 k2 c2 o3 k3 c3 ((hN.keep (Q := fun j => j < w.heap.size) fun j hj hl => ⟨hb3.block j hl, hl⟩)) hm3 hb3.size (by simp; omega) hz)
  have HB3 := Lib.hid hb3
  have HW1 := Lib.hid hW1
  have HW3 := Lib.hid hW3
  rw [hs1] at HC
  have e11 : w.heap.size + 1 + 1 = w.heap.size + 2 := rfl
  have HQ := Lib.hid (show ((w.alloc (Obj.cells #[.string a, .string b, .int .i64 z, .int .i64 m, .slice o1 k1 c1, .slice o2 k2 c2, .slice o3 k3 c3] 27)).alloc (.map #[] 0)).alloc (Obj.cells #[.slice none 0 0, .map (some (w.heap.size + 1))] 100) = W3 by rw [← hW3, hs1, ← hW1])
  clear hN hm3 hx3 hb3 hc hz h3 hW1 hW3 p0 p1 p2 p3 p4 p5 p6 e11
  go_enter Tryz.func24, Tryz.ntmps24
  go_wp2_with fail
  rw [HQ.out]
  refine HC.out.mono ?_
  rintro e w4 ⟨rfl, hm4, hb4⟩
  have HB4 := Lib.hid (HB3.out.trans hb4)
  obtain ⟨v, n, h1, h2, -⟩ := hm4
  obtain ⟨c0, c1, f0, f1, -⟩ := cells_two h1
  have HO := Lib.hid h2
  clear h1 h2 hb4
  go_wp2
  go_ret
  exact ⟨⟨_, rfl, HO.out⟩, HB4.out⟩

theorem row_form {w : World} {B n : Nat} {v : Value} {xs : List Value} (h : w.ownsRow B 9 1 v n xs) : ∃ o c, v = .slice o n c := by
  rcases h.2 with ⟨rfl, rfl⟩ | ⟨g, cap, cur, rfl, _⟩
  · exact ⟨_, _, rfl⟩
  · exact ⟨_, _, rfl⟩
/-- A row read at a place. -/
theorem row_at {w : World} {B n c : Nat} {o : Option Addr} {l : List ByteArray} (h : w.ownsRow B 9 1 (.slice o n c) n (BkX.flatE l)) {j : Nat} {s : ByteArray} (hj : l[j]? = some s) : ∃ g, o = some ⟨g, 0, none⟩ ∧ B ≤ g ∧ g < w.heap.size ∧ w.cell? ⟨g, j, none⟩ = some (.string s) := by
  have hf := BkX.flatE_at l j s hj 0 _ rfl
  rw [Nat.mul_one, Nat.add_zero] at hf
  rcases BkX.own_open h with ⟨_, _, e⟩ | ⟨g, cap, e, hB, hg, _, _, hc⟩
  · rw [e] at hf; simp at hf
  · injection e with e1 _ _
    exact ⟨g, e1, hB, hg, hc j _ hf⟩
theorem own_low {w : World} {base base' e sz n : Nat} {v : Value} {xs : List Value} (h : w.ownsRow base e sz v n xs) (hb : base' ≤ base) : w.ownsRow base' e sz v n xs :=
  ⟨h.1, h.2.imp id fun ⟨g, cap, cur, h1, h2, h3⟩ => ⟨g, cap, cur, h1, Nat.le_trans hb h2, h3⟩⟩
theorem row_len {w : World} {B n c : Nat} {o : Option Addr} {l : List ByteArray} (h : w.ownsRow B 9 1 (.slice o n c) n (BkX.flatE l)) : l.length = n := by
  have := h.1
  rw [BkX.flatE_len] at this; omega
set_option maxHeartbeats 4000000 in
set_option maxRecDepth 100000 in
theorem rmet_sel (mt : ByteArray) (v : Nat) (ms : List Sto.Mat) : MeC 29 (.sel mt v ms) := by
  intro P w a b z m o1 k1 c1 o2 k2 c2 o3 k3 c3 hN
  obtain ⟨i1, hi1, hy0, hy1, hy2⟩ := info_parts BkX.infoE
  obtain ⟨⟨ea, eb, -, -⟩, ⟨_, _, l3⟩, _⟩ := hN.open7
  obtain rfl : 0 = k3 := l3
  obtain rfl : a = ⟨#[115, 101, 108]⟩ := ea
  obtain rfl : b = mt := eb
  clear hN
  have HB0 := Lib.hid (box_below w (NBox ⟨#[115, 101, 108]⟩ b z m o1 k1 c1 o2 k2 c2 o3 0 c3))
  have hj : ¬ (0 : Int) < 0 := by decide
  unfold metE
  rw [selsE]
  by_cases hb0 : b.size = 0
  · rw [if_pos hb0]
    obtain rfl : b = ⟨#[]⟩ := by cases b with | mk d => rw [show d = #[] from Array.eq_empty_of_size_eq_zero hb0]
    clear hb0
    go_enter Tryz.func29, Tryz.ntmps29
    go_wp2_with fail
    refine wp_loop_rounds 1 ?_
    rw [rounds_succ]
    go_wp2
    go_ret
    exact ⟨⟨_, rfl, World.ownsRow_nil _ _ _ _⟩, HB0.out⟩
  · rw [if_neg hb0]
    obtain ⟨n1, n2, n3⟩ := str_ne_list (s := b) (l := []) (by rintro rfl; exact hb0 rfl)
    have HX := Lib.hid (fun W (h : Below (w.heap.size + 1) (w.alloc (NBox ⟨#[115, 101, 108]⟩ b z m o1 k1 c1 o2 k2 c2 o3 0 c3)) W) => nbox_reads w W _ _ _ _ _ _ _ _ _ _ _ _ _ h)
    have hnil := Lib.hid (World.ownsRow_nil (w.alloc (NBox ⟨#[115, 101, 108]⟩ b z m o1 k1 c1 o2 k2 c2 o3 0 c3)) (w.heap.size + 1) 9 1)
    have HCX := Lib.hid (show ∀ j u, [Value.string b][j]? = some u → ((w.alloc (NBox ⟨#[115, 101, 108]⟩ b z m o1 k1 c1 o2 k2 c2 o3 0 c3)).alloc (.cells #[.string b] 9)).cell? ((⟨w.heap.size + 1, 0, none⟩ : Addr).add j) = some u by
      have e : (w.alloc (NBox ⟨#[115, 101, 108]⟩ b z m o1 k1 c1 o2 k2 c2 o3 0 c3)).heap.size = w.heap.size + 1 := by simp
      rw [← e]
      exact BkX.cell_1 _ _ _)
    clear hb0
    go_enter Tryz.func29, Tryz.ntmps29
    go_wp2_with (at_builtin
                 go_must (refine wpList_append_lies _ rfl _ _ 23 rfl (w.heap.size + 1) 9 i1 (.string ⟨#[]⟩) 1 16 Tryz.underlying23 hi1 hy0 hy1 hy2 rfl (by decide) _ _ _ rfl (hnil.out.alloc _) ⟨w.heap.size + 1, 0, none⟩ 1 1 [.string b] rfl rfl HCX.out (by intro u hu; simp at hu; subst hu; rfl) (by decide) (by unfold maxLen; omega) (by omega) (by simp) _ rfl ?_)
                 intro g1 d1 w3 hown3 hgrow3 hat3 hlt3)
    have hg3 : w3.heap[w.heap.size]? = some (.cells #[.string ⟨#[115, 101, 108]⟩, .string b, .int .i64 z, .int .i64 m, .slice o1 k1 c1, .slice o2 k2 c2, .slice o3 0 c3] 27 (0, 0)) := by
      rw [hgrow3.block w.heap.size (by simp; omega) (fun e => by cases e), Below.heap_alloc _ _ _ (by simp)]
      exact Array.getElem?_push_size
    have p6 : w3.cell? ⟨w.heap.size, 6, none⟩ = some (.slice o3 0 c3) := by simp [World.cell?, hg3]
    have HO := Lib.hid (show w3.ownsRow (w.heap.size + 1) 9 1 (.slice (some ⟨g1, 0, none⟩) 1 d1) 1 [.string b] from hown3)
    have HB3 := Lib.hid (show Below w.heap.size w w3 from (HB0.out.alloc (by simp) (Obj.cells #[.string b] 9)).trans ⟨hgrow3.os, hgrow3.tape, hgrow3.output, hgrow3.size, fun i hi => hgrow3.block i (by simp; omega) (fun e => by cases e)⟩)
    clear hown3 hgrow3 hat3 hg3
    refine wp_loop_rounds 1 ?_
    rw [rounds_succ]
    go_wp2
    go_ret
    refine ⟨⟨_, rfl, ?_⟩, HB3.out⟩
    rw [show addAll [] [b] = [b] by rw [addAll_cons, add1_out (by simp)]; rfl]
    exact own_low HO.out (by omega)

set_option maxHeartbeats 16000000 in
set_option maxRecDepth 100000 in
theorem rmet_rest (x : Ex) (hc : countE x ≤ 10000) (hns : opE x ≠ ⟨#[115, 101, 108]⟩) (hown : ownE x = []) (IH : ∀ y ∈ kidsE x, MeC 29 y) : MeC 29 x := by
  intro P w a b z m o1 k1 c1 o2 k2 c2 o3 k3 c3 hN
  obtain ⟨i1, hi1, hy0, hy1, hy2⟩ := info_parts BkX.infoE
  obtain ⟨⟨ea, -, -, -⟩, ⟨_, _, l3⟩, _, _, css, h4, s3, hk⟩ := hN.open7
  have HK := Lib.hid (fun j y (hj : (kidsE x)[j]? = some y) => kid_at s3 (h4.trans l3.symm) hk hj)
  have HIH := Lib.hid IH
  have HL := Lib.hid l3
  have hk3 : k3 ≤ 2 := by rw [← l3]; exact kids_few x
  obtain ⟨n1, n2, n3⟩ := str_ne_list (s := a) (l := [115, 101, 108]) (by rw [ea]; exact hns)
  obtain ⟨WB, hWB⟩ : ∃ WB, w.alloc (NBox a b z m o1 k1 c1 o2 k2 c2 o3 k3 c3) = WB := ⟨_, rfl⟩
  have HB := Lib.hid (show Below w.heap.size w WB by rw [← hWB]; exact box_below w _)
  have HSZ := Lib.hid (show WB.heap.size = w.heap.size + 1 by rw [← hWB]; simp)
  have HX := Lib.hid (fun W (h : Below (w.heap.size + 1) WB W) => nbox_reads w W a b z m o1 k1 c1 o2 k2 c2 o3 k3 c3 (by rw [hWB]; exact h))
  have HWB := Lib.hid hWB
  have HF := Lib.hid (show metE x = addAll [] (selsL (kidsE x)) by unfold metE; rw [selsE_eq, hown, List.nil_append])
  have HCN := Lib.hid (fun k y (h : (kidsE x)[k]? = some y) => (show (addAll [] (selsL ((kidsE x).take k))).length + countE y ≤ 10000 by
    have h1 := addAll_len (selsL ((kidsE x).take k)) []
    have h2 := countL _ _ _ h
    have h3 := count_kids x
    simp at h1; omega))
  have HMX := Lib.hid (fun k => (show (addAll [] (selsL ((kidsE x).take k))).length ≤ 10000 by
    have h1 := addAll_len (selsL ((kidsE x).take k)) []
    have h2 : (selsL ((kidsE x).take k)).length ≤ (selsL (kidsE x)).length := by
      conv => rhs; rw [← List.take_append_drop k (kidsE x)]
      unfold selsL
      rw [List.flatMap_append, List.length_append]; omega
    have h3 := selsE_len x
    rw [selsE_eq, hown, List.nil_append] at h3
    simp at h1; omega))
  clear hN ea l3 h4 s3 hk hns hown IH hc hWB
  go_enter Tryz.func29, Tryz.ntmps29
  go_wp2_with fail
  go_loopw [3, 4] (fun vo vi wr => ∃ (i n c : Nat) (o : Option Addr), vi = .int .i64 i ∧ vo = .slice o n c ∧ i ≤ k3 ∧ n ≤ 10000 ∧ Hid (wr.ownsRow (w.heap.size + 1) 9 1 (.slice o n c) n (BkX.flatE (addAll [] (selsL ((kidsE x).take i))))) ∧ Hid (Below (w.heap.size + 1) WB wr)) (fun _ vi _ => k3 - (Go.RowKit.intOf vi).toNat)
  case atStart => exact ⟨0, 0, 0, none, rfl, rfl, Nat.zero_le _, by omega, World.ownsRow_nil _ _ _ _, by rw [HWB.out]; exact Below.refl _ _⟩
  case round =>
    rename World => wo
    obtain ⟨i, n, c, o, rfl, rfl, hik, hn, HO, HR⟩ := hrel
    have HB2 := Lib.hid (HB.out.trans (HR.out.mono (by omega)))
    obtain ⟨p0, p1, p2, p3, p4, p5, p6⟩ := HX.out wo HR.out
    by_cases hlt : i < k3
    · have j1 : (i : Int) < k3 := by omega
      obtain ⟨y, hy⟩ : ∃ y, (kidsE x)[i]? = some y := ⟨_, List.getElem?_eq_getElem (by rw [HL.out]; exact hlt)⟩
      obtain ⟨blk, off, rfl, hl, a', b', z', m', o1', k1', c1', o2', k2', c2', o3', k3', c3', hn2, d0, d1, d2, d3, d4, d5, d6⟩ := HK.out i y hy
      have e0 := (HB2.out.cell (p := ⟨blk, off + i * 7 + 0, none⟩) hl).trans d0
      have e1 := (HB2.out.cell (p := ⟨blk, off + i * 7 + 1, none⟩) hl).trans d1
      have e2 := (HB2.out.cell (p := ⟨blk, off + i * 7 + 2, none⟩) hl).trans d2
      have e3 := (HB2.out.cell (p := ⟨blk, off + i * 7 + 3, none⟩) hl).trans d3
      have e4 := (HB2.out.cell (p := ⟨blk, off + i * 7 + 4, none⟩) hl).trans d4
      have e5 := (HB2.out.cell (p := ⟨blk, off + i * 7 + 5, none⟩) hl).trans d5
      have e6 := (HB2.out.cell (p := ⟨blk, off + i * 7 + 6, none⟩) hl).trans d6
      simp only [Nat.add_zero] at e0
      clear d0 d1 d2 d3 d4 d5 d6
      have HC := Lib.hid (HIH.out y (List.mem_of_getElem? hy) P wo _ _ _ _ _ _ _ _ _ _ _ _ _ (hn2.under HB2.out))
      have HNXT := Lib.hid (show addAll (addAll [] (selsL ((kidsE x).take i))) (metE y) = addAll [] (selsL ((kidsE x).take (i + 1))) by rw [addAll_metE, selsL_take hy, addAll_append])
      have HCY := Lib.hid (HCN.out i y hy)
      obtain ⟨A, hA⟩ : ∃ A, addAll [] (selsL ((kidsE x).take i)) = A := ⟨_, rfl⟩
      rw [hA] at HO HNXT HCY
      obtain ⟨M, hM⟩ : ∃ M, metE y = M := ⟨_, rfl⟩
      have HML := Lib.hid (show M.length ≤ countE y by rw [← hM]; exact metE_len y)
      rw [hM] at HC HNXT
      clear hn2 hy hA hM
      go_wp2_with fail
      refine HC.out.mono ?_
      rintro e w4 ⟨⟨vl, rfl, hrow⟩, b4⟩
      obtain ⟨ol, cl, rfl⟩ := row_form hrow
      obtain ⟨ml, hml⟩ : ∃ ml, M.length = ml := ⟨_, rfl⟩
      rw [hml] at hrow ⊢
      have hml2 : ml ≤ 10000 := by have := HML.out; have := HCY.out; omega
      have HMLN := Lib.hid hml
      have HR4 := Lib.hid (show Below (w.heap.size + 1) WB w4 from HR.out.trans (b4.mono (by have := HR.out.size; rw [HSZ.out] at this; exact this)))
      have HO4 := Lib.hid (own_below HO.out b4)
      have HL4 := Lib.hid hrow
      have HNE := Lib.hid (show (Value.slice ol ml cl).ownBlock = none ∨ (Value.slice ol ml cl).ownBlock ≠ (Value.slice o n c).ownBlock by
        cases h1 : (Value.slice ol ml cl).ownBlock with
        | none => exact .inl rfl
        | some g =>
          refine .inr fun e => ?_
          have h2 := (hrow.lt g h1).1
          have h3 := (HO.out.lt g e.symm).2
          omega)
      clear hrow b4 e0 e1 e2 e3 e4 e5 e6 p0 p1 p2 p3 p4 p5 p6 hml HC
      go_wp2_with fail
      go_loopw [3, 6] (fun vo vj wq => ∃ (j n c : Nat) (o : Option Addr), vj = .int .i64 j ∧ vo = .slice o n c ∧ j ≤ ml ∧ n ≤ 20000 ∧ Hid (wq.ownsRow (w.heap.size + 1) 9 1 (.slice o n c) n (BkX.flatE (addAll A (M.take j)))) ∧ Hid (wq.ownsRow wo.heap.size 9 1 (.slice ol ml cl) ml (BkX.flatE M)) ∧ Hid ((Value.slice ol ml cl).ownBlock = none ∨ (Value.slice ol ml cl).ownBlock ≠ (Value.slice o n c).ownBlock) ∧ Hid (Below (w.heap.size + 1) WB wq)) (fun _ vj _ => ml - (Go.RowKit.intOf vj).toNat)
      case atStart => exact ⟨0, n, c, o, rfl, rfl, Nat.zero_le _, by omega, HO4.out, HL4.out, HNE.out, HR4.out⟩
      case round =>
        clear HO4 HL4 HNE HR4 HO hn
        rename World => wq
        obtain ⟨j, n, c, o, rfl, rfl, hjm, hn, HO, HLL, HNE, HRq⟩ := hrel
        by_cases hlt2 : j < ml
        · have j2 : (j : Int) < ml := by omega
          obtain ⟨s, hs⟩ : ∃ s, M[j]? = some s := ⟨_, List.getElem?_eq_getElem (by rw [HMLN.out]; exact hlt2)⟩
          obtain ⟨gl, rfl, hgl1, hgl2, hcl⟩ := row_at HLL.out hs
          have HS := Lib.hid (show addAll A (M.take (j + 1)) = add1 (addAll A (M.take j)) s by rw [List.take_add_one, hs]; simp only [Option.toList_some]; rw [addAll_append]; rfl)
          have HNL := Lib.hid (row_len HO.out)
          have HNB := Lib.hid (show (addAll A (M.take (j + 1))).length ≤ 20000 by
            have h1 := addAll_len (M.take (j + 1)) A
            have h2 : (M.take (j + 1)).length ≤ M.length := by rw [List.length_take]; omega
            have h3 := HML.out
            have h4 := HCY.out
            omega)
          obtain ⟨Q, hQ⟩ : ∃ Q, addAll A (M.take j) = Q := ⟨_, rfl⟩
          rw [hQ] at HO HS HNL
          clear hs hQ
          go_wp2_with fail
          go_loopw [7, 8] (fun vq vk wz => ∃ (k : Nat) (q : Bool), vk = .int .i64 k ∧ vq = .bool q ∧ k ≤ n ∧ Hid (q = decide (s ∈ Q.take k)) ∧ Hid (Below wq.heap.size wq wz)) (fun _ vk _ => n - (Go.RowKit.intOf vk).toNat)
          case atStart => exact ⟨0, false, rfl, rfl, Nat.zero_le _, Lib.hid (show false = decide (s ∈ Q.take 0) from (decide_eq_false (by simp)).symm), Below.refl _ _⟩
          case round =>
            rename World => wz
            obtain ⟨k, q, rfl, rfl, hkn, HQ, HZ⟩ := hrel
            have hclz := (HZ.out.cell (p := ⟨gl, j, none⟩) hgl2).trans hcl
            by_cases hlt3 : k < n
            · have j3 : (k : Int) < n := by omega
              obtain ⟨t, ht⟩ : ∃ t, Q[k]? = some t := ⟨_, List.getElem?_eq_getElem (by rw [HNL.out]; exact hlt3)⟩
              obtain ⟨go, rfl, hgo1, hgo2, hco⟩ := row_at HO.out ht
              have hcoz := (HZ.out.cell (p := ⟨go, k, none⟩) hgo2).trans hco
              have HT := Lib.hid (show Q.take (k + 1) = Q.take k ++ [t] by rw [List.take_add_one, ht]; rfl)
              clear ht hco
              cases q with
              | true =>
                have HQ2 := Lib.hid (show true = decide (s ∈ Q.take (k + 1)) by
                  rw [HT.out]; symm; rw [decide_eq_true_eq, List.mem_append]; exact .inl (of_decide_eq_true HQ.out.symm))
                go_wp2_with fail
                go_quiet (fail)
                have HZ2 := Lib.hid (HZ.out.trans ((quietB (w := wz) ⟨nq, rfl⟩).mono HZ.out.size))
                go_wp2
                go_roundw
                case rel => exact ⟨k + 1, true, by go_num, rfl, by omega, HQ2, HZ2⟩
                case measure => simp [Go.RowKit.intOf]; omega
              | false =>
                have hnot : s ∉ Q.take k := of_decide_eq_false HQ.out.symm
                by_cases hst : t = s
                · subst hst
                  have HQ2 := Lib.hid (show true = decide (t ∈ Q.take (k + 1)) by
                    rw [HT.out]; symm; rw [decide_eq_true_eq, List.mem_append]; exact .inr (by simp))
                  clear hnot
                  go_wp2_with fail
                  go_quiet (fail)
                  have HZ2 := Lib.hid (HZ.out.trans ((quietB (w := wz) ⟨nq, rfl⟩).mono HZ.out.size))
                  go_wp2
                  go_roundw
                  case rel => exact ⟨k + 1, true, by go_num, by simp, by omega, HQ2, HZ2⟩
                  case measure => simp [Go.RowKit.intOf]; omega
                · obtain ⟨m1, m2, m3⟩ := str_ne hst
                  have HQ2 := Lib.hid (show false = decide (s ∈ Q.take (k + 1)) by
                    rw [HT.out]; symm; rw [decide_eq_false_iff_not, List.mem_append]
                    rintro (h | h)
                    · exact hnot h
                    · exact hst (List.mem_singleton.1 h).symm)
                  clear hnot hst
                  go_wp2_with fail
                  go_quiet (fail)
                  have HZ2 := Lib.hid (HZ.out.trans ((quietB (w := wz) ⟨nq, rfl⟩).mono HZ.out.size))
                  go_wp2
                  go_roundw
                  case rel => exact ⟨k + 1, false, by go_num, by simp, by omega, HQ2, HZ2⟩
                  case measure => simp [Go.RowKit.intOf]; omega
            · have j3 : ¬ (k : Int) < n := by omega
              have hkk : k = n := by omega
              have HQF := Lib.hid (show q = decide (s ∈ Q) by
                have h := HQ.out
                rwa [List.take_of_length_le (by rw [HNL.out]; omega)] at h)
              have HOz := Lib.hid (own_below HO.out HZ.out)
              have HLz := Lib.hid (own_below HLL.out HZ.out)
              have HRz := Lib.hid (show Below (w.heap.size + 1) WB wz from HRq.out.trans (HZ.out.mono (by have := HRq.out.size; rw [HSZ.out] at this; exact this)))
              have hbz : w.heap.size + 1 ≤ wz.heap.size := by have := HRz.out.size; rw [HSZ.out] at this; exact this
              have hglz : gl < wz.heap.size := Nat.lt_of_lt_of_le hgl2 HZ.out.size
              clear hcl HQ
              cases q with
              | true =>
                have HO2 := Lib.hid (show wz.ownsRow (w.heap.size + 1) 9 1 (.slice o n c) n (BkX.flatE (addAll A (M.take (j + 1)))) by
                  rw [HS.out, add1_in (of_decide_eq_true HQF.out.symm)]; exact HOz.out)
                go_wp2
                go_roundw
                case rel => exact ⟨j + 1, n, c, o, by go_num, rfl, by omega, hn, HO2, HLz, HNE, HRz⟩
                case measure => simp [Go.RowKit.intOf]; omega
              | false =>
                have HS2 := Lib.hid (show addAll A (M.take (j + 1)) = Q ++ [s] by rw [HS.out, add1_out (of_decide_eq_false HQF.out.symm)])
                have hrowz := HOz.out
                have hnb : n + 1 ≤ 20000 := by
                  have h1 := HNB.out
                  rw [HS2.out, List.length_append, HNL.out] at h1
                  exact h1
                go_wp2_with (at_builtin
                             go_must (refine wpList_append_lies _ rfl _ _ 23 rfl (w.heap.size + 1) 9 i1 (.string ⟨#[]⟩) 1 16 Tryz.underlying23 hi1 hy0 hy1 hy2 rfl (by decide) _ _ _ rfl (hrowz.alloc _) ⟨wz.heap.size, 0, none⟩ 1 1 [.string s] rfl rfl (BkX.cell_1 _ _ _) (by intro u hu; simp at hu; subst hu; rfl) (by decide) (by unfold maxLen; omega) (by omega) (by simp; omega) _ rfl ?_)
                             intro g1 d1 w5 hown5 hgrow5 hat5 hlt5)
                have hg5 : (wz.alloc (Obj.cells #[.string s] 9)).grownBy w5 (Value.slice o n c).ownBlock := hgrow5
                have ha5 : (Value.slice o n c).ownBlock = some g1 ∨ g1 = (wz.alloc (Obj.cells #[.string s] 9)).heap.size := hat5
                have HO5 := Lib.hid (show w5.ownsRow (w.heap.size + 1) 9 1 (.slice (some ⟨g1, 0, none⟩) (n + 1) d1) (n + 1) (BkX.flatE (addAll A (M.take (j + 1)))) by
                  rw [HS2.out, BkX.flatE_append, BkX.flatE_one]; exact hown5)
                have HL5 := Lib.hid ((HLz.out.alloc (Obj.cells #[.string s] 9)).kept hg5 HNE.out)
                have HNE5 := Lib.hid (show (Value.slice (some ⟨gl, 0, none⟩) ml cl).ownBlock = none ∨ (Value.slice (some ⟨gl, 0, none⟩) ml cl).ownBlock ≠ (Value.slice (some ⟨g1, 0, none⟩) (n + 1) d1).ownBlock from by
                  refine .inr fun e => ?_
                  have e2 : gl = g1 := Option.some.inj e
                  rcases ha5 with h | h
                  · rcases HNE.out with h2 | h2
                    · cases h2
                    · exact h2 (by rw [h, ← e2]; rfl)
                  · simp at h; omega)
                have HR5 := Lib.hid (show Below (w.heap.size + 1) WB w5 from HRz.out.trans (((Below.refl (w.heap.size + 1) wz).alloc hbz (Obj.cells #[.string s] 9)).trans ⟨hg5.os, hg5.tape, hg5.output, hg5.size, fun i hi => hg5.block i (by simp; omega) (fun e => by have := (hrowz.lt i e.symm).1; omega)⟩))
                clear hown5 hgrow5 hat5 hg5 ha5 hrowz
                go_wp2
                go_roundw
                case rel => exact ⟨j + 1, n + 1, d1, _, by go_num, rfl, by omega, hnb, HO5, HL5, HNE5, HR5⟩
                case measure => simp [Go.RowKit.intOf]; omega
        · have j2 : ¬ (j : Int) < ml := by omega
          have HO2 := Lib.hid (show wq.ownsRow (w.heap.size + 1) 9 1 (.slice o n c) n (BkX.flatE (addAll [] (selsL ((kidsE x).take (i + 1))))) by
            rw [← HNXT.out]
            have h := HO.out
            rwa [List.take_of_length_le (by rw [HMLN.out]; omega)] at h)
          have hn3 : n ≤ 10000 := by
            have h1 := row_len HO2.out
            have h2 := HMX.out (i + 1)
            omega
          go_wp2
          go_roundw
          case rel => exact ⟨i + 1, n, c, o, by go_num, rfl, by omega, hn3, HO2, HRq⟩
          case measure => simp [Go.RowKit.intOf]; omega
    · have j1 : ¬ (i : Int) < k3 := by omega
      have HOF := Lib.hid (show wo.ownsRow (w.heap.size + 1) 9 1 (.slice o n c) n (BkX.flatE (metE x)) by
        have h := HO.out
        rwa [List.take_of_length_le (by rw [HL.out]; omega), ← HF.out] at h)
      have HNL := Lib.hid (row_len HOF.out)
      go_wp2
      go_ret
      exact ⟨⟨_, rfl, by rw [HNL.out]; exact own_low HOF.out (by omega)⟩, HB2.out⟩

theorem rmet_any : ∀ (n : Nat) (x : Ex), countE x ≤ n → countE x ≤ 10000 → MeC 29 x
  | 0, x, h, _ => by cases x <;> simp [countE] at h
  | n + 1, x, h, hc => by
    have ih : ∀ y ∈ kidsE x, MeC 29 y := fun y hy => rmet_any n y (by have := kids_lt hy; omega) (by have := kids_lt hy; omega)
    cases x with
    | sel mt v ms => exact rmet_sel mt v ms
    | num v => exact rmet_rest _ hc (by simp [opE]) rfl ih
    | neg y => exact rmet_rest _ hc (by simp [opE]) rfl ih
    | bin op md names l r => exact rmet_rest _ hc (by simp [opE]) rfl ih
    | agg nm v md names y => exact rmet_rest _ hc (by simp [opE]) rfl ih
    | fn nm y => exact rmet_rest _ hc (by simp [opE]) rfl ih

end Go.Proofs.YtddglepimbfdkaaGreatDoor.Knd
