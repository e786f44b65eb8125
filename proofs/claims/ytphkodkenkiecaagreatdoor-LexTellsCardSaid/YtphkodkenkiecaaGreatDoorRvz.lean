/- A walk: the document's own way to read a quotation: the loop. -/
import Derived.Test.YtphkodkenkiecaaGreatDoorRuz
import Derived.Deep.RegionLaw
import Derived.Deep.AppendLies
namespace Go.Proofs.YtphkodkenkiecaaGreatDoor
open Go.RowKit

def unquoteR (l : List UInt8) : Option (List UInt8) :=
  if l.length < 2 ∨ l.getD 0 0 ≠ 34 ∨ l.getD (l.length - 1) 0 ≠ 34 then none
  else match rd false ((l.drop 1).take (l.length - 1 - 1)).length ((l.drop 1).take (l.length - 1 - 1)) with
    | none => none
    | some (t, _) => if quoteL t = l then some t else none

theorem drop_at {b : ByteArray} {i : Nat} (h : i < b.size) : b.data.toList.drop i = b[i] :: b.data.toList.drop (i + 1) := by
  have hl : i < b.data.toList.length := by rw [← Lib.size_eq]; exact h
  rw [List.drop_eq_getElem_cons hl]; rfl
theorem cell_one (w : World) (v : Value) (t : TypeId) : ∀ j u, [v][j]? = some u → (w.alloc (.cells #[v] t)).cell? ((⟨w.heap.size, 0, none⟩ : Addr).add j) = some u := by
  intro j u hj
  match j, hj with
  | 0, hj => simp at hj; subst hj; simp [Addr.add]
  | j + 1, hj => simp at hj
/-- Where the reading stands. -/
def Rd (bb : ByteArray) (acc : List UInt8) (f i : Nat) : Prop := pre2 acc (rd false f (bb.data.toList.drop i)) = rd false bb.data.toList.length bb.data.toList
theorem one_u8 (x : Int) : ∀ v ∈ [Value.int .u8 x], v.oneCell' = true := by
  intro v hv; simp at hv; subst hv; rfl

/-- An append onto a row of the call's own, in a region that draws its order. -/
theorem own_step {P : Program} {ops : Array Oper} {o : Oper} {a : Act} {w : World} {K : Act → World → Prop} {Q : Exit → Act → World → Prop} {E : Prop} (hg : o.guard = none) (s x : Operand) (t : TypeId)
    (ho : o.op = .call { callee := .builtin .append, args := #[s, x], argTypes := #[t, t] })
    (base : Nat) (e : TypeId) (i : TypeInfo) (z : Value) (size bytes : Nat) (ht : P.underlying t = some (.slice e)) (hi : P.info? e = some i) (hz : i.zero = some z)
    (hsize : i.size = size) (hby : i.bytes = bytes) (hzs : z.cells.size = size) (hsz : 0 < size)
    (v : Value) (n : Nat) (xs : List Value) (hs : a.eval s = v) (hown : w.ownsRow base e size v n xs)
    (ad : Addr) (m c : Nat) (news : List Value) (hx : a.eval x = .slice (some ad) m c) (hl : news.length = m * size) (hnews : ∀ j u, news[j]? = some u → w.cell? (ad.add j) = some u) (h1 : ∀ u ∈ news, u.oneCell' = true)
    (h63 : n + m ≤ maxLen) (hbytes : (n + m) * bytes ≤ 140737488355328) (hbase : base ≤ w.heap.size)
    (h : ∀ v' w', w'.ownsRow base e size v' (n + m) (xs ++ news) → w.grownBy w' v.ownBlock → K (a.put o.dst v') w') :
    if Region.wanted o (yielded ops a.tmps) = true then Oper.wp P o a w K Q else E := by
  rw [if_pos (by simp [Region.wanted, hg])]
  exact wp_append_own w s x t ho base e i z size bytes ht hi hz hsize hby hzs hsz v n xs hs hown ad m c news hx hl hnews h1 h63 hbytes hbase fun v' w' h2 h3 _ => h v' w' h2 h3
theorem own_snoc {B : Nat} {v : Value} {acc : List UInt8} {x : UInt8} {w : World} (h : w.ownsRow B 5 1 v (acc.length + 1) (Lib.byteCells acc ++ [.int .u8 (x.toNat : Int)])) : w.ownsRow B 5 1 v (acc ++ [x]).length (Lib.byteCells (acc ++ [x])) := by
  rw [Lib.byteCells_append, List.length_append]; exact h
theorem grown_below {B : Nat} {w wr w3 : World} {v : Value} {n : Nat} {xs : List Value} {o : Obj} (hbw : Below B w wr) (hB : B ≤ wr.heap.size) (hown : wr.ownsRow B 5 1 v n xs) (hg : (wr.alloc o).grownBy w3 v.ownBlock) : Below B w w3 :=
  Below.grown (hbw.alloc hB _) hg (by simp; omega) (fun j hj => (hown.lt _ hj).1)

set_option maxHeartbeats 8000000 in
set_option maxRecDepth 100000 in
theorem runquote_any (s : ByteArray) (hs : s.size ≤ 274877906944) (w : World) :
    Calls Tryz.prog 66 #[.string s] w fun e w' => UEnd (unquoteR s.data.toList) e ∧ Below w.heap.size w w' := by
  have HSZ := Lib.hid (Lib.size_eq s)
  by_cases h2 : s.size < 2
  · have HN : Hid (none = unquoteR s.data.toList) := by have := HSZ.out; show _ = _; unfold unquoteR; rw [if_pos (.inl (by omega))]
    have i2 : (s.size : Int) < 2 := by omega
    have t2 : decide ((s.size : Int) < 2) = true := by simpa using i2
    go_enter Tryz.func66, Tryz.ntmps66
    go_wp2
    go_ret2
    exact ⟨UEnd_none HN.out, Below.refl _ _⟩
  · have i2 : (2 : Int) ≤ s.size := by omega
    have t2 : decide ((s.size : Int) < 2) = false := by simp; omega
    have i3 : (1 : Int) ≤ (s.size : Int) - 1 := by omega
    have g0 := getD_at (s := s) (i := 0) (by omega)
    have g1 := getD_at (s := s) (i := s.size - 1) (by omega)
    have n1 : ∀ b : UInt8, b ≠ 34 ↔ b.toNat ≠ 34 := fun b => ⟨fun h h' => h (UInt8.toNat_inj.1 h'), fun h h' => h (by rw [h']; rfl)⟩
    by_cases q : s[0].toNat = 34 ∧ s[s.size - 1].toNat = 34
    · have t0 : ((s[0].toNat : Int) != 34) = false := by rw [bne_eq_false_iff_eq]; omega
      have t1 : ((s[s.size - 1].toNat : Int) != 34) = false := by rw [bne_eq_false_iff_eq]; omega
      obtain ⟨bb, hbb⟩ : ∃ bb, bb = s.extract 1 (s.size - 1) := ⟨_, rfl⟩
      have hx : bb.data.toList = (s.data.toList.drop 1).take (s.size - 1 - 1) := by rw [hbb]; exact Lib.extract_data s 1 (s.size - 1)
      have hbs : bb.size ≤ s.size := by rw [hbb, ByteArray.size_extract]; omega
      have hU : unquoteR s.data.toList = match rd false bb.data.toList.length bb.data.toList with
          | none => none
          | some (t, _) => if quoteL t = s.data.toList then some t else none := by
        unfold unquoteR
        rw [if_neg, ← HSZ.out, hx]
        rw [← HSZ.out, g0, g1, n1, n1]; omega
      have HU := Lib.hid hU
      have hbb' := hbb.symm
      have HBL := Lib.hid (Lib.size_eq bb)
      clear g0 g1 n1 q hx hbb hU
      obtain ⟨i0, hi, hz0, hz1, hz2⟩ := info_parts tryd_info5
      go_enter Tryz.func66, Tryz.ntmps66
      go_wp2
      clear hbb' t0 t1 t2
      go_loopw [5, 6] (fun vo vi wr => ∃ (i f : Nat) (acc : List UInt8), wr.ownsRow w.heap.size 5 1 vo acc.length (Lib.byteCells acc) ∧ Below w.heap.size w wr ∧ vi = .int .i64 i ∧ Hid (Rd bb acc f i) ∧ bb.size ≤ i + f ∧ i ≤ bb.size ∧ acc.length ≤ i) (fun _ vi _ => bb.size - (intOf vi).toNat)
      case atStart => exact ⟨0, bb.data.toList.length, [], World.ownsRow_nil _ _ _ _, Below.refl _ _, rfl, (by show Rd _ _ _ _; unfold Rd; rw [pre2_nil, List.drop_zero]), by rw [← HBL.out]; omega, by omega, by simp⟩
      case round =>
        obtain ⟨i, f, acc, hown, hbw, rfl, H, hf, hile, hal⟩ := hrel
        by_cases hib : i < bb.size
        · obtain ⟨f, rfl⟩ : ∃ g, f = g + 1 := ⟨f - 1, by omega⟩
          have ii : (i : Int) < bb.size := by omega
          have h1 : pre2 acc (rd false (f + 1) (bb[i] :: bb.data.toList.drop (i + 1))) = rd false bb.data.toList.length bb.data.toList := by rw [← drop_at hib]; exact H.out
          rw [rd_cons, if_neg (fun h => by cases h.1)] at h1
          clear H
          have hcl : (Lib.byteCells acc).length = acc.length := Lib.byteCells_length _
          have hzw := hbw.size
          by_cases hc : bb[i] = 92
          · rw [if_neg (fun h => h hc)] at h1
            have tc : ((bb[i].toNat : Int) != 92) = false := by rw [bne_eq_false_iff_eq, hc]; rfl
            clear hc
            by_cases hi1 : i + 1 < bb.size
            · rw [drop_at hi1] at h1
              dsimp only at h1
              have j1 : (i : Int) + 1 < bb.size := by omega
              have hd8 := bb[i + 1].toNat_lt
              have e34 : bb[i + 1] = 34 ↔ bb[i + 1].toNat = 34 := ⟨fun h => by rw [h]; rfl, fun h => UInt8.toNat_inj.1 h⟩
              have e92 : bb[i + 1] = 92 ↔ bb[i + 1].toNat = 92 := ⟨fun h => by rw [h]; rfl, fun h => UInt8.toNat_inj.1 h⟩
              have e110 : bb[i + 1] = 110 ↔ bb[i + 1].toNat = 110 := ⟨fun h => by rw [h]; rfl, fun h => UInt8.toNat_inj.1 h⟩
              have e120 : bb[i + 1] = 120 ↔ bb[i + 1].toNat = 120 := ⟨fun h => by rw [h]; rfl, fun h => UInt8.toNat_inj.1 h⟩
              by_cases h34 : bb[i + 1] = 34 ∨ bb[i + 1] = 92
              · rw [if_pos h34, pre2_pre2] at h1
                have H2 : Hid (Rd bb (acc ++ [bb[i + 1]]) f (i + 1 + 1)) := h1
                have td : (((bb[i + 1].toNat : Int) == 34) = true) ∨ (((bb[i + 1].toNat : Int) == 34) = false ∧ ((bb[i + 1].toNat : Int) == 92) = true) := by
                  simp only [beq_iff_eq, beq_eq_false_iff_ne]; rw [e34, e92] at h34; omega
                clear h1 h34 e34 e92 e110 e120 hcl
                rcases td with td | ⟨td, td'⟩
                all_goals
                  go_wp2_with (at_builtin; go_must (refine wpList_append_own _ rfl _ _ 121 rfl w.heap.size 5 i0 (.int .u8 0) 1 1 Tryz.underlying121 hi hz0 hz1 hz2 rfl (by decide) _ _ _ rfl (hown.alloc _) ⟨wr.heap.size, 0, none⟩ 1 1 [.int .u8 (bb[i + 1].toNat : Int)] rfl rfl (cell_one _ _ _) (one_u8 _) (by unfold maxLen; omega) (by omega) (by simp; omega) ?_); intro v' w3 hown' hgrow3 hnil3)
                  go_roundw
                  case rel => exact ⟨i + 2, f, acc ++ [bb[i + 1]], own_snoc hown', grown_below hbw hzw hown hgrow3, by go_num, H2, by omega, by omega, by rw [List.length_append]; simp; omega⟩
                  case measure => simp [intOf]; omega
              · rw [if_neg h34] at h1
                have t34 : ((bb[i + 1].toNat : Int) == 34) = false := by rw [beq_eq_false_iff_ne]; rw [e34, e92] at h34; omega
                have t92 : ((bb[i + 1].toNat : Int) == 92) = false := by rw [beq_eq_false_iff_ne]; rw [e34, e92] at h34; omega
                by_cases h110 : bb[i + 1] = 110
                · rw [if_pos h110, pre2_pre2] at h1
                  have H2 : Hid (Rd bb (acc ++ [10]) f (i + 1 + 1)) := h1
                  have t110 : ((bb[i + 1].toNat : Int) == 110) = true := by rw [beq_iff_eq]; rw [e110] at h110; omega
                  clear h1 h34 h110 e34 e92 e110 e120 hcl
                  go_wp2_with (at_builtin; go_must (refine wpList_append_own _ rfl _ _ 121 rfl w.heap.size 5 i0 (.int .u8 0) 1 1 Tryz.underlying121 hi hz0 hz1 hz2 rfl (by decide) _ _ _ rfl (hown.alloc _) ⟨wr.heap.size, 0, none⟩ 1 1 [.int .u8 (10 : Int)] rfl rfl (cell_one _ _ _) (one_u8 _) (by unfold maxLen; omega) (by omega) (by simp; omega) ?_); intro v' w3 hown' hgrow3 hnil3)
                  go_roundw
                  case rel => exact ⟨i + 2, f, acc ++ [10], own_snoc hown', grown_below hbw hzw hown hgrow3, by go_num, H2, by omega, by omega, by rw [List.length_append]; simp; omega⟩
                  case measure => simp [intOf]; omega
                · rw [if_neg h110] at h1
                  have t110 : ((bb[i + 1].toNat : Int) == 110) = false := by rw [beq_eq_false_iff_ne]; rw [e110] at h110; omega
                  by_cases h120 : bb[i + 1] = 120
                  · rw [if_pos h120] at h1
                    have t120 : ((bb[i + 1].toNat : Int) == 120) = true := by rw [beq_iff_eq]; rw [e120] at h120; omega
                    clear h34 h110 h120 e34 e92 e110 e120 hcl
                    by_cases hi3 : i + 3 < bb.size
                    · have j3 : (i : Int) + 3 < bb.size := by omega
                      have j2 : (i : Int) + 2 < bb.size := by omega
                      have hn2 : i + 2 < bb.size := by omega
                      have hh8 := bb[i + 2].toNat_lt
                      have hl8 := bb[i + 3].toNat_lt
                      rw [drop_at (show i + 1 + 1 < bb.size by omega), drop_at (show i + 1 + 1 + 1 < bb.size by omega)] at h1
                      have h1' : pre2 acc (rdX (rd false f) (bb[i + 2] :: bb[i + 3] :: bb.data.toList.drop (i + 4))) = rd false bb.data.toList.length bb.data.toList := h1
                      clear h1
                      have C1 := Lib.hid (fun W => hex_any bb[i + 2].toNat (by omega) W)
                      have C2 := Lib.hid (fun W => hex_any bb[i + 3].toNat (by omega) W)
                      cases ha : hexR bb[i + 2].toNat with
                      | none =>
                        have HN : Hid (none = unquoteR s.data.toList) := by
                          show _ = _
                          rw [rdX, ha] at h1'
                          rw [HU.out, ← h1']; rfl
                        rw [hexI_none ha] at C1
                        clear ha h1' C2
                        go_wp2_with fail
                        refine (C1.out _).mono ?_
                        rintro e w' ⟨rfl, rfl⟩
                        go_wp2_with fail
                        go_ret2
                        exact ⟨UEnd_none HN.out, hbw⟩
                      | some a =>
                        obtain ⟨hea, ha16⟩ := hexI_some ha
                        rw [hea] at C1
                        cases hb : hexR bb[i + 3].toNat with
                        | none =>
                          have HN : Hid (none = unquoteR s.data.toList) := by
                            show _ = _
                            rw [rdX, ha] at h1'
                            dsimp only at h1'
                            rw [hb] at h1'
                            rw [HU.out, ← h1']; rfl
                          rw [hexI_none hb] at C2
                          clear ha hb hea h1'
                          go_wp2_with fail
                          refine (C1.out _).mono ?_
                          rintro e w' ⟨rfl, rfl⟩
                          go_wp2_with fail
                          refine (C2.out _).mono ?_
                          rintro e w' ⟨rfl, rfl⟩
                          go_wp2_with fail
                          go_ret2
                          exact ⟨UEnd_none HN.out, hbw⟩
                        | some b =>
                          obtain ⟨heb, hb16⟩ := hexI_some hb
                          rw [heb] at C2
                          rw [rdX, ha] at h1'
                          dsimp only at h1'
                          rw [hb] at h1'
                          dsimp only at h1'
                          rw [pre2_pre2] at h1'
                          have H2 : Hid (Rd bb (acc ++ [(16 * a + b).toUInt8]) f (i + 4)) := h1'
                          clear ha hb h1'
                          have HEA := Lib.hid hea
                          have HEB := Lib.hid heb
                          clear hea heb
                          go_wp2_with fail
                          refine (C1.out _).mono ?_
                          rintro e w' ⟨rfl, rfl⟩
                          go_wp2_with fail
                          refine (C2.out _).mono ?_
                          rintro e w' ⟨rfl, rfl⟩
                          go_wp2_with fail
                          have HX : Hid (16 * (a : Int) + b = (((16 * a + b).toUInt8).toNat : Int)) := by
                            show _ = _
                            simp; omega
                          have hea := HEA.out
                          have heb := HEB.out
                          have s1 : IntKind.i64.wrap ((i : Int) + 2) = (i : Int) + 2 := by rw [IntKind.wrap_i64]; omega
                          have s2 : IntKind.i64.wrap ((i : Int) + 3) = (i : Int) + 3 := by rw [IntKind.wrap_i64]; omega
                          have s3 : ((i : Int) + 2).toNat = i + 2 := by omega
                          have s4 : ((i : Int) + 3).toNat = i + 3 := by omega
                          have s5 : IntKind.i64.wrap (16 * (a : Int)) = 16 * (a : Int) := by rw [IntKind.wrap_i64]; omega
                          have s6 : IntKind.i64.wrap (16 * (a : Int) + b) = 16 * (a : Int) + b := by rw [IntKind.wrap_i64]; omega
                          have s7 : IntKind.u8.wrap (16 * (a : Int) + b) = 16 * (a : Int) + b := by rw [IntKind.wrap_u8]; omega
                          have s8 : 0 ≤ (i : Int) + 2 := by omega
                          have s9 : 0 ≤ (i : Int) + 3 := by omega
                          go_region_law (first
                            | (refine own_step rfl _ _ 121 rfl w.heap.size 5 i0 (.int .u8 0) 1 1 Tryz.underlying121 hi hz0 hz1 hz2 rfl (by decide) _ _ _ rfl (World.ownsRow.alloc (w := wr.drew) hown _) ⟨wr.heap.size, 0, none⟩ 1 1 [.int .u8 (16 * (a : Int) + b)] rfl rfl (cell_one _ _ _) (one_u8 _) (by unfold maxLen; omega) (by omega) (by simp; omega) ?_; intro v' w3 hown' hgrow3)
                            | (go_simp; refine (hex_any _ (UInt8.toNat_lt _) _).mono ?_; rintro e w' ⟨rfl, rfl⟩))
                          all_goals
                            rw [HX.out] at hown'
                            have ho3 := own_snoc hown'
                            have hb3 := grown_below hbw.drew hzw hown hgrow3
                            clear hgrow3 hown'
                            try clear s1
                            try clear s2
                            try clear s5
                            try clear s6
                            try clear s7
                            try clear hea
                            try clear heb
                            go_wp2
                            go_roundw
                            case rel => exact ⟨i + 4, f, acc ++ [(16 * a + b).toUInt8], ho3, hb3, by go_num, H2, by omega, by omega, by rw [List.length_append]; simp; omega⟩
                            case measure => simp [intOf]; omega
                    · have HN : Hid (none = unquoteR s.data.toList) := by
                        show _ = _
                        have hlen : (bb.data.toList.drop (i + 1 + 1)).length < 2 := by rw [List.length_drop, ← HBL.out]; omega
                        have hX : rdX (rd false f) (bb.data.toList.drop (i + 1 + 1)) = none := by
                          match hq : bb.data.toList.drop (i + 1 + 1), hlen with
                          | [], _ => rfl
                          | [_], _ => rfl
                        rw [hX] at h1
                        rw [HU.out, ← h1]; rfl
                      have j3 : (bb.size : Int) ≤ (i : Int) + 3 := by omega
                      clear h1
                      go_wp2
                      go_ret2
                      exact ⟨UEnd_none HN.out, hbw⟩
                  · rw [if_neg h120] at h1
                    have HN : Hid (none = unquoteR s.data.toList) := by
                      show _ = _
                      rw [HU.out, ← h1]; rfl
                    have t120 : ((bb[i + 1].toNat : Int) == 120) = false := by rw [beq_eq_false_iff_ne]; rw [e120] at h120; omega
                    clear h1 h34 h110 h120 e34 e92 e110 e120 hcl
                    go_wp2
                    all_goals
                      go_ret2
                      exact ⟨UEnd_none HN.out, hbw⟩
            · have HN : Hid (none = unquoteR s.data.toList) := by
                show _ = _
                rw [List.drop_eq_nil_of_le (by rw [← HBL.out]; omega)] at h1
                rw [HU.out, ← h1]; rfl
              have j1 : (bb.size : Int) ≤ (i : Int) + 1 := by omega
              clear h1 hcl
              go_wp2
              go_ret2
              exact ⟨UEnd_none HN.out, hbw⟩
          · rw [if_pos hc, pre2_pre2] at h1
            have H2 : Hid (Rd bb (acc ++ [bb[i]]) f (i + 1)) := h1
            have tc : ((bb[i].toNat : Int) != 92) = true := by
              rw [bne_iff_ne]; intro h; exact hc (UInt8.toNat_inj.1 (by show bb[i].toNat = 92; omega))
            clear h1 hc hcl
            go_wp2_with (at_builtin; go_must (refine wpList_append_own _ rfl _ _ 121 rfl w.heap.size 5 i0 (.int .u8 0) 1 1 Tryz.underlying121 hi hz0 hz1 hz2 rfl (by decide) _ _ _ rfl (hown.alloc _) ⟨wr.heap.size, 0, none⟩ 1 1 [.int .u8 (bb[i].toNat : Int)] rfl rfl (cell_one _ _ _) (one_u8 _) (by unfold maxLen; omega) (by omega) (by simp; omega) ?_); intro v' w3 hown' hgrow3 hnil3)
            go_roundw
            case rel => exact ⟨i + 1, f, acc ++ [bb[i]], own_snoc hown', grown_below hbw hzw hown hgrow3, by go_num, H2, by omega, by omega, by rw [List.length_append]; simp; omega⟩
            case measure => simp [intOf]; omega
        · have ii : (bb.size : Int) ≤ i := by omega
          have h1 : rd false bb.data.toList.length bb.data.toList = some (acc, []) := by
            rw [← H.out, List.drop_eq_nil_of_le (by rw [← HBL.out]; omega)]
            cases f <;> simp [rd, pre2]
          have hT := own_text hown
          have hq : unquoteR s.data.toList = if quoteL acc = s.data.toList then some acc else none := by rw [HU.out, h1]
          have CQ := Lib.hid (fun W => rquote_any ⟨acc.toArray⟩ W (by rw [Lib.size_eq]; show acc.length ≤ _; omega))
          clear h1 H
          by_cases hqe : quoteL acc = s.data.toList
          · rw [if_pos hqe] at hq
            have HN := Lib.hid hq.symm
            have tq : (quoteL acc == s.toList) = true := by rw [beq_iff_eq, Lib.toList_data]; exact hqe
            clear hq hqe
            go_wp2_with fail
            refine (CQ.out _).mono ?_
            rintro e w2 ⟨rfl, b2⟩
            go_wp2_with fail
            go_ret2
            exact ⟨UEnd_some HN.out, hbw.trans (b2.mono hbw.size)⟩
          · rw [if_neg hqe] at hq
            have HN := Lib.hid hq.symm
            have tq : (quoteL acc == s.toList) = false := by rw [beq_eq_false_iff_ne, Lib.toList_data]; exact hqe
            clear hq hqe
            go_wp2_with fail
            refine (CQ.out _).mono ?_
            rintro e w2 ⟨rfl, b2⟩
            go_wp2_with fail
            go_ret2
            exact ⟨UEnd_none HN.out, hbw.trans (b2.mono hbw.size)⟩
    · have HN : Hid (none = unquoteR s.data.toList) := by
        show _ = _
        unfold unquoteR
        rw [if_pos]
        rw [← HSZ.out, g0, g1, n1, n1]; omega
      have t0 : ((s[0].toNat : Int) != 34) = true ∨ (((s[0].toNat : Int) != 34) = false ∧ ((s[s.size - 1].toNat : Int) != 34) = true) := by
        simp only [bne_iff_ne, bne_eq_false_iff_eq]; omega
      clear g0 g1 n1 q
      go_enter Tryz.func66, Tryz.ntmps66
      rcases t0 with t | ⟨t, t'⟩
      all_goals
        go_wp2
        go_ret2
        exact ⟨UEnd_none HN.out, Below.refl _ _⟩
end Go.Proofs.YtphkodkenkiecaaGreatDoor
