/- Queries are written: two parts with names; all of them; the whole. -/
import Derived.Test.YtddglepimbfdkaaGreatDoorHh
namespace Go.Proofs.YtddglepimbfdkaaGreatDoor.Par
open Go.RowKit Go.Lib
open Go.Proofs.YtddglepimbfdkaaGreatDoor.Sto

set_option maxHeartbeats 8000000 in
set_option maxRecDepth 100000 in
theorem bin_own1 (op : ByteArray) (names : List ByteArray) (l r : Ex) (hm : Mode 1 names) (H1 : KidC l) (H2 : KidC r) : OwnC 114 (.bin op 1 names l r) := by
  intro W0 w P b acc a tx z m o1 k1 c1 o2 k2 c2 o3 k3 c3 hn hp hf
  have hcap := hn.cap
  obtain ⟨⟨-, etx, -, em⟩, ⟨e1, -, e3⟩, hs1, -, css, hcl, hs3, hk3⟩ := hn.view
  simp only [textE] at etx
  simp only [modeE] at em
  simp only [namesE] at e1 hs1
  have etx := etx.symm
  subst etx
  have em0 : m = 1 := em
  subst em0
  simp only [kidsE, List.length_cons, List.length_nil, Nat.zero_add] at e3
  have e4 : 2 = k3 := e3
  clear e3 em
  subst e4
  obtain ⟨bb, off, rfl, hbl, a0, b0, z0, m0, p0, j0, d0, s0, t0, u0, v0, x0, y0, hy0, g0, g1, g2, g3, g4, g5, g6⟩ := kids_at hs3 hk3 (by rw [hcl]; rfl) 0 l rfl
  obtain ⟨bb', off', eo, -, a1, b1, z1, m1, p1, j1, d1, s1, t1, u1, v1, x1, y1, hy1, f0, f1, f2, f3, f4, f5, f6⟩ := kids_at hs3 hk3 (by rw [hcl]; rfl) 1 r rfl
  injection eo with eo; injection eo with eb eof
  subst eb; subst eof
  simp only [Nat.zero_mul, Nat.add_zero] at g0 g1 g2 g3 g4 g5 g6
  simp only [Nat.one_mul] at f0 f1 f2 f3 f4 f5 f6
  have hLx : nodeL (.bin op 1 names l r) = kidL l ++ (32 :: (op.data.toList ++ ((32 :: (wOn ++ (40 :: (commaN names ++ [41])))) ++ (32 :: kidL r)))) := rfl
  rw [hLx] at hf ⊢
  have hoz : op.size = op.data.toList.length := Lib.size_eq _
  simp only [List.length_append, List.length_cons, List.length_nil] at hf
  have hnb : op.size ≤ 100000000000000 := by omega
  have HF0 := Lib.hid (show acc.length + (kidL l).length ≤ 100000000000000 by omega)
  have HF1 := Lib.hid (show (acc ++ kidL l).length + (32 :: op.data.toList).length ≤ 100000000000000 by simp only [List.length_append, List.length_cons]; omega)
  have HF2 := Lib.hid (show (acc ++ kidL l ++ 32 :: op.data.toList).length + (32 :: (wOn ++ (40 :: (commaN names ++ [41])))).length ≤ 100000000000000 by simp only [List.length_append, List.length_cons, List.length_nil]; omega)
  have HF3 := Lib.hid (show (acc ++ kidL l ++ 32 :: op.data.toList ++ (32 :: (wOn ++ (40 :: (commaN names ++ [41]))))).length + 1 ≤ 100000000000000 by simp only [List.length_append, List.length_cons, List.length_nil]; omega)
  have HF4 := Lib.hid (show (acc ++ kidL l ++ 32 :: op.data.toList ++ (32 :: (wOn ++ (40 :: (commaN names ++ [41])))) ++ [32]).length + (kidL r).length ≤ 100000000000000 by simp only [List.length_append, List.length_cons, List.length_nil]; omega)
  have HE := Lib.hid (show acc ++ kidL l ++ 32 :: op.data.toList ++ (32 :: (wOn ++ (40 :: (commaN names ++ [41])))) ++ [32] ++ kidL r = acc ++ (kidL l ++ (32 :: (op.data.toList ++ ((32 :: (wOn ++ (40 :: (commaN names ++ [41])))) ++ (32 :: kidL r))))) by simp)
  have HJ := Lib.hid (fun W A (hp : Pen W0 b A W) => join_pen names hm.2.2.1 o1 k1 c1 P e1 hcap (by rw [← e1]; exact hm.2.2.2) hs1 hp)
  have hjb : (⟨(commaN names).toArray⟩ : ByteArray).size ≤ 100000000000000 := by rw [size_arr]; omega
  obtain ⟨J, hJ⟩ : ∃ J : ByteArray, (⟨(commaN names).toArray⟩ : ByteArray) = J := ⟨_, rfl⟩
  have HJL := Lib.hid (show J.data.toList = commaN names by rw [← hJ])
  rw [hJ] at HJ hjb
  have HC := Lib.hid (fun W (hp : Pen W0 b acc W) => H1 W0 W P b acc a0 b0 z0 m0 p0 j0 d0 s0 t0 u0 v0 x0 y0 hy0 hp HF0.out)
  have HD := Lib.hid (fun W (hp : Pen W0 b _ W) => H2 W0 W P b _ a1 b1 z1 m1 p1 j1 d1 s1 t1 u1 v1 x1 y1 hy1 hp HF4.out)
  have HP := Lib.hid (hp.alloc (Obj.cells #[.string a, .string op, .int .i64 z, .int .i64 1, .slice o1 k1 c1, .slice o2 k2 c2, .slice (some ⟨bb, off, none⟩) 2 c3] 143))
  have HK := Lib.hid ((kept_refl b w).alloc (Obj.cells #[.string a, .string op, .int .i64 z, .int .i64 1, .slice o1 k1 c1, .slice o2 k2 c2, .slice (some ⟨bb, off, none⟩) 2 c3] 143))
  have hbx := (show (w.alloc (Obj.cells #[.string a, .string op, .int .i64 z, .int .i64 1, .slice o1 k1 c1, .slice o2 k2 c2, .slice (some ⟨bb, off, none⟩) 2 c3] 143)).heap[w.heap.size]? = some (.cells #[.string a, .string op, .int .i64 z, .int .i64 1, .slice o1 k1 c1, .slice o2 k2 c2, .slice (some ⟨bb, off, none⟩) 2 c3] 143 (0, 0)) from Array.getElem?_push_size)
  have HBX := Lib.hid (fun W (h : Lib.OthersKept 5 (some b) (w.alloc (Obj.cells #[.string a, .string op, .int .i64 z, .int .i64 1, .slice o1 k1 c1, .slice o2 k2 c2, .slice (some ⟨bb, off, none⟩) 2 c3] 143)) W) => cells7 (box_kept h hbx (by decide) (Nat.ne_of_gt hp.lt)))
  have HG0 := Lib.hid (fun W (h : Below W0.heap.size W0 W) => (⟨(h.cell (p := ⟨bb, off, none⟩) hbl).trans g0, (h.cell (p := ⟨bb, off + 1, none⟩) hbl).trans g1, (h.cell (p := ⟨bb, off + 2, none⟩) hbl).trans g2, (h.cell (p := ⟨bb, off + 3, none⟩) hbl).trans g3, (h.cell (p := ⟨bb, off + 4, none⟩) hbl).trans g4, (h.cell (p := ⟨bb, off + 5, none⟩) hbl).trans g5, (h.cell (p := ⟨bb, off + 6, none⟩) hbl).trans g6⟩ : W.cell? ⟨bb, off, none⟩ = some (.string a0) ∧ W.cell? ⟨bb, off + 1, none⟩ = some (.string b0) ∧ W.cell? ⟨bb, off + 2, none⟩ = some (.int .i64 z0) ∧ W.cell? ⟨bb, off + 3, none⟩ = some (.int .i64 m0) ∧ W.cell? ⟨bb, off + 4, none⟩ = some (.slice p0 j0 d0) ∧ W.cell? ⟨bb, off + 5, none⟩ = some (.slice s0 t0 u0) ∧ W.cell? ⟨bb, off + 6, none⟩ = some (.slice v0 x0 y0)))
  have HG1 := Lib.hid (fun W (h : Below W0.heap.size W0 W) => (⟨(h.cell (p := ⟨bb, off + 7, none⟩) hbl).trans f0, (h.cell (p := ⟨bb, off + 7 + 1, none⟩) hbl).trans f1, (h.cell (p := ⟨bb, off + 7 + 2, none⟩) hbl).trans f2, (h.cell (p := ⟨bb, off + 7 + 3, none⟩) hbl).trans f3, (h.cell (p := ⟨bb, off + 7 + 4, none⟩) hbl).trans f4, (h.cell (p := ⟨bb, off + 7 + 5, none⟩) hbl).trans f5, (h.cell (p := ⟨bb, off + 7 + 6, none⟩) hbl).trans f6⟩ : W.cell? ⟨bb, off + 7, none⟩ = some (.string a1) ∧ W.cell? ⟨bb, off + 7 + 1, none⟩ = some (.string b1) ∧ W.cell? ⟨bb, off + 7 + 2, none⟩ = some (.int .i64 z1) ∧ W.cell? ⟨bb, off + 7 + 3, none⟩ = some (.int .i64 m1) ∧ W.cell? ⟨bb, off + 7 + 4, none⟩ = some (.slice p1 j1 d1) ∧ W.cell? ⟨bb, off + 7 + 5, none⟩ = some (.slice s1 t1 u1) ∧ W.cell? ⟨bb, off + 7 + 6, none⟩ = some (.slice v1 x1 y1)))
  generalize kidL l = L1 at HE HC HD HF1 HF2 HF3 ⊢
  generalize kidL r = L2 at HE HC HD ⊢
  clear hn hp H1 H2 hLx hs3 hk3 hcl hy0 hy1 g0 g1 g2 g3 g4 g5 g6 f0 f1 f2 f3 f4 f5 f6 hoz hf hbx HF0 HF4 hJ hs1 e1 hcap hm
  go_enter Tryz.func114, Tryz.ntmps114
  go_wp2
  go_loopw [10] (fun v10 wr => ∃ k : Nat, v10 = .int .i64 k ∧ k ≤ 2 ∧ Hid (Pen W0 b (if k = 0 then acc else if k = 1 then acc ++ L1 else acc ++ (L1 ++ (32 :: (op.data.toList ++ ((32 :: (wOn ++ (40 :: (commaN names ++ [41])))) ++ (32 :: L2)))))) wr) ∧ Hid (Lib.OthersKept 5 (some b) (w.alloc (Obj.cells #[.string a, .string op, .int .i64 z, .int .i64 1, .slice o1 k1 c1, .slice o2 k2 c2, .slice (some ⟨bb, off, none⟩) 2 c3] 143)) wr)) (fun v10 _ => 2 - (Go.RowKit.intOf v10).toNat)
  case atStart => exact ⟨0, rfl, by decide, HP, Lib.OthersKept.refl _ _ _⟩
  case round =>
    obtain ⟨k, rfl, hk, HPk, HKk⟩ := hrel
    by_cases hlt : k = 0
    · subst hlt
      have hpk : Pen W0 b acc wr := HPk.out
      obtain ⟨g0, g1, g2, g3, g4, g5, g6⟩ := HG0.out wr hpk.bel
      have HC1 := Lib.hid (HC.out _ (hpk.alloc (Obj.cells #[.string a0, .string b0, .int .i64 z0, .int .i64 m0, .slice p0 j0 d0, .slice s0 t0 u0, .slice v0 x0 y0] 27)))
      clear hpk
      go_wp2_with fail
      refine HC1.out.mono ?_
      rintro e w2 ⟨rfl, hp2, hk2⟩
      have HP2 := Lib.hid hp2
      have HK2 := Lib.hid ((HKk.out.alloc (Obj.cells #[.string a0, .string b0, .int .i64 z0, .int .i64 m0, .slice p0 j0 d0, .slice s0 t0 u0, .slice v0 x0 y0] 27)).trans hk2)
      clear hp2 hk2
      go_wp2
      go_roundw
      case rel => exact ⟨1, by go_num, by decide, HP2, HK2⟩
      case measure => simp [Go.RowKit.intOf]
    · by_cases hlt1 : k = 1
      · subst hlt1
        have hpk : Pen W0 b (acc ++ L1) wr := HPk.out
        obtain ⟨g0, g1, g2, g3, g4, g5, g6⟩ := HG1.out wr hpk.bel
        have HKa := Lib.hid (HKk.out.alloc (Obj.cells #[.string a1, .string b1, .int .i64 z1, .int .i64 m1, .slice p1 j1 d1, .slice s1 t1 u1, .slice v1 x1 y1] 27))
        obtain ⟨q0, q1, q2, q3, q4, q5, q6⟩ := HBX.out _ HKa.out
        have hwb : wr.heap.size ≠ b := Nat.ne_of_gt hpk.lt
        have hb2 := (show (wr.alloc (Obj.cells #[.string a1, .string b1, .int .i64 z1, .int .i64 m1, .slice p1 j1 d1, .slice s1 t1 u1, .slice v1 x1 y1] 27)).heap[wr.heap.size]? = some (.cells #[.string a1, .string b1, .int .i64 z1, .int .i64 m1, .slice p1 j1 d1, .slice s1 t1 u1, .slice v1 x1 y1] 27 (0, 0)) from Array.getElem?_push_size)
        have HKB := Lib.hid (fun W (h : Lib.OthersKept 5 (some b) (wr.alloc (Obj.cells #[.string a1, .string b1, .int .i64 z1, .int .i64 m1, .slice p1 j1 d1, .slice s1 t1 u1, .slice v1 x1 y1] 27)) W) => cells7 (box_kept h hb2 (by decide) hwb))
        have HS1 := Lib.hid (fun S hS => strL_any S (32 :: op.data.toList) hS (hpk.alloc (Obj.cells #[.string a1, .string b1, .int .i64 z1, .int .i64 m1, .slice p1 j1 d1, .slice s1 t1 u1, .slice v1 x1 y1] 27)) HF1.out)
        clear hpk hwb hb2
        go_wp2_with fail
        refine (HS1.out _ (by simp only [ByteArray.data_append, Array.toList_append]; simp)).mono ?_
        rintro e w2 ⟨⟨nn, rfl⟩, hp2, hk2⟩
        have HP2 := Lib.hid hp2
        have HK2 := Lib.hid (HKa.out.trans hk2)
        have HKC := Lib.hid hk2
        clear q0 q1 q2 q3 q4 q5 q6 g0 g1 g2 g3 g4 g5 g6 hp2 hk2
        obtain ⟨q0, q1, q2, q3, q4, q5, q6⟩ := HBX.out _ HK2.out
        have HM := Lib.hid (fun s t => modeWord_one s t w2)
        go_wp2_with fail
        refine (HM.out _ _).mono ?_
        rintro e w3 ⟨rfl, rfl⟩
        go_wp2_with fail
        refine (HJ.out _ _ HP2.out).mono ?_
        rintro e w3 ⟨rfl, hp3, hk3⟩
        have HK3 := Lib.hid (HK2.out.trans hk3)
        have HKC3 := Lib.hid (HKC.out.trans hk3)
        have HS3 := Lib.hid (fun S hS => strL_any S (32 :: (wOn ++ (40 :: (commaN names ++ [41])))) hS hp3 HF2.out)
        clear hp3 hk3 q0 q1 q2 q3 q4 q5 q6
        go_wp2_with fail
        refine (HS3.out _ (by simp only [ByteArray.data_append, Array.toList_append, HJL.out]; simp [wOn])).mono ?_
        rintro e w4 ⟨⟨nn, rfl⟩, hp4, hk4⟩
        have HK4 := Lib.hid (HK3.out.trans hk4)
        have HKC4 := Lib.hid (HKC3.out.trans hk4)
        have HS4 := Lib.hid (byte_any 32 hp4 HF3.out)
        clear hp4 hk4
        go_wp2_with fail
        refine HS4.out.mono ?_
        rintro e w5 ⟨rfl, hp5, hk5⟩
        have HP5 := Lib.hid hp5
        have HK5 := Lib.hid (HK4.out.trans hk5)
        obtain ⟨r0, r1, r2, r3, r4, r5, r6⟩ := HKB.out _ (HKC4.out.trans hk5)
        clear hp5 hk5
        have HD1 := Lib.hid (HD.out w5 HP5.out)
        go_wp2_with fail
        refine HD1.out.mono ?_
        rintro e w6 ⟨rfl, hp6, hk6⟩
        rw [HE.out] at hp6
        have HP6 := Lib.hid hp6
        have HK6 := Lib.hid (HK5.out.trans hk6)
        clear r0 r1 r2 r3 r4 r5 r6 hp6 hk6
        go_wp2
        go_roundw
        case rel => exact ⟨2, by go_num, Nat.le_refl _, HP6, HK6⟩
        case measure => simp [Go.RowKit.intOf]
      · have hk1 : k = 2 := by omega
        subst hk1
        have HP3 := Lib.hid (show Pen W0 b (acc ++ (L1 ++ (32 :: (op.data.toList ++ ((32 :: (wOn ++ (40 :: (commaN names ++ [41])))) ++ (32 :: L2)))))) wr from HPk.out)
        go_wp2
        first | go_end0 | ((try simp only [Exit.inBlock, Exit.then]); refine bodyPost_ret (results_none rfl _ _ _) rfl ?_)
        exact ⟨rfl, by simpa using HP3.out, HK.out.trans HKk.out⟩

set_option maxHeartbeats 8000000 in
set_option maxRecDepth 100000 in
theorem bin_own2 (op : ByteArray) (names : List ByteArray) (l r : Ex) (hm : Mode 2 names) (H1 : KidC l) (H2 : KidC r) : OwnC 114 (.bin op 2 names l r) := by
  intro W0 w P b acc a tx z m o1 k1 c1 o2 k2 c2 o3 k3 c3 hn hp hf
  have hcap := hn.cap
  obtain ⟨⟨-, etx, -, em⟩, ⟨e1, -, e3⟩, hs1, -, css, hcl, hs3, hk3⟩ := hn.view
  simp only [textE] at etx
  simp only [modeE] at em
  simp only [namesE] at e1 hs1
  have etx := etx.symm
  subst etx
  have em0 : m = 2 := em
  subst em0
  simp only [kidsE, List.length_cons, List.length_nil, Nat.zero_add] at e3
  have e4 : 2 = k3 := e3
  clear e3 em
  subst e4
  obtain ⟨bb, off, rfl, hbl, a0, b0, z0, m0, p0, j0, d0, s0, t0, u0, v0, x0, y0, hy0, g0, g1, g2, g3, g4, g5, g6⟩ := kids_at hs3 hk3 (by rw [hcl]; rfl) 0 l rfl
  obtain ⟨bb', off', eo, -, a1, b1, z1, m1, p1, j1, d1, s1, t1, u1, v1, x1, y1, hy1, f0, f1, f2, f3, f4, f5, f6⟩ := kids_at hs3 hk3 (by rw [hcl]; rfl) 1 r rfl
  injection eo with eo; injection eo with eb eof
  subst eb; subst eof
  simp only [Nat.zero_mul, Nat.add_zero] at g0 g1 g2 g3 g4 g5 g6
  simp only [Nat.one_mul] at f0 f1 f2 f3 f4 f5 f6
  have hLx : nodeL (.bin op 2 names l r) = kidL l ++ (32 :: (op.data.toList ++ ((32 :: (wIgn ++ (40 :: (commaN names ++ [41])))) ++ (32 :: kidL r)))) := rfl
  rw [hLx] at hf ⊢
  have hoz : op.size = op.data.toList.length := Lib.size_eq _
  simp only [List.length_append, List.length_cons, List.length_nil] at hf
  have hnb : op.size ≤ 100000000000000 := by omega
  have HF0 := Lib.hid (show acc.length + (kidL l).length ≤ 100000000000000 by omega)
  have HF1 := Lib.hid (show (acc ++ kidL l).length + (32 :: op.data.toList).length ≤ 100000000000000 by simp only [List.length_append, List.length_cons]; omega)
  have HF2 := Lib.hid (show (acc ++ kidL l ++ 32 :: op.data.toList).length + (32 :: (wIgn ++ (40 :: (commaN names ++ [41])))).length ≤ 100000000000000 by simp only [List.length_append, List.length_cons, List.length_nil]; omega)
  have HF3 := Lib.hid (show (acc ++ kidL l ++ 32 :: op.data.toList ++ (32 :: (wIgn ++ (40 :: (commaN names ++ [41]))))).length + 1 ≤ 100000000000000 by simp only [List.length_append, List.length_cons, List.length_nil]; omega)
  have HF4 := Lib.hid (show (acc ++ kidL l ++ 32 :: op.data.toList ++ (32 :: (wIgn ++ (40 :: (commaN names ++ [41])))) ++ [32]).length + (kidL r).length ≤ 100000000000000 by simp only [List.length_append, List.length_cons, List.length_nil]; omega)
  have HE := Lib.hid (show acc ++ kidL l ++ 32 :: op.data.toList ++ (32 :: (wIgn ++ (40 :: (commaN names ++ [41])))) ++ [32] ++ kidL r = acc ++ (kidL l ++ (32 :: (op.data.toList ++ ((32 :: (wIgn ++ (40 :: (commaN names ++ [41])))) ++ (32 :: kidL r))))) by simp)
  have HJ := Lib.hid (fun W A (hp : Pen W0 b A W) => join_pen names hm.2.2.1 o1 k1 c1 P e1 hcap (by rw [← e1]; exact hm.2.2.2) hs1 hp)
  have hjb : (⟨(commaN names).toArray⟩ : ByteArray).size ≤ 100000000000000 := by rw [size_arr]; omega
  obtain ⟨J, hJ⟩ : ∃ J : ByteArray, (⟨(commaN names).toArray⟩ : ByteArray) = J := ⟨_, rfl⟩
  have HJL := Lib.hid (show J.data.toList = commaN names by rw [← hJ])
  rw [hJ] at HJ hjb
  have HC := Lib.hid (fun W (hp : Pen W0 b acc W) => H1 W0 W P b acc a0 b0 z0 m0 p0 j0 d0 s0 t0 u0 v0 x0 y0 hy0 hp HF0.out)
  have HD := Lib.hid (fun W (hp : Pen W0 b _ W) => H2 W0 W P b _ a1 b1 z1 m1 p1 j1 d1 s1 t1 u1 v1 x1 y1 hy1 hp HF4.out)
  have HP := Lib.hid (hp.alloc (Obj.cells #[.string a, .string op, .int .i64 z, .int .i64 2, .slice o1 k1 c1, .slice o2 k2 c2, .slice (some ⟨bb, off, none⟩) 2 c3] 143))
  have HK := Lib.hid ((kept_refl b w).alloc (Obj.cells #[.string a, .string op, .int .i64 z, .int .i64 2, .slice o1 k1 c1, .slice o2 k2 c2, .slice (some ⟨bb, off, none⟩) 2 c3] 143))
  have hbx := (show (w.alloc (Obj.cells #[.string a, .string op, .int .i64 z, .int .i64 2, .slice o1 k1 c1, .slice o2 k2 c2, .slice (some ⟨bb, off, none⟩) 2 c3] 143)).heap[w.heap.size]? = some (.cells #[.string a, .string op, .int .i64 z, .int .i64 2, .slice o1 k1 c1, .slice o2 k2 c2, .slice (some ⟨bb, off, none⟩) 2 c3] 143 (0, 0)) from Array.getElem?_push_size)
  have HBX := Lib.hid (fun W (h : Lib.OthersKept 5 (some b) (w.alloc (Obj.cells #[.string a, .string op, .int .i64 z, .int .i64 2, .slice o1 k1 c1, .slice o2 k2 c2, .slice (some ⟨bb, off, none⟩) 2 c3] 143)) W) => cells7 (box_kept h hbx (by decide) (Nat.ne_of_gt hp.lt)))
  have HG0 := Lib.hid (fun W (h : Below W0.heap.size W0 W) => (⟨(h.cell (p := ⟨bb, off, none⟩) hbl).trans g0, (h.cell (p := ⟨bb, off + 1, none⟩) hbl).trans g1, (h.cell (p := ⟨bb, off + 2, none⟩) hbl).trans g2, (h.cell (p := ⟨bb, off + 3, none⟩) hbl).trans g3, (h.cell (p := ⟨bb, off + 4, none⟩) hbl).trans g4, (h.cell (p := ⟨bb, off + 5, none⟩) hbl).trans g5, (h.cell (p := ⟨bb, off + 6, none⟩) hbl).trans g6⟩ : W.cell? ⟨bb, off, none⟩ = some (.string a0) ∧ W.cell? ⟨bb, off + 1, none⟩ = some (.string b0) ∧ W.cell? ⟨bb, off + 2, none⟩ = some (.int .i64 z0) ∧ W.cell? ⟨bb, off + 3, none⟩ = some (.int .i64 m0) ∧ W.cell? ⟨bb, off + 4, none⟩ = some (.slice p0 j0 d0) ∧ W.cell? ⟨bb, off + 5, none⟩ = some (.slice s0 t0 u0) ∧ W.cell? ⟨bb, off + 6, none⟩ = some (.slice v0 x0 y0)))
  have HG1 := Lib.hid (fun W (h : Below W0.heap.size W0 W) => (⟨(h.cell (p := ⟨bb, off + 7, none⟩) hbl).trans f0, (h.cell (p := ⟨bb, off + 7 + 1, none⟩) hbl).trans f1, (h.cell (p := ⟨bb, off + 7 + 2, none⟩) hbl).trans f2, (h.cell (p := ⟨bb, off + 7 + 3, none⟩) hbl).trans f3, (h.cell (p := ⟨bb, off + 7 + 4, none⟩) hbl).trans f4, (h.cell (p := ⟨bb, off + 7 + 5, none⟩) hbl).trans f5, (h.cell (p := ⟨bb, off + 7 + 6, none⟩) hbl).trans f6⟩ : W.cell? ⟨bb, off + 7, none⟩ = some (.string a1) ∧ W.cell? ⟨bb, off + 7 + 1, none⟩ = some (.string b1) ∧ W.cell? ⟨bb, off + 7 + 2, none⟩ = some (.int .i64 z1) ∧ W.cell? ⟨bb, off + 7 + 3, none⟩ = some (.int .i64 m1) ∧ W.cell? ⟨bb, off + 7 + 4, none⟩ = some (.slice p1 j1 d1) ∧ W.cell? ⟨bb, off + 7 + 5, none⟩ = some (.slice s1 t1 u1) ∧ W.cell? ⟨bb, off + 7 + 6, none⟩ = some (.slice v1 x1 y1)))
  generalize kidL l = L1 at HE HC HD HF1 HF2 HF3 ⊢
  generalize kidL r = L2 at HE HC HD ⊢
  clear hn hp H1 H2 hLx hs3 hk3 hcl hy0 hy1 g0 g1 g2 g3 g4 g5 g6 f0 f1 f2 f3 f4 f5 f6 hoz hf hbx HF0 HF4 hJ hs1 e1 hcap hm
  go_enter Tryz.func114, Tryz.ntmps114
  go_wp2
  go_loopw [10] (fun v10 wr => ∃ k : Nat, v10 = .int .i64 k ∧ k ≤ 2 ∧ Hid (Pen W0 b (if k = 0 then acc else if k = 1 then acc ++ L1 else acc ++ (L1 ++ (32 :: (op.data.toList ++ ((32 :: (wIgn ++ (40 :: (commaN names ++ [41])))) ++ (32 :: L2)))))) wr) ∧ Hid (Lib.OthersKept 5 (some b) (w.alloc (Obj.cells #[.string a, .string op, .int .i64 z, .int .i64 2, .slice o1 k1 c1, .slice o2 k2 c2, .slice (some ⟨bb, off, none⟩) 2 c3] 143)) wr)) (fun v10 _ => 2 - (Go.RowKit.intOf v10).toNat)
  case atStart => exact ⟨0, rfl, by decide, HP, Lib.OthersKept.refl _ _ _⟩
  case round =>
    obtain ⟨k, rfl, hk, HPk, HKk⟩ := hrel
    by_cases hlt : k = 0
    · subst hlt
      have hpk : Pen W0 b acc wr := HPk.out
      obtain ⟨g0, g1, g2, g3, g4, g5, g6⟩ := HG0.out wr hpk.bel
      have HC1 := Lib.hid (HC.out _ (hpk.alloc (Obj.cells #[.string a0, .string b0, .int .i64 z0, .int .i64 m0, .slice p0 j0 d0, .slice s0 t0 u0, .slice v0 x0 y0] 27)))
      clear hpk
      go_wp2_with fail
      refine HC1.out.mono ?_
      rintro e w2 ⟨rfl, hp2, hk2⟩
      have HP2 := Lib.hid hp2
      have HK2 := Lib.hid ((HKk.out.alloc (Obj.cells #[.string a0, .string b0, .int .i64 z0, .int .i64 m0, .slice p0 j0 d0, .slice s0 t0 u0, .slice v0 x0 y0] 27)).trans hk2)
      clear hp2 hk2
      go_wp2
      go_roundw
      case rel => exact ⟨1, by go_num, by decide, HP2, HK2⟩
      case measure => simp [Go.RowKit.intOf]
    · by_cases hlt1 : k = 1
      · subst hlt1
        have hpk : Pen W0 b (acc ++ L1) wr := HPk.out
        obtain ⟨g0, g1, g2, g3, g4, g5, g6⟩ := HG1.out wr hpk.bel
        have HKa := Lib.hid (HKk.out.alloc (Obj.cells #[.string a1, .string b1, .int .i64 z1, .int .i64 m1, .slice p1 j1 d1, .slice s1 t1 u1, .slice v1 x1 y1] 27))
        obtain ⟨q0, q1, q2, q3, q4, q5, q6⟩ := HBX.out _ HKa.out
        have hwb : wr.heap.size ≠ b := Nat.ne_of_gt hpk.lt
        have hb2 := (show (wr.alloc (Obj.cells #[.string a1, .string b1, .int .i64 z1, .int .i64 m1, .slice p1 j1 d1, .slice s1 t1 u1, .slice v1 x1 y1] 27)).heap[wr.heap.size]? = some (.cells #[.string a1, .string b1, .int .i64 z1, .int .i64 m1, .slice p1 j1 d1, .slice s1 t1 u1, .slice v1 x1 y1] 27 (0, 0)) from Array.getElem?_push_size)
        have HKB := Lib.hid (fun W (h : Lib.OthersKept 5 (some b) (wr.alloc (Obj.cells #[.string a1, .string b1, .int .i64 z1, .int .i64 m1, .slice p1 j1 d1, .slice s1 t1 u1, .slice v1 x1 y1] 27)) W) => cells7 (box_kept h hb2 (by decide) hwb))
        have HS1 := Lib.hid (fun S hS => strL_any S (32 :: op.data.toList) hS (hpk.alloc (Obj.cells #[.string a1, .string b1, .int .i64 z1, .int .i64 m1, .slice p1 j1 d1, .slice s1 t1 u1, .slice v1 x1 y1] 27)) HF1.out)
        clear hpk hwb hb2
        go_wp2_with fail
        refine (HS1.out _ (by simp only [ByteArray.data_append, Array.toList_append]; simp)).mono ?_
        rintro e w2 ⟨⟨nn, rfl⟩, hp2, hk2⟩
        have HP2 := Lib.hid hp2
        have HK2 := Lib.hid (HKa.out.trans hk2)
        have HKC := Lib.hid hk2
        clear q0 q1 q2 q3 q4 q5 q6 g0 g1 g2 g3 g4 g5 g6 hp2 hk2
        obtain ⟨q0, q1, q2, q3, q4, q5, q6⟩ := HBX.out _ HK2.out
        have HM := Lib.hid (fun s t => modeWord_two s t w2)
        go_wp2_with fail
        refine (HM.out _ _).mono ?_
        rintro e w3 ⟨rfl, rfl⟩
        go_wp2_with fail
        refine (HJ.out _ _ HP2.out).mono ?_
        rintro e w3 ⟨rfl, hp3, hk3⟩
        have HK3 := Lib.hid (HK2.out.trans hk3)
        have HKC3 := Lib.hid (HKC.out.trans hk3)
        have HS3 := Lib.hid (fun S hS => strL_any S (32 :: (wIgn ++ (40 :: (commaN names ++ [41])))) hS hp3 HF2.out)
        clear hp3 hk3 q0 q1 q2 q3 q4 q5 q6
        go_wp2_with fail
        refine (HS3.out _ (by simp only [ByteArray.data_append, Array.toList_append, HJL.out]; simp [wIgn])).mono ?_
        rintro e w4 ⟨⟨nn, rfl⟩, hp4, hk4⟩
        have HK4 := Lib.hid (HK3.out.trans hk4)
        have HKC4 := Lib.hid (HKC3.out.trans hk4)
        have HS4 := Lib.hid (byte_any 32 hp4 HF3.out)
        clear hp4 hk4
        go_wp2_with fail
        refine HS4.out.mono ?_
        rintro e w5 ⟨rfl, hp5, hk5⟩
        have HP5 := Lib.hid hp5
        have HK5 := Lib.hid (HK4.out.trans hk5)
        obtain ⟨r0, r1, r2, r3, r4, r5, r6⟩ := HKB.out _ (HKC4.out.trans hk5)
        clear hp5 hk5
        have HD1 := Lib.hid (HD.out w5 HP5.out)
        go_wp2_with fail
        refine HD1.out.mono ?_
        rintro e w6 ⟨rfl, hp6, hk6⟩
        rw [HE.out] at hp6
        have HP6 := Lib.hid hp6
        have HK6 := Lib.hid (HK5.out.trans hk6)
        clear r0 r1 r2 r3 r4 r5 r6 hp6 hk6
        go_wp2
        go_roundw
        case rel => exact ⟨2, by go_num, Nat.le_refl _, HP6, HK6⟩
        case measure => simp [Go.RowKit.intOf]
      · have hk1 : k = 2 := by omega
        subst hk1
        have HP3 := Lib.hid (show Pen W0 b (acc ++ (L1 ++ (32 :: (op.data.toList ++ ((32 :: (wIgn ++ (40 :: (commaN names ++ [41])))) ++ (32 :: L2)))))) wr from HPk.out)
        go_wp2
        first | go_end0 | ((try simp only [Exit.inBlock, Exit.then]); refine bodyPost_ret (results_none rfl _ _ _) rfl ?_)
        exact ⟨rfl, by simpa using HP3.out, HK.out.trans HKk.out⟩

/-- All parts that are read are written. -/
theorem write_all : ∀ x : Ex, Good x → WriteC x
  | .num n, h => write_num n h
  | .neg y, h => write_neg y (neg_own y (kid_of y (write_all y h)))
  | .bin op mode names l r, h => by
    have h1 := kid_of l (write_all l h.2.2.1)
    have h2 := kid_of r (write_all r h.2.2.2)
    have hm := h.2.1
    have : mode = 0 ∨ mode = 1 ∨ mode = 2 := by have := hm.1; omega
    rcases this with rfl | rfl | rfl
    · have := hm.2.1 rfl
      subst this
      exact write_bin op 0 [] l r (bin_own op l r h1 h2)
    · exact write_bin op 1 names l r (bin_own1 op names l r hm h1 h2)
    · exact write_bin op 2 names l r (bin_own2 op names l r hm h1 h2)
  | .agg name n mode names x, h => by
    have h1 := write_all x h.2.2.2.2
    have hm := h.2.2.2.1
    have : mode = 0 ∨ mode = 1 ∨ mode = 2 := by have := hm.1; omega
    rcases this with rfl | rfl | rfl
    · exact write_agg name n 0 names x (agg_own0 name n names x h.2.1 hm h1)
    · exact write_agg name n 1 names x (agg_own1 name n names x h.2.1 hm h1)
    · exact write_agg name n 2 names x (agg_own2 name n names x h.2.1 hm h1)
  | .fn name x, h => write_fn name x (write_all x h.2)
  | .sel m n ms, h => write_sel m n ms (sel_own m n ms h.2.1 h.2.2.2 (by have h1 := h.2.2.1; unfold matsB at h1; simp at h1; exact h1.1))
theorem rtxt_size (w : List UInt8) (hw : w.length ≤ 10) (a : Int) (ha : a ≤ 3000) : (rTxt w a).length ≤ 40 := by
  unfold rTxt
  split
  · have := dec_len a.toNat 13 (by omega) (by decide)
    simp; omega
  · simp
theorem otxt_size (o : Nat) : (oTxt o).length ≤ 40 := by
  unfold oTxt
  split
  · decide
  · split <;> decide
theorem rtxt_yes (w : List UInt8) (n : Nat) : rTxt w (n : Int) = 32 :: (w ++ 32 :: decDigits n) := by
  unfold rTxt; rw [if_pos (by omega), Int.toNat_natCast]
theorem rtxt_no (w : List UInt8) : rTxt w (-1) = [] := by unfold rTxt; rw [if_neg (by omega)]

set_option maxHeartbeats 8000000 in
set_option maxRecDepth 100000 in
theorem print_000 (x : Ex) (H : WriteC x) (hl : (nodeL x).length ≤ 10000000000000) (w : World) (P : Nat → Prop) (a tx : ByteArray) (z m : Int) (o1 : Option Addr) (k1 c1 : Nat) (o2 : Option Addr) (k2 c2 : Nat) (o3 : Option Addr) (k3 c3 : Nat) (hE : Env w) (hn : Nod w P [.string a, .string tx, .int .i64 z, .int .i64 m, .slice o1 k1 c1, .slice o2 k2 c2, .slice o3 k3 c3] x) :
    Calls Tryz.prog 15 #[.agg #[.string a, .string tx, .int .i64 z, .int .i64 m, .slice o1 k1 c1, .slice o2 k2 c2, .slice o3 k3 c3, .int .i64 0, .int .i64 (-1), .int .i64 (-1)]] w fun e w' => e = .returned (.string ⟨(nodeL x ++ (oTxt 0 ++ (rTxt wLimit (-1) ++ rTxt wOffset (-1)))).toArray⟩) ∧ Below w.heap.size w w' := by
  have ha := hn.view.1.1
  subst ha
  obtain ⟨W0, hW0⟩ : ∃ W0, w.alloc (Obj.cells #[.string (opE x), .string tx, .int .i64 z, .int .i64 m, .slice o1 k1 c1, .slice o2 k2 c2, .slice o3 k3 c3, .int .i64 0, .int .i64 (-1), .int .i64 (-1)] 29) = W0 := ⟨_, rfl⟩
  have hb0 : Below w.heap.size w W0 := by rw [← hW0]; exact (Below.refl _ _).alloc (Nat.le_refl _) _
  have hbx : Box10 W0 w.heap.size (.string (opE x)) (.string tx) (.int .i64 z) (.int .i64 m) (.slice o1 k1 c1) (.slice o2 k2 c2) (.slice o3 k3 c3) (.int .i64 0) (.int .i64 (-1)) (.int .i64 (-1)) := by rw [← hW0]; exact box10_new _ _ _ _ _ _ _ _ _ _ _
  have hz0 : w.heap.size < W0.heap.size := by rw [← hW0]; simp
  have hE0 := hE.below hb0
  have hn0 := hn.under hb0
  have HB := Lib.hid (fun W (h : Below W0.heap.size W0 W) => (show Box10 W w.heap.size (.string (opE x)) (.string tx) (.int .i64 z) (.int .i64 m) (.slice o1 k1 c1) (.slice o2 k2 c2) (.slice o3 k3 c3) (.int .i64 0) (.int .i64 (-1)) (.int .i64 (-1)) from (h.block _ hz0).trans hbx).reads)
  have HP := Lib.hid (pen_new hE0)
  have HW := Lib.hid hW0
  have H1 := Lib.hid (fun W => partOf_any x tx z m o1 k1 c1 o2 k2 c2 o3 k3 c3 W)
  have H2 := Lib.hid (fun W (hp : Pen W0 W0.heap.size [] W) => H W0 W P W0.heap.size [] (opE x) tx z m o1 k1 c1 o2 k2 c2 o3 k3 c3 hn0 hp (by simp only [List.length_nil, Nat.zero_add]; omega))
  have HB0 := Lib.hid hb0
  have HZ := Lib.hid hz0
  have HO := Lib.hid (otxt_size 0)
  generalize opE x = a at HB H1 H2 hW0 HW ⊢
  generalize tagE x = T at H1 H2
  generalize nodeL x = L at H2 hl ⊢
  have HE := Lib.hid (show L = L ++ (oTxt 0 ++ (rTxt wLimit (-1) ++ rTxt wOffset (-1))) by simp [oTxt, rtxt_no])
  clear hb0 hbx hz0 hE0 hn0 hn hE hl H HW HO
  go_enter Tryz.func15, Tryz.ntmps15
  obtain ⟨⟨q0, q1, q2, q3, q4, q5, q6, q7, q8, q9⟩, -⟩ := HB.out _ HP.out.bel
  go_wp2_with fail
  refine (H1.out _).mono ?_
  rintro e w1 ⟨rfl, b1⟩
  have HP1 := Lib.hid (HP.out.below b1)
  have HH2 := Lib.hid (H2.out w1 HP1.out)
  clear b1 q0 q1 q2 q3 q4 q5 q6 q7 q8 q9
  go_wp2_with fail
  refine HH2.out.mono ?_
  rintro e w2 ⟨rfl, hp2, hk2⟩
  have HPc := Lib.hid (show Pen W0 W0.heap.size L w2 from hp2)
  obtain ⟨⟨q0, q1, q2, q3, q4, q5, q6, q7, q8, q9⟩, -⟩ := HB.out _ hp2.bel
  clear hp2 hk2
  have hps := HPc.out
  rw [HE.out] at hps
  have HS := Lib.hid (pen_str hps)
  clear hps
  go_wp2_with fail
  refine HS.out.mono ?_
  rintro e w9 ⟨rfl, b9⟩
  go_wp2
  go_ret
  exact ⟨rfl, HB0.out.trans (b9.mono (Nat.le_of_lt HZ.out))⟩

set_option maxHeartbeats 8000000 in
set_option maxRecDepth 100000 in
theorem print_001 (x : Ex) (H : WriteC x) (hl : (nodeL x).length ≤ 10000000000000) (bn : Nat) (ibn : bn ≤ 2000) (w : World) (P : Nat → Prop) (a tx : ByteArray) (z m : Int) (o1 : Option Addr) (k1 c1 : Nat) (o2 : Option Addr) (k2 c2 : Nat) (o3 : Option Addr) (k3 c3 : Nat) (hE : Env w) (hn : Nod w P [.string a, .string tx, .int .i64 z, .int .i64 m, .slice o1 k1 c1, .slice o2 k2 c2, .slice o3 k3 c3] x) :
    Calls Tryz.prog 15 #[.agg #[.string a, .string tx, .int .i64 z, .int .i64 m, .slice o1 k1 c1, .slice o2 k2 c2, .slice o3 k3 c3, .int .i64 0, .int .i64 (-1), .int .i64 (bn : Nat)]] w fun e w' => e = .returned (.string ⟨(nodeL x ++ (oTxt 0 ++ (rTxt wLimit (-1) ++ rTxt wOffset (bn : Int)))).toArray⟩) ∧ Below w.heap.size w w' := by
  have ha := hn.view.1.1
  subst ha
  obtain ⟨W0, hW0⟩ : ∃ W0, w.alloc (Obj.cells #[.string (opE x), .string tx, .int .i64 z, .int .i64 m, .slice o1 k1 c1, .slice o2 k2 c2, .slice o3 k3 c3, .int .i64 0, .int .i64 (-1), .int .i64 (bn : Nat)] 29) = W0 := ⟨_, rfl⟩
  have hb0 : Below w.heap.size w W0 := by rw [← hW0]; exact (Below.refl _ _).alloc (Nat.le_refl _) _
  have hbx : Box10 W0 w.heap.size (.string (opE x)) (.string tx) (.int .i64 z) (.int .i64 m) (.slice o1 k1 c1) (.slice o2 k2 c2) (.slice o3 k3 c3) (.int .i64 0) (.int .i64 (-1)) (.int .i64 (bn : Nat)) := by rw [← hW0]; exact box10_new _ _ _ _ _ _ _ _ _ _ _
  have hz0 : w.heap.size < W0.heap.size := by rw [← hW0]; simp
  have hE0 := hE.below hb0
  have hn0 := hn.under hb0
  have HB := Lib.hid (fun W (h : Below W0.heap.size W0 W) => (show Box10 W w.heap.size (.string (opE x)) (.string tx) (.int .i64 z) (.int .i64 m) (.slice o1 k1 c1) (.slice o2 k2 c2) (.slice o3 k3 c3) (.int .i64 0) (.int .i64 (-1)) (.int .i64 (bn : Nat)) from (h.block _ hz0).trans hbx).reads)
  have HP := Lib.hid (pen_new hE0)
  have HW := Lib.hid hW0
  have H1 := Lib.hid (fun W => partOf_any x tx z m o1 k1 c1 o2 k2 c2 o3 k3 c3 W)
  have H2 := Lib.hid (fun W (hp : Pen W0 W0.heap.size [] W) => H W0 W P W0.heap.size [] (opE x) tx z m o1 k1 c1 o2 k2 c2 o3 k3 c3 hn0 hp (by simp only [List.length_nil, Nat.zero_add]; omega))
  have HB0 := Lib.hid hb0
  have HZ := Lib.hid hz0
  have HO := Lib.hid (otxt_size 0)
  have HITbn := Lib.hid (fun W A (hp : Pen W0 W0.heap.size A W) => itoaP bn (by omega) hp)
  have hdlbn : (⟨(decDigits bn).toArray⟩ : ByteArray).size ≤ 20 := by rw [size_arr]; have := dec_len bn 13 (by omega) (by decide); omega
  obtain ⟨DB, hDbn⟩ : ∃ J : ByteArray, (⟨(Lib.decDigits bn).toArray⟩ : ByteArray) = J := ⟨_, rfl⟩
  have HDLbn := Lib.hid (show DB.data.toList = decDigits bn by rw [← hDbn])
  rw [hDbn] at HITbn hdlbn
  clear hDbn
  generalize opE x = a at HB H1 H2 hW0 HW ⊢
  generalize tagE x = T at H1 H2
  generalize nodeL x = L at H2 hl ⊢
  have HF3 := Lib.hid (show L.length + (rTxt wOffset (bn : Int)).length ≤ 100000000000000 by have h1 := HO.out; have h3 := rtxt_size wOffset (by decide) (bn : Int) (by omega); (try simp only [List.length_append]); omega)
  have HE := Lib.hid (show (L ++ rTxt wOffset (bn : Int)) = L ++ (oTxt 0 ++ (rTxt wLimit (-1) ++ rTxt wOffset (bn : Int))) by simp [oTxt, rtxt_no])
  clear hb0 hbx hz0 hE0 hn0 hn hE hl H HW HO
  go_enter Tryz.func15, Tryz.ntmps15
  obtain ⟨⟨q0, q1, q2, q3, q4, q5, q6, q7, q8, q9⟩, -⟩ := HB.out _ HP.out.bel
  go_wp2_with fail
  refine (H1.out _).mono ?_
  rintro e w1 ⟨rfl, b1⟩
  have HP1 := Lib.hid (HP.out.below b1)
  have HH2 := Lib.hid (H2.out w1 HP1.out)
  clear b1 q0 q1 q2 q3 q4 q5 q6 q7 q8 q9
  go_wp2_with fail
  refine HH2.out.mono ?_
  rintro e w2 ⟨rfl, hp2, hk2⟩
  have HPc := Lib.hid (show Pen W0 W0.heap.size L w2 from hp2)
  obtain ⟨⟨q0, q1, q2, q3, q4, q5, q6, q7, q8, q9⟩, -⟩ := HB.out _ hp2.bel
  clear hp2 hk2
  have ibn : (0 : Int) ≤ (bn : Nat) := by omega
  go_wp2_with fail
  refine (HITbn.out _ _ HPc.out).mono ?_
  rintro e w6 ⟨rfl, hp6, hk6⟩
  clear HPc
  have HPc := Lib.hid hp6
  clear q0 q1 q2 q3 q4 q5 q6 q7 q8 q9
  obtain ⟨⟨q0, q1, q2, q3, q4, q5, q6, q7, q8, q9⟩, -⟩ := HB.out _ hp6.bel
  clear hp6 hk6
  have HS7 := Lib.hid (fun S hS => strL_any S (rTxt wOffset (bn : Int)) hS HPc.out HF3.out)
  clear HPc
  go_wp2_with fail
  refine (HS7.out _ (by rw [rtxt_yes]; simp only [ByteArray.data_append, Array.toList_append, HDLbn.out]; simp [wOffset])).mono ?_
  rintro e w7 ⟨⟨nn, rfl⟩, hp7, hk7⟩
  have HPc := Lib.hid hp7
  clear q0 q1 q2 q3 q4 q5 q6 q7 q8 q9
  obtain ⟨⟨q0, q1, q2, q3, q4, q5, q6, q7, q8, q9⟩, -⟩ := HB.out _ hp7.bel
  clear hp7 hk7
  have hps := HPc.out
  rw [HE.out] at hps
  have HS := Lib.hid (pen_str hps)
  clear hps
  go_wp2_with fail
  refine HS.out.mono ?_
  rintro e w9 ⟨rfl, b9⟩
  go_wp2
  go_ret
  exact ⟨rfl, HB0.out.trans (b9.mono (Nat.le_of_lt HZ.out))⟩

set_option maxHeartbeats 8000000 in
set_option maxRecDepth 100000 in
theorem print_010 (x : Ex) (H : WriteC x) (hl : (nodeL x).length ≤ 10000000000000) (an : Nat) (ian : an ≤ 2000) (w : World) (P : Nat → Prop) (a tx : ByteArray) (z m : Int) (o1 : Option Addr) (k1 c1 : Nat) (o2 : Option Addr) (k2 c2 : Nat) (o3 : Option Addr) (k3 c3 : Nat) (hE : Env w) (hn : Nod w P [.string a, .string tx, .int .i64 z, .int .i64 m, .slice o1 k1 c1, .slice o2 k2 c2, .slice o3 k3 c3] x) :
    Calls Tryz.prog 15 #[.agg #[.string a, .string tx, .int .i64 z, .int .i64 m, .slice o1 k1 c1, .slice o2 k2 c2, .slice o3 k3 c3, .int .i64 0, .int .i64 (an : Nat), .int .i64 (-1)]] w fun e w' => e = .returned (.string ⟨(nodeL x ++ (oTxt 0 ++ (rTxt wLimit (an : Int) ++ rTxt wOffset (-1)))).toArray⟩) ∧ Below w.heap.size w w' := by
  have ha := hn.view.1.1
  subst ha
  obtain ⟨W0, hW0⟩ : ∃ W0, w.alloc (Obj.cells #[.string (opE x), .string tx, .int .i64 z, .int .i64 m, .slice o1 k1 c1, .slice o2 k2 c2, .slice o3 k3 c3, .int .i64 0, .int .i64 (an : Nat), .int .i64 (-1)] 29) = W0 := ⟨_, rfl⟩
  have hb0 : Below w.heap.size w W0 := by rw [← hW0]; exact (Below.refl _ _).alloc (Nat.le_refl _) _
  have hbx : Box10 W0 w.heap.size (.string (opE x)) (.string tx) (.int .i64 z) (.int .i64 m) (.slice o1 k1 c1) (.slice o2 k2 c2) (.slice o3 k3 c3) (.int .i64 0) (.int .i64 (an : Nat)) (.int .i64 (-1)) := by rw [← hW0]; exact box10_new _ _ _ _ _ _ _ _ _ _ _
  have hz0 : w.heap.size < W0.heap.size := by rw [← hW0]; simp
  have hE0 := hE.below hb0
  have hn0 := hn.under hb0
  have HB := Lib.hid (fun W (h : Below W0.heap.size W0 W) => (show Box10 W w.heap.size (.string (opE x)) (.string tx) (.int .i64 z) (.int .i64 m) (.slice o1 k1 c1) (.slice o2 k2 c2) (.slice o3 k3 c3) (.int .i64 0) (.int .i64 (an : Nat)) (.int .i64 (-1)) from (h.block _ hz0).trans hbx).reads)
  have HP := Lib.hid (pen_new hE0)
  have HW := Lib.hid hW0
  have H1 := Lib.hid (fun W => partOf_any x tx z m o1 k1 c1 o2 k2 c2 o3 k3 c3 W)
  have H2 := Lib.hid (fun W (hp : Pen W0 W0.heap.size [] W) => H W0 W P W0.heap.size [] (opE x) tx z m o1 k1 c1 o2 k2 c2 o3 k3 c3 hn0 hp (by simp only [List.length_nil, Nat.zero_add]; omega))
  have HB0 := Lib.hid hb0
  have HZ := Lib.hid hz0
  have HO := Lib.hid (otxt_size 0)
  have HITan := Lib.hid (fun W A (hp : Pen W0 W0.heap.size A W) => itoaP an (by omega) hp)
  have hdlan : (⟨(decDigits an).toArray⟩ : ByteArray).size ≤ 20 := by rw [size_arr]; have := dec_len an 13 (by omega) (by decide); omega
  obtain ⟨DA, hDan⟩ : ∃ J : ByteArray, (⟨(Lib.decDigits an).toArray⟩ : ByteArray) = J := ⟨_, rfl⟩
  have HDLan := Lib.hid (show DA.data.toList = decDigits an by rw [← hDan])
  rw [hDan] at HITan hdlan
  clear hDan
  generalize opE x = a at HB H1 H2 hW0 HW ⊢
  generalize tagE x = T at H1 H2
  generalize nodeL x = L at H2 hl ⊢
  have HF2 := Lib.hid (show L.length + (rTxt wLimit (an : Int)).length ≤ 100000000000000 by have h1 := HO.out; have h2 := rtxt_size wLimit (by decide) (an : Int) (by omega); (try simp only [List.length_append]); omega)
  have HE := Lib.hid (show (L ++ rTxt wLimit (an : Int)) = L ++ (oTxt 0 ++ (rTxt wLimit (an : Int) ++ rTxt wOffset (-1))) by simp [oTxt, rtxt_no])
  clear hb0 hbx hz0 hE0 hn0 hn hE hl H HW HO
  go_enter Tryz.func15, Tryz.ntmps15
  obtain ⟨⟨q0, q1, q2, q3, q4, q5, q6, q7, q8, q9⟩, -⟩ := HB.out _ HP.out.bel
  go_wp2_with fail
  refine (H1.out _).mono ?_
  rintro e w1 ⟨rfl, b1⟩
  have HP1 := Lib.hid (HP.out.below b1)
  have HH2 := Lib.hid (H2.out w1 HP1.out)
  clear b1 q0 q1 q2 q3 q4 q5 q6 q7 q8 q9
  go_wp2_with fail
  refine HH2.out.mono ?_
  rintro e w2 ⟨rfl, hp2, hk2⟩
  have HPc := Lib.hid (show Pen W0 W0.heap.size L w2 from hp2)
  obtain ⟨⟨q0, q1, q2, q3, q4, q5, q6, q7, q8, q9⟩, -⟩ := HB.out _ hp2.bel
  clear hp2 hk2
  have ian : (0 : Int) ≤ (an : Nat) := by omega
  go_wp2_with fail
  refine (HITan.out _ _ HPc.out).mono ?_
  rintro e w4 ⟨rfl, hp4, hk4⟩
  clear HPc
  have HPc := Lib.hid hp4
  clear q0 q1 q2 q3 q4 q5 q6 q7 q8 q9
  obtain ⟨⟨q0, q1, q2, q3, q4, q5, q6, q7, q8, q9⟩, -⟩ := HB.out _ hp4.bel
  clear hp4 hk4
  have HS5 := Lib.hid (fun S hS => strL_any S (rTxt wLimit (an : Int)) hS HPc.out HF2.out)
  clear HPc
  go_wp2_with fail
  refine (HS5.out _ (by rw [rtxt_yes]; simp only [ByteArray.data_append, Array.toList_append, HDLan.out]; simp [wLimit])).mono ?_
  rintro e w5 ⟨⟨nn, rfl⟩, hp5, hk5⟩
  have HPc := Lib.hid hp5
  clear q0 q1 q2 q3 q4 q5 q6 q7 q8 q9
  obtain ⟨⟨q0, q1, q2, q3, q4, q5, q6, q7, q8, q9⟩, -⟩ := HB.out _ hp5.bel
  clear hp5 hk5
  have hps := HPc.out
  rw [HE.out] at hps
  have HS := Lib.hid (pen_str hps)
  clear hps
  go_wp2_with fail
  refine HS.out.mono ?_
  rintro e w9 ⟨rfl, b9⟩
  go_wp2
  go_ret
  exact ⟨rfl, HB0.out.trans (b9.mono (Nat.le_of_lt HZ.out))⟩

set_option maxHeartbeats 8000000 in
set_option maxRecDepth 100000 in
theorem print_011 (x : Ex) (H : WriteC x) (hl : (nodeL x).length ≤ 10000000000000) (an : Nat) (ian : an ≤ 2000) (bn : Nat) (ibn : bn ≤ 2000) (w : World) (P : Nat → Prop) (a tx : ByteArray) (z m : Int) (o1 : Option Addr) (k1 c1 : Nat) (o2 : Option Addr) (k2 c2 : Nat) (o3 : Option Addr) (k3 c3 : Nat) (hE : Env w) (hn : Nod w P [.string a, .string tx, .int .i64 z, .int .i64 m, .slice o1 k1 c1, .slice o2 k2 c2, .slice o3 k3 c3] x) :
    Calls Tryz.prog 15 #[.agg #[.string a, .string tx, .int .i64 z, .int .i64 m, .slice o1 k1 c1, .slice o2 k2 c2, .slice o3 k3 c3, .int .i64 0, .int .i64 (an : Nat), .int .i64 (bn : Nat)]] w fun e w' => e = .returned (.string ⟨(nodeL x ++ (oTxt 0 ++ (rTxt wLimit (an : Int) ++ rTxt wOffset (bn : Int)))).toArray⟩) ∧ Below w.heap.size w w' := by
  have ha := hn.view.1.1
  subst ha
  obtain ⟨W0, hW0⟩ : ∃ W0, w.alloc (Obj.cells #[.string (opE x), .string tx, .int .i64 z, .int .i64 m, .slice o1 k1 c1, .slice o2 k2 c2, .slice o3 k3 c3, .int .i64 0, .int .i64 (an : Nat), .int .i64 (bn : Nat)] 29) = W0 := ⟨_, rfl⟩
  have hb0 : Below w.heap.size w W0 := by rw [← hW0]; exact (Below.refl _ _).alloc (Nat.le_refl _) _
  have hbx : Box10 W0 w.heap.size (.string (opE x)) (.string tx) (.int .i64 z) (.int .i64 m) (.slice o1 k1 c1) (.slice o2 k2 c2) (.slice o3 k3 c3) (.int .i64 0) (.int .i64 (an : Nat)) (.int .i64 (bn : Nat)) := by rw [← hW0]; exact box10_new _ _ _ _ _ _ _ _ _ _ _
  have hz0 : w.heap.size < W0.heap.size := by rw [← hW0]; simp
  have hE0 := hE.below hb0
  have hn0 := hn.under hb0
  have HB := Lib.hid (fun W (h : Below W0.heap.size W0 W) => (show Box10 W w.heap.size (.string (opE x)) (.string tx) (.int .i64 z) (.int .i64 m) (.slice o1 k1 c1) (.slice o2 k2 c2) (.slice o3 k3 c3) (.int .i64 0) (.int .i64 (an : Nat)) (.int .i64 (bn : Nat)) from (h.block _ hz0).trans hbx).reads)
  have HP := Lib.hid (pen_new hE0)
  have HW := Lib.hid hW0
  have H1 := Lib.hid (fun W => partOf_any x tx z m o1 k1 c1 o2 k2 c2 o3 k3 c3 W)
  have H2 := Lib.hid (fun W (hp : Pen W0 W0.heap.size [] W) => H W0 W P W0.heap.size [] (opE x) tx z m o1 k1 c1 o2 k2 c2 o3 k3 c3 hn0 hp (by simp only [List.length_nil, Nat.zero_add]; omega))
  have HB0 := Lib.hid hb0
  have HZ := Lib.hid hz0
  have HO := Lib.hid (otxt_size 0)
  have HITan := Lib.hid (fun W A (hp : Pen W0 W0.heap.size A W) => itoaP an (by omega) hp)
  have hdlan : (⟨(decDigits an).toArray⟩ : ByteArray).size ≤ 20 := by rw [size_arr]; have := dec_len an 13 (by omega) (by decide); omega
  obtain ⟨DA, hDan⟩ : ∃ J : ByteArray, (⟨(Lib.decDigits an).toArray⟩ : ByteArray) = J := ⟨_, rfl⟩
  have HDLan := Lib.hid (show DA.data.toList = decDigits an by rw [← hDan])
  rw [hDan] at HITan hdlan
  clear hDan
  have HITbn := Lib.hid (fun W A (hp : Pen W0 W0.heap.size A W) => itoaP bn (by omega) hp)
  have hdlbn : (⟨(decDigits bn).toArray⟩ : ByteArray).size ≤ 20 := by rw [size_arr]; have := dec_len bn 13 (by omega) (by decide); omega
  obtain ⟨DB, hDbn⟩ : ∃ J : ByteArray, (⟨(Lib.decDigits bn).toArray⟩ : ByteArray) = J := ⟨_, rfl⟩
  have HDLbn := Lib.hid (show DB.data.toList = decDigits bn by rw [← hDbn])
  rw [hDbn] at HITbn hdlbn
  clear hDbn
  generalize opE x = a at HB H1 H2 hW0 HW ⊢
  generalize tagE x = T at H1 H2
  generalize nodeL x = L at H2 hl ⊢
  have HF2 := Lib.hid (show L.length + (rTxt wLimit (an : Int)).length ≤ 100000000000000 by have h1 := HO.out; have h2 := rtxt_size wLimit (by decide) (an : Int) (by omega); (try simp only [List.length_append]); omega)
  have HF3 := Lib.hid (show (L ++ rTxt wLimit (an : Int)).length + (rTxt wOffset (bn : Int)).length ≤ 100000000000000 by have h1 := HO.out; have h2 := rtxt_size wLimit (by decide) (an : Int) (by omega); have h3 := rtxt_size wOffset (by decide) (bn : Int) (by omega); (try simp only [List.length_append]); omega)
  have HE := Lib.hid (show ((L ++ rTxt wLimit (an : Int)) ++ rTxt wOffset (bn : Int)) = L ++ (oTxt 0 ++ (rTxt wLimit (an : Int) ++ rTxt wOffset (bn : Int))) by simp [oTxt])
  clear hb0 hbx hz0 hE0 hn0 hn hE hl H HW HO
  go_enter Tryz.func15, Tryz.ntmps15
  obtain ⟨⟨q0, q1, q2, q3, q4, q5, q6, q7, q8, q9⟩, -⟩ := HB.out _ HP.out.bel
  go_wp2_with fail
  refine (H1.out _).mono ?_
  rintro e w1 ⟨rfl, b1⟩
  have HP1 := Lib.hid (HP.out.below b1)
  have HH2 := Lib.hid (H2.out w1 HP1.out)
  clear b1 q0 q1 q2 q3 q4 q5 q6 q7 q8 q9
  go_wp2_with fail
  refine HH2.out.mono ?_
  rintro e w2 ⟨rfl, hp2, hk2⟩
  have HPc := Lib.hid (show Pen W0 W0.heap.size L w2 from hp2)
  obtain ⟨⟨q0, q1, q2, q3, q4, q5, q6, q7, q8, q9⟩, -⟩ := HB.out _ hp2.bel
  clear hp2 hk2
  have ian : (0 : Int) ≤ (an : Nat) := by omega
  go_wp2_with fail
  refine (HITan.out _ _ HPc.out).mono ?_
  rintro e w4 ⟨rfl, hp4, hk4⟩
  clear HPc
  have HPc := Lib.hid hp4
  clear q0 q1 q2 q3 q4 q5 q6 q7 q8 q9
  obtain ⟨⟨q0, q1, q2, q3, q4, q5, q6, q7, q8, q9⟩, -⟩ := HB.out _ hp4.bel
  clear hp4 hk4
  have HS5 := Lib.hid (fun S hS => strL_any S (rTxt wLimit (an : Int)) hS HPc.out HF2.out)
  clear HPc
  go_wp2_with fail
  refine (HS5.out _ (by rw [rtxt_yes]; simp only [ByteArray.data_append, Array.toList_append, HDLan.out]; simp [wLimit])).mono ?_
  rintro e w5 ⟨⟨nn, rfl⟩, hp5, hk5⟩
  have HPc := Lib.hid hp5
  clear q0 q1 q2 q3 q4 q5 q6 q7 q8 q9
  obtain ⟨⟨q0, q1, q2, q3, q4, q5, q6, q7, q8, q9⟩, -⟩ := HB.out _ hp5.bel
  clear hp5 hk5
  have ibn : (0 : Int) ≤ (bn : Nat) := by omega
  go_wp2_with fail
  refine (HITbn.out _ _ HPc.out).mono ?_
  rintro e w6 ⟨rfl, hp6, hk6⟩
  clear HPc
  have HPc := Lib.hid hp6
  clear q0 q1 q2 q3 q4 q5 q6 q7 q8 q9
  obtain ⟨⟨q0, q1, q2, q3, q4, q5, q6, q7, q8, q9⟩, -⟩ := HB.out _ hp6.bel
  clear hp6 hk6
  have HS7 := Lib.hid (fun S hS => strL_any S (rTxt wOffset (bn : Int)) hS HPc.out HF3.out)
  clear HPc
  go_wp2_with fail
  refine (HS7.out _ (by rw [rtxt_yes]; simp only [ByteArray.data_append, Array.toList_append, HDLbn.out]; simp [wOffset])).mono ?_
  rintro e w7 ⟨⟨nn, rfl⟩, hp7, hk7⟩
  have HPc := Lib.hid hp7
  clear q0 q1 q2 q3 q4 q5 q6 q7 q8 q9
  obtain ⟨⟨q0, q1, q2, q3, q4, q5, q6, q7, q8, q9⟩, -⟩ := HB.out _ hp7.bel
  clear hp7 hk7
  have hps := HPc.out
  rw [HE.out] at hps
  have HS := Lib.hid (pen_str hps)
  clear hps
  go_wp2_with fail
  refine HS.out.mono ?_
  rintro e w9 ⟨rfl, b9⟩
  go_wp2
  go_ret
  exact ⟨rfl, HB0.out.trans (b9.mono (Nat.le_of_lt HZ.out))⟩

set_option maxHeartbeats 8000000 in
set_option maxRecDepth 100000 in
theorem print_100 (x : Ex) (H : WriteC x) (hl : (nodeL x).length ≤ 10000000000000) (w : World) (P : Nat → Prop) (a tx : ByteArray) (z m : Int) (o1 : Option Addr) (k1 c1 : Nat) (o2 : Option Addr) (k2 c2 : Nat) (o3 : Option Addr) (k3 c3 : Nat) (hE : Env w) (hn : Nod w P [.string a, .string tx, .int .i64 z, .int .i64 m, .slice o1 k1 c1, .slice o2 k2 c2, .slice o3 k3 c3] x) :
    Calls Tryz.prog 15 #[.agg #[.string a, .string tx, .int .i64 z, .int .i64 m, .slice o1 k1 c1, .slice o2 k2 c2, .slice o3 k3 c3, .int .i64 1, .int .i64 (-1), .int .i64 (-1)]] w fun e w' => e = .returned (.string ⟨(nodeL x ++ (oTxt 1 ++ (rTxt wLimit (-1) ++ rTxt wOffset (-1)))).toArray⟩) ∧ Below w.heap.size w w' := by
  have ha := hn.view.1.1
  subst ha
  obtain ⟨W0, hW0⟩ : ∃ W0, w.alloc (Obj.cells #[.string (opE x), .string tx, .int .i64 z, .int .i64 m, .slice o1 k1 c1, .slice o2 k2 c2, .slice o3 k3 c3, .int .i64 1, .int .i64 (-1), .int .i64 (-1)] 29) = W0 := ⟨_, rfl⟩
  have hb0 : Below w.heap.size w W0 := by rw [← hW0]; exact (Below.refl _ _).alloc (Nat.le_refl _) _
  have hbx : Box10 W0 w.heap.size (.string (opE x)) (.string tx) (.int .i64 z) (.int .i64 m) (.slice o1 k1 c1) (.slice o2 k2 c2) (.slice o3 k3 c3) (.int .i64 1) (.int .i64 (-1)) (.int .i64 (-1)) := by rw [← hW0]; exact box10_new _ _ _ _ _ _ _ _ _ _ _
  have hz0 : w.heap.size < W0.heap.size := by rw [← hW0]; simp
  have hE0 := hE.below hb0
  have hn0 := hn.under hb0
  have HB := Lib.hid (fun W (h : Below W0.heap.size W0 W) => (show Box10 W w.heap.size (.string (opE x)) (.string tx) (.int .i64 z) (.int .i64 m) (.slice o1 k1 c1) (.slice o2 k2 c2) (.slice o3 k3 c3) (.int .i64 1) (.int .i64 (-1)) (.int .i64 (-1)) from (h.block _ hz0).trans hbx).reads)
  have HP := Lib.hid (pen_new hE0)
  have HW := Lib.hid hW0
  have H1 := Lib.hid (fun W => partOf_any x tx z m o1 k1 c1 o2 k2 c2 o3 k3 c3 W)
  have H2 := Lib.hid (fun W (hp : Pen W0 W0.heap.size [] W) => H W0 W P W0.heap.size [] (opE x) tx z m o1 k1 c1 o2 k2 c2 o3 k3 c3 hn0 hp (by simp only [List.length_nil, Nat.zero_add]; omega))
  have HB0 := Lib.hid hb0
  have HZ := Lib.hid hz0
  have HO := Lib.hid (otxt_size 1)
  generalize opE x = a at HB H1 H2 hW0 HW ⊢
  generalize tagE x = T at H1 H2
  generalize nodeL x = L at H2 hl ⊢
  have HF1 := Lib.hid (show L.length + (oTxt 1).length ≤ 100000000000000 by have := HO.out; omega)
  have HE := Lib.hid (show (L ++ oTxt 1) = L ++ (oTxt 1 ++ (rTxt wLimit (-1) ++ rTxt wOffset (-1))) by simp [rtxt_no])
  clear hb0 hbx hz0 hE0 hn0 hn hE hl H HW HO
  go_enter Tryz.func15, Tryz.ntmps15
  obtain ⟨⟨q0, q1, q2, q3, q4, q5, q6, q7, q8, q9⟩, -⟩ := HB.out _ HP.out.bel
  go_wp2_with fail
  refine (H1.out _).mono ?_
  rintro e w1 ⟨rfl, b1⟩
  have HP1 := Lib.hid (HP.out.below b1)
  have HH2 := Lib.hid (H2.out w1 HP1.out)
  clear b1 q0 q1 q2 q3 q4 q5 q6 q7 q8 q9
  go_wp2_with fail
  refine HH2.out.mono ?_
  rintro e w2 ⟨rfl, hp2, hk2⟩
  have HPc := Lib.hid (show Pen W0 W0.heap.size L w2 from hp2)
  obtain ⟨⟨q0, q1, q2, q3, q4, q5, q6, q7, q8, q9⟩, -⟩ := HB.out _ hp2.bel
  clear hp2 hk2
  have HS3 := Lib.hid (fun S hS => strL_any S (oTxt 1) hS HPc.out HF1.out)
  clear HPc
  go_wp2_with fail
  refine (HS3.out _ (by decide)).mono ?_
  rintro e w3 ⟨⟨nn, rfl⟩, hp3, hk3⟩
  have HPc := Lib.hid hp3
  clear q0 q1 q2 q3 q4 q5 q6 q7 q8 q9
  obtain ⟨⟨q0, q1, q2, q3, q4, q5, q6, q7, q8, q9⟩, -⟩ := HB.out _ hp3.bel
  clear hp3 hk3
  have hps := HPc.out
  rw [HE.out] at hps
  have HS := Lib.hid (pen_str hps)
  clear hps
  go_wp2_with fail
  refine HS.out.mono ?_
  rintro e w9 ⟨rfl, b9⟩
  go_wp2
  go_ret
  exact ⟨rfl, HB0.out.trans (b9.mono (Nat.le_of_lt HZ.out))⟩

set_option maxHeartbeats 8000000 in
set_option maxRecDepth 100000 in
theorem print_101 (x : Ex) (H : WriteC x) (hl : (nodeL x).length ≤ 10000000000000) (bn : Nat) (ibn : bn ≤ 2000) (w : World) (P : Nat → Prop) (a tx : ByteArray) (z m : Int) (o1 : Option Addr) (k1 c1 : Nat) (o2 : Option Addr) (k2 c2 : Nat) (o3 : Option Addr) (k3 c3 : Nat) (hE : Env w) (hn : Nod w P [.string a, .string tx, .int .i64 z, .int .i64 m, .slice o1 k1 c1, .slice o2 k2 c2, .slice o3 k3 c3] x) :
    Calls Tryz.prog 15 #[.agg #[.string a, .string tx, .int .i64 z, .int .i64 m, .slice o1 k1 c1, .slice o2 k2 c2, .slice o3 k3 c3, .int .i64 1, .int .i64 (-1), .int .i64 (bn : Nat)]] w fun e w' => e = .returned (.string ⟨(nodeL x ++ (oTxt 1 ++ (rTxt wLimit (-1) ++ rTxt wOffset (bn : Int)))).toArray⟩) ∧ Below w.heap.size w w' := by
  have ha := hn.view.1.1
  subst ha
  obtain ⟨W0, hW0⟩ : ∃ W0, w.alloc (Obj.cells #[.string (opE x), .string tx, .int .i64 z, .int .i64 m, .slice o1 k1 c1, .slice o2 k2 c2, .slice o3 k3 c3, .int .i64 1, .int .i64 (-1), .int .i64 (bn : Nat)] 29) = W0 := ⟨_, rfl⟩
  have hb0 : Below w.heap.size w W0 := by rw [← hW0]; exact (Below.refl _ _).alloc (Nat.le_refl _) _
  have hbx : Box10 W0 w.heap.size (.string (opE x)) (.string tx) (.int .i64 z) (.int .i64 m) (.slice o1 k1 c1) (.slice o2 k2 c2) (.slice o3 k3 c3) (.int .i64 1) (.int .i64 (-1)) (.int .i64 (bn : Nat)) := by rw [← hW0]; exact box10_new _ _ _ _ _ _ _ _ _ _ _
  have hz0 : w.heap.size < W0.heap.size := by rw [← hW0]; simp
  have hE0 := hE.below hb0
  have hn0 := hn.under hb0
  have HB := Lib.hid (fun W (h : Below W0.heap.size W0 W) => (show Box10 W w.heap.size (.string (opE x)) (.string tx) (.int .i64 z) (.int .i64 m) (.slice o1 k1 c1) (.slice o2 k2 c2) (.slice o3 k3 c3) (.int .i64 1) (.int .i64 (-1)) (.int .i64 (bn : Nat)) from (h.block _ hz0).trans hbx).reads)
  have HP := Lib.hid (pen_new hE0)
  have HW := Lib.hid hW0
  have H1 := Lib.hid (fun W => partOf_any x tx z m o1 k1 c1 o2 k2 c2 o3 k3 c3 W)
  have H2 := Lib.hid (fun W (hp : Pen W0 W0.heap.size [] W) => H W0 W P W0.heap.size [] (opE x) tx z m o1 k1 c1 o2 k2 c2 o3 k3 c3 hn0 hp (by simp only [List.length_nil, Nat.zero_add]; omega))
  have HB0 := Lib.hid hb0
  have HZ := Lib.hid hz0
  have HO := Lib.hid (otxt_size 1)
  have HITbn := Lib.hid (fun W A (hp : Pen W0 W0.heap.size A W) => itoaP bn (by omega) hp)
  have hdlbn : (⟨(decDigits bn).toArray⟩ : ByteArray).size ≤ 20 := by rw [size_arr]; have := dec_len bn 13 (by omega) (by decide); omega
  obtain ⟨DB, hDbn⟩ : ∃ J : ByteArray, (⟨(Lib.decDigits bn).toArray⟩ : ByteArray) = J := ⟨_, rfl⟩
  have HDLbn := Lib.hid (show DB.data.toList = decDigits bn by rw [← hDbn])
  rw [hDbn] at HITbn hdlbn
  clear hDbn
  generalize opE x = a at HB H1 H2 hW0 HW ⊢
  generalize tagE x = T at H1 H2
  generalize nodeL x = L at H2 hl ⊢
  have HF1 := Lib.hid (show L.length + (oTxt 1).length ≤ 100000000000000 by have := HO.out; omega)
  have HF3 := Lib.hid (show (L ++ oTxt 1).length + (rTxt wOffset (bn : Int)).length ≤ 100000000000000 by have h1 := HO.out; have h3 := rtxt_size wOffset (by decide) (bn : Int) (by omega); (try simp only [List.length_append]); omega)
  have HE := Lib.hid (show ((L ++ oTxt 1) ++ rTxt wOffset (bn : Int)) = L ++ (oTxt 1 ++ (rTxt wLimit (-1) ++ rTxt wOffset (bn : Int))) by simp [rtxt_no])
  clear hb0 hbx hz0 hE0 hn0 hn hE hl H HW HO
  go_enter Tryz.func15, Tryz.ntmps15
  obtain ⟨⟨q0, q1, q2, q3, q4, q5, q6, q7, q8, q9⟩, -⟩ := HB.out _ HP.out.bel
  go_wp2_with fail
  refine (H1.out _).mono ?_
  rintro e w1 ⟨rfl, b1⟩
  have HP1 := Lib.hid (HP.out.below b1)
  have HH2 := Lib.hid (H2.out w1 HP1.out)
  clear b1 q0 q1 q2 q3 q4 q5 q6 q7 q8 q9
  go_wp2_with fail
  refine HH2.out.mono ?_
  rintro e w2 ⟨rfl, hp2, hk2⟩
  have HPc := Lib.hid (show Pen W0 W0.heap.size L w2 from hp2)
  obtain ⟨⟨q0, q1, q2, q3, q4, q5, q6, q7, q8, q9⟩, -⟩ := HB.out _ hp2.bel
  clear hp2 hk2
  have HS3 := Lib.hid (fun S hS => strL_any S (oTxt 1) hS HPc.out HF1.out)
  clear HPc
  go_wp2_with fail
  refine (HS3.out _ (by decide)).mono ?_
  rintro e w3 ⟨⟨nn, rfl⟩, hp3, hk3⟩
  have HPc := Lib.hid hp3
  clear q0 q1 q2 q3 q4 q5 q6 q7 q8 q9
  obtain ⟨⟨q0, q1, q2, q3, q4, q5, q6, q7, q8, q9⟩, -⟩ := HB.out _ hp3.bel
  clear hp3 hk3
  have ibn : (0 : Int) ≤ (bn : Nat) := by omega
  go_wp2_with fail
  refine (HITbn.out _ _ HPc.out).mono ?_
  rintro e w6 ⟨rfl, hp6, hk6⟩
  clear HPc
  have HPc := Lib.hid hp6
  clear q0 q1 q2 q3 q4 q5 q6 q7 q8 q9
  obtain ⟨⟨q0, q1, q2, q3, q4, q5, q6, q7, q8, q9⟩, -⟩ := HB.out _ hp6.bel
  clear hp6 hk6
  have HS7 := Lib.hid (fun S hS => strL_any S (rTxt wOffset (bn : Int)) hS HPc.out HF3.out)
  clear HPc
  go_wp2_with fail
  refine (HS7.out _ (by rw [rtxt_yes]; simp only [ByteArray.data_append, Array.toList_append, HDLbn.out]; simp [wOffset])).mono ?_
  rintro e w7 ⟨⟨nn, rfl⟩, hp7, hk7⟩
  have HPc := Lib.hid hp7
  clear q0 q1 q2 q3 q4 q5 q6 q7 q8 q9
  obtain ⟨⟨q0, q1, q2, q3, q4, q5, q6, q7, q8, q9⟩, -⟩ := HB.out _ hp7.bel
  clear hp7 hk7
  have hps := HPc.out
  rw [HE.out] at hps
  have HS := Lib.hid (pen_str hps)
  clear hps
  go_wp2_with fail
  refine HS.out.mono ?_
  rintro e w9 ⟨rfl, b9⟩
  go_wp2
  go_ret
  exact ⟨rfl, HB0.out.trans (b9.mono (Nat.le_of_lt HZ.out))⟩

set_option maxHeartbeats 8000000 in
set_option maxRecDepth 100000 in
theorem print_110 (x : Ex) (H : WriteC x) (hl : (nodeL x).length ≤ 10000000000000) (an : Nat) (ian : an ≤ 2000) (w : World) (P : Nat → Prop) (a tx : ByteArray) (z m : Int) (o1 : Option Addr) (k1 c1 : Nat) (o2 : Option Addr) (k2 c2 : Nat) (o3 : Option Addr) (k3 c3 : Nat) (hE : Env w) (hn : Nod w P [.string a, .string tx, .int .i64 z, .int .i64 m, .slice o1 k1 c1, .slice o2 k2 c2, .slice o3 k3 c3] x) :
    Calls Tryz.prog 15 #[.agg #[.string a, .string tx, .int .i64 z, .int .i64 m, .slice o1 k1 c1, .slice o2 k2 c2, .slice o3 k3 c3, .int .i64 1, .int .i64 (an : Nat), .int .i64 (-1)]] w fun e w' => e = .returned (.string ⟨(nodeL x ++ (oTxt 1 ++ (rTxt wLimit (an : Int) ++ rTxt wOffset (-1)))).toArray⟩) ∧ Below w.heap.size w w' := by
  have ha := hn.view.1.1
  subst ha
  obtain ⟨W0, hW0⟩ : ∃ W0, w.alloc (Obj.cells #[.string (opE x), .string tx, .int .i64 z, .int .i64 m, .slice o1 k1 c1, .slice o2 k2 c2, .slice o3 k3 c3, .int .i64 1, .int .i64 (an : Nat), .int .i64 (-1)] 29) = W0 := ⟨_, rfl⟩
  have hb0 : Below w.heap.size w W0 := by rw [← hW0]; exact (Below.refl _ _).alloc (Nat.le_refl _) _
  have hbx : Box10 W0 w.heap.size (.string (opE x)) (.string tx) (.int .i64 z) (.int .i64 m) (.slice o1 k1 c1) (.slice o2 k2 c2) (.slice o3 k3 c3) (.int .i64 1) (.int .i64 (an : Nat)) (.int .i64 (-1)) := by rw [← hW0]; exact box10_new _ _ _ _ _ _ _ _ _ _ _
  have hz0 : w.heap.size < W0.heap.size := by rw [← hW0]; simp
  have hE0 := hE.below hb0
  have hn0 := hn.under hb0
  have HB := Lib.hid (fun W (h : Below W0.heap.size W0 W) => (show Box10 W w.heap.size (.string (opE x)) (.string tx) (.int .i64 z) (.int .i64 m) (.slice o1 k1 c1) (.slice o2 k2 c2) (.slice o3 k3 c3) (.int .i64 1) (.int .i64 (an : Nat)) (.int .i64 (-1)) from (h.block _ hz0).trans hbx).reads)
  have HP := Lib.hid (pen_new hE0)
  have HW := Lib.hid hW0
  have H1 := Lib.hid (fun W => partOf_any x tx z m o1 k1 c1 o2 k2 c2 o3 k3 c3 W)
  have H2 := Lib.hid (fun W (hp : Pen W0 W0.heap.size [] W) => H W0 W P W0.heap.size [] (opE x) tx z m o1 k1 c1 o2 k2 c2 o3 k3 c3 hn0 hp (by simp only [List.length_nil, Nat.zero_add]; omega))
  have HB0 := Lib.hid hb0
  have HZ := Lib.hid hz0
  have HO := Lib.hid (otxt_size 1)
  have HITan := Lib.hid (fun W A (hp : Pen W0 W0.heap.size A W) => itoaP an (by omega) hp)
  have hdlan : (⟨(decDigits an).toArray⟩ : ByteArray).size ≤ 20 := by rw [size_arr]; have := dec_len an 13 (by omega) (by decide); omega
  obtain ⟨DA, hDan⟩ : ∃ J : ByteArray, (⟨(Lib.decDigits an).toArray⟩ : ByteArray) = J := ⟨_, rfl⟩
  have HDLan := Lib.hid (show DA.data.toList = decDigits an by rw [← hDan])
  rw [hDan] at HITan hdlan
  clear hDan
  generalize opE x = a at HB H1 H2 hW0 HW ⊢
  generalize tagE x = T at H1 H2
  generalize nodeL x = L at H2 hl ⊢
  have HF1 := Lib.hid (show L.length + (oTxt 1).length ≤ 100000000000000 by have := HO.out; omega)
  have HF2 := Lib.hid (show (L ++ oTxt 1).length + (rTxt wLimit (an : Int)).length ≤ 100000000000000 by have h1 := HO.out; have h2 := rtxt_size wLimit (by decide) (an : Int) (by omega); (try simp only [List.length_append]); omega)
  have HE := Lib.hid (show ((L ++ oTxt 1) ++ rTxt wLimit (an : Int)) = L ++ (oTxt 1 ++ (rTxt wLimit (an : Int) ++ rTxt wOffset (-1))) by simp [rtxt_no])
  clear hb0 hbx hz0 hE0 hn0 hn hE hl H HW HO
  go_enter Tryz.func15, Tryz.ntmps15
  obtain ⟨⟨q0, q1, q2, q3, q4, q5, q6, q7, q8, q9⟩, -⟩ := HB.out _ HP.out.bel
  go_wp2_with fail
  refine (H1.out _).mono ?_
  rintro e w1 ⟨rfl, b1⟩
  have HP1 := Lib.hid (HP.out.below b1)
  have HH2 := Lib.hid (H2.out w1 HP1.out)
  clear b1 q0 q1 q2 q3 q4 q5 q6 q7 q8 q9
  go_wp2_with fail
  refine HH2.out.mono ?_
  rintro e w2 ⟨rfl, hp2, hk2⟩
  have HPc := Lib.hid (show Pen W0 W0.heap.size L w2 from hp2)
  obtain ⟨⟨q0, q1, q2, q3, q4, q5, q6, q7, q8, q9⟩, -⟩ := HB.out _ hp2.bel
  clear hp2 hk2
  have HS3 := Lib.hid (fun S hS => strL_any S (oTxt 1) hS HPc.out HF1.out)
  clear HPc
  go_wp2_with fail
  refine (HS3.out _ (by decide)).mono ?_
  rintro e w3 ⟨⟨nn, rfl⟩, hp3, hk3⟩
  have HPc := Lib.hid hp3
  clear q0 q1 q2 q3 q4 q5 q6 q7 q8 q9
  obtain ⟨⟨q0, q1, q2, q3, q4, q5, q6, q7, q8, q9⟩, -⟩ := HB.out _ hp3.bel
  clear hp3 hk3
  have ian : (0 : Int) ≤ (an : Nat) := by omega
  go_wp2_with fail
  refine (HITan.out _ _ HPc.out).mono ?_
  rintro e w4 ⟨rfl, hp4, hk4⟩
  clear HPc
  have HPc := Lib.hid hp4
  clear q0 q1 q2 q3 q4 q5 q6 q7 q8 q9
  obtain ⟨⟨q0, q1, q2, q3, q4, q5, q6, q7, q8, q9⟩, -⟩ := HB.out _ hp4.bel
  clear hp4 hk4
  have HS5 := Lib.hid (fun S hS => strL_any S (rTxt wLimit (an : Int)) hS HPc.out HF2.out)
  clear HPc
  go_wp2_with fail
  refine (HS5.out _ (by rw [rtxt_yes]; simp only [ByteArray.data_append, Array.toList_append, HDLan.out]; simp [wLimit])).mono ?_
  rintro e w5 ⟨⟨nn, rfl⟩, hp5, hk5⟩
  have HPc := Lib.hid hp5
  clear q0 q1 q2 q3 q4 q5 q6 q7 q8 q9
  obtain ⟨⟨q0, q1, q2, q3, q4, q5, q6, q7, q8, q9⟩, -⟩ := HB.out _ hp5.bel
  clear hp5 hk5
  have hps := HPc.out
  rw [HE.out] at hps
  have HS := Lib.hid (pen_str hps)
  clear hps
  go_wp2_with fail
  refine HS.out.mono ?_
  rintro e w9 ⟨rfl, b9⟩
  go_wp2
  go_ret
  exact ⟨rfl, HB0.out.trans (b9.mono (Nat.le_of_lt HZ.out))⟩

set_option maxHeartbeats 8000000 in
set_option maxRecDepth 100000 in
theorem print_111 (x : Ex) (H : WriteC x) (hl : (nodeL x).length ≤ 10000000000000) (an : Nat) (ian : an ≤ 2000) (bn : Nat) (ibn : bn ≤ 2000) (w : World) (P : Nat → Prop) (a tx : ByteArray) (z m : Int) (o1 : Option Addr) (k1 c1 : Nat) (o2 : Option Addr) (k2 c2 : Nat) (o3 : Option Addr) (k3 c3 : Nat) (hE : Env w) (hn : Nod w P [.string a, .string tx, .int .i64 z, .int .i64 m, .slice o1 k1 c1, .slice o2 k2 c2, .slice o3 k3 c3] x) :
    Calls Tryz.prog 15 #[.agg #[.string a, .string tx, .int .i64 z, .int .i64 m, .slice o1 k1 c1, .slice o2 k2 c2, .slice o3 k3 c3, .int .i64 1, .int .i64 (an : Nat), .int .i64 (bn : Nat)]] w fun e w' => e = .returned (.string ⟨(nodeL x ++ (oTxt 1 ++ (rTxt wLimit (an : Int) ++ rTxt wOffset (bn : Int)))).toArray⟩) ∧ Below w.heap.size w w' := by
  have ha := hn.view.1.1
  subst ha
  obtain ⟨W0, hW0⟩ : ∃ W0, w.alloc (Obj.cells #[.string (opE x), .string tx, .int .i64 z, .int .i64 m, .slice o1 k1 c1, .slice o2 k2 c2, .slice o3 k3 c3, .int .i64 1, .int .i64 (an : Nat), .int .i64 (bn : Nat)] 29) = W0 := ⟨_, rfl⟩
  have hb0 : Below w.heap.size w W0 := by rw [← hW0]; exact (Below.refl _ _).alloc (Nat.le_refl _) _
  have hbx : Box10 W0 w.heap.size (.string (opE x)) (.string tx) (.int .i64 z) (.int .i64 m) (.slice o1 k1 c1) (.slice o2 k2 c2) (.slice o3 k3 c3) (.int .i64 1) (.int .i64 (an : Nat)) (.int .i64 (bn : Nat)) := by rw [← hW0]; exact box10_new _ _ _ _ _ _ _ _ _ _ _
  have hz0 : w.heap.size < W0.heap.size := by rw [← hW0]; simp
  have hE0 := hE.below hb0
  have hn0 := hn.under hb0
  have HB := Lib.hid (fun W (h : Below W0.heap.size W0 W) => (show Box10 W w.heap.size (.string (opE x)) (.string tx) (.int .i64 z) (.int .i64 m) (.slice o1 k1 c1) (.slice o2 k2 c2) (.slice o3 k3 c3) (.int .i64 1) (.int .i64 (an : Nat)) (.int .i64 (bn : Nat)) from (h.block _ hz0).trans hbx).reads)
  have HP := Lib.hid (pen_new hE0)
  have HW := Lib.hid hW0
  have H1 := Lib.hid (fun W => partOf_any x tx z m o1 k1 c1 o2 k2 c2 o3 k3 c3 W)
  have H2 := Lib.hid (fun W (hp : Pen W0 W0.heap.size [] W) => H W0 W P W0.heap.size [] (opE x) tx z m o1 k1 c1 o2 k2 c2 o3 k3 c3 hn0 hp (by simp only [List.length_nil, Nat.zero_add]; omega))
  have HB0 := Lib.hid hb0
  have HZ := Lib.hid hz0
  have HO := Lib.hid (otxt_size 1)
  have HITan := Lib.hid (fun W A (hp : Pen W0 W0.heap.size A W) => itoaP an (by omega) hp)
  have hdlan : (⟨(decDigits an).toArray⟩ : ByteArray).size ≤ 20 := by rw [size_arr]; have := dec_len an 13 (by omega) (by decide); omega
  obtain ⟨DA, hDan⟩ : ∃ J : ByteArray, (⟨(Lib.decDigits an).toArray⟩ : ByteArray) = J := ⟨_, rfl⟩
  have HDLan := Lib.hid (show DA.data.toList = decDigits an by rw [← hDan])
  rw [hDan] at HITan hdlan
  clear hDan
  have HITbn := Lib.hid (fun W A (hp : Pen W0 W0.heap.size A W) => itoaP bn (by omega) hp)
  have hdlbn : (⟨(decDigits bn).toArray⟩ : ByteArray).size ≤ 20 := by rw [size_arr]; have := dec_len bn 13 (by omega) (by decide); omega
  obtain ⟨DB, hDbn⟩ : ∃ J : ByteArray, (⟨(Lib.decDigits bn).toArray⟩ : ByteArray) = J := ⟨_, rfl⟩
  have HDLbn := Lib.hid (show DB.data.toList = decDigits bn by rw [← hDbn])
  rw [hDbn] at HITbn hdlbn
  clear hDbn
  generalize opE x = a at HB H1 H2 hW0 HW ⊢
  generalize tagE x = T at H1 H2
  generalize nodeL x = L at H2 hl ⊢
  have HF1 := Lib.hid (show L.length + (oTxt 1).length ≤ 100000000000000 by have := HO.out; omega)
  have HF2 := Lib.hid (show (L ++ oTxt 1).length + (rTxt wLimit (an : Int)).length ≤ 100000000000000 by have h1 := HO.out; have h2 := rtxt_size wLimit (by decide) (an : Int) (by omega); (try simp only [List.length_append]); omega)
  have HF3 := Lib.hid (show ((L ++ oTxt 1) ++ rTxt wLimit (an : Int)).length + (rTxt wOffset (bn : Int)).length ≤ 100000000000000 by have h1 := HO.out; have h2 := rtxt_size wLimit (by decide) (an : Int) (by omega); have h3 := rtxt_size wOffset (by decide) (bn : Int) (by omega); (try simp only [List.length_append]); omega)
  have HE := Lib.hid (show (((L ++ oTxt 1) ++ rTxt wLimit (an : Int)) ++ rTxt wOffset (bn : Int)) = L ++ (oTxt 1 ++ (rTxt wLimit (an : Int) ++ rTxt wOffset (bn : Int))) by simp)
  clear hb0 hbx hz0 hE0 hn0 hn hE hl H HW HO
  go_enter Tryz.func15, Tryz.ntmps15
  obtain ⟨⟨q0, q1, q2, q3, q4, q5, q6, q7, q8, q9⟩, -⟩ := HB.out _ HP.out.bel
  go_wp2_with fail
  refine (H1.out _).mono ?_
  rintro e w1 ⟨rfl, b1⟩
  have HP1 := Lib.hid (HP.out.below b1)
  have HH2 := Lib.hid (H2.out w1 HP1.out)
  clear b1 q0 q1 q2 q3 q4 q5 q6 q7 q8 q9
  go_wp2_with fail
  refine HH2.out.mono ?_
  rintro e w2 ⟨rfl, hp2, hk2⟩
  have HPc := Lib.hid (show Pen W0 W0.heap.size L w2 from hp2)
  obtain ⟨⟨q0, q1, q2, q3, q4, q5, q6, q7, q8, q9⟩, -⟩ := HB.out _ hp2.bel
  clear hp2 hk2
  have HS3 := Lib.hid (fun S hS => strL_any S (oTxt 1) hS HPc.out HF1.out)
  clear HPc
  go_wp2_with fail
  refine (HS3.out _ (by decide)).mono ?_
  rintro e w3 ⟨⟨nn, rfl⟩, hp3, hk3⟩
  have HPc := Lib.hid hp3
  clear q0 q1 q2 q3 q4 q5 q6 q7 q8 q9
  obtain ⟨⟨q0, q1, q2, q3, q4, q5, q6, q7, q8, q9⟩, -⟩ := HB.out _ hp3.bel
  clear hp3 hk3
  have ian : (0 : Int) ≤ (an : Nat) := by omega
  go_wp2_with fail
  refine (HITan.out _ _ HPc.out).mono ?_
  rintro e w4 ⟨rfl, hp4, hk4⟩
  clear HPc
  have HPc := Lib.hid hp4
  clear q0 q1 q2 q3 q4 q5 q6 q7 q8 q9
  obtain ⟨⟨q0, q1, q2, q3, q4, q5, q6, q7, q8, q9⟩, -⟩ := HB.out _ hp4.bel
  clear hp4 hk4
  have HS5 := Lib.hid (fun S hS => strL_any S (rTxt wLimit (an : Int)) hS HPc.out HF2.out)
  clear HPc
  go_wp2_with fail
  refine (HS5.out _ (by rw [rtxt_yes]; simp only [ByteArray.data_append, Array.toList_append, HDLan.out]; simp [wLimit])).mono ?_
  rintro e w5 ⟨⟨nn, rfl⟩, hp5, hk5⟩
  have HPc := Lib.hid hp5
  clear q0 q1 q2 q3 q4 q5 q6 q7 q8 q9
  obtain ⟨⟨q0, q1, q2, q3, q4, q5, q6, q7, q8, q9⟩, -⟩ := HB.out _ hp5.bel
  clear hp5 hk5
  have ibn : (0 : Int) ≤ (bn : Nat) := by omega
  go_wp2_with fail
  refine (HITbn.out _ _ HPc.out).mono ?_
  rintro e w6 ⟨rfl, hp6, hk6⟩
  clear HPc
  have HPc := Lib.hid hp6
  clear q0 q1 q2 q3 q4 q5 q6 q7 q8 q9
  obtain ⟨⟨q0, q1, q2, q3, q4, q5, q6, q7, q8, q9⟩, -⟩ := HB.out _ hp6.bel
  clear hp6 hk6
  have HS7 := Lib.hid (fun S hS => strL_any S (rTxt wOffset (bn : Int)) hS HPc.out HF3.out)
  clear HPc
  go_wp2_with fail
  refine (HS7.out _ (by rw [rtxt_yes]; simp only [ByteArray.data_append, Array.toList_append, HDLbn.out]; simp [wOffset])).mono ?_
  rintro e w7 ⟨⟨nn, rfl⟩, hp7, hk7⟩
  have HPc := Lib.hid hp7
  clear q0 q1 q2 q3 q4 q5 q6 q7 q8 q9
  obtain ⟨⟨q0, q1, q2, q3, q4, q5, q6, q7, q8, q9⟩, -⟩ := HB.out _ hp7.bel
  clear hp7 hk7
  have hps := HPc.out
  rw [HE.out] at hps
  have HS := Lib.hid (pen_str hps)
  clear hps
  go_wp2_with fail
  refine HS.out.mono ?_
  rintro e w9 ⟨rfl, b9⟩
  go_wp2
  go_ret
  exact ⟨rfl, HB0.out.trans (b9.mono (Nat.le_of_lt HZ.out))⟩

set_option maxHeartbeats 8000000 in
set_option maxRecDepth 100000 in
theorem print_200 (x : Ex) (H : WriteC x) (hl : (nodeL x).length ≤ 10000000000000) (w : World) (P : Nat → Prop) (a tx : ByteArray) (z m : Int) (o1 : Option Addr) (k1 c1 : Nat) (o2 : Option Addr) (k2 c2 : Nat) (o3 : Option Addr) (k3 c3 : Nat) (hE : Env w) (hn : Nod w P [.string a, .string tx, .int .i64 z, .int .i64 m, .slice o1 k1 c1, .slice o2 k2 c2, .slice o3 k3 c3] x) :
    Calls Tryz.prog 15 #[.agg #[.string a, .string tx, .int .i64 z, .int .i64 m, .slice o1 k1 c1, .slice o2 k2 c2, .slice o3 k3 c3, .int .i64 2, .int .i64 (-1), .int .i64 (-1)]] w fun e w' => e = .returned (.string ⟨(nodeL x ++ (oTxt 2 ++ (rTxt wLimit (-1) ++ rTxt wOffset (-1)))).toArray⟩) ∧ Below w.heap.size w w' := by
  have ha := hn.view.1.1
  subst ha
  obtain ⟨W0, hW0⟩ : ∃ W0, w.alloc (Obj.cells #[.string (opE x), .string tx, .int .i64 z, .int .i64 m, .slice o1 k1 c1, .slice o2 k2 c2, .slice o3 k3 c3, .int .i64 2, .int .i64 (-1), .int .i64 (-1)] 29) = W0 := ⟨_, rfl⟩
  have hb0 : Below w.heap.size w W0 := by rw [← hW0]; exact (Below.refl _ _).alloc (Nat.le_refl _) _
  have hbx : Box10 W0 w.heap.size (.string (opE x)) (.string tx) (.int .i64 z) (.int .i64 m) (.slice o1 k1 c1) (.slice o2 k2 c2) (.slice o3 k3 c3) (.int .i64 2) (.int .i64 (-1)) (.int .i64 (-1)) := by rw [← hW0]; exact box10_new _ _ _ _ _ _ _ _ _ _ _
  have hz0 : w.heap.size < W0.heap.size := by rw [← hW0]; simp
  have hE0 := hE.below hb0
  have hn0 := hn.under hb0
  have HB := Lib.hid (fun W (h : Below W0.heap.size W0 W) => (show Box10 W w.heap.size (.string (opE x)) (.string tx) (.int .i64 z) (.int .i64 m) (.slice o1 k1 c1) (.slice o2 k2 c2) (.slice o3 k3 c3) (.int .i64 2) (.int .i64 (-1)) (.int .i64 (-1)) from (h.block _ hz0).trans hbx).reads)
  have HP := Lib.hid (pen_new hE0)
  have HW := Lib.hid hW0
  have H1 := Lib.hid (fun W => partOf_any x tx z m o1 k1 c1 o2 k2 c2 o3 k3 c3 W)
  have H2 := Lib.hid (fun W (hp : Pen W0 W0.heap.size [] W) => H W0 W P W0.heap.size [] (opE x) tx z m o1 k1 c1 o2 k2 c2 o3 k3 c3 hn0 hp (by simp only [List.length_nil, Nat.zero_add]; omega))
  have HB0 := Lib.hid hb0
  have HZ := Lib.hid hz0
  have HO := Lib.hid (otxt_size 2)
  generalize opE x = a at HB H1 H2 hW0 HW ⊢
  generalize tagE x = T at H1 H2
  generalize nodeL x = L at H2 hl ⊢
  have HF1 := Lib.hid (show L.length + (oTxt 2).length ≤ 100000000000000 by have := HO.out; omega)
  have HE := Lib.hid (show (L ++ oTxt 2) = L ++ (oTxt 2 ++ (rTxt wLimit (-1) ++ rTxt wOffset (-1))) by simp [rtxt_no])
  clear hb0 hbx hz0 hE0 hn0 hn hE hl H HW HO
  go_enter Tryz.func15, Tryz.ntmps15
  obtain ⟨⟨q0, q1, q2, q3, q4, q5, q6, q7, q8, q9⟩, -⟩ := HB.out _ HP.out.bel
  go_wp2_with fail
  refine (H1.out _).mono ?_
  rintro e w1 ⟨rfl, b1⟩
  have HP1 := Lib.hid (HP.out.below b1)
  have HH2 := Lib.hid (H2.out w1 HP1.out)
  clear b1 q0 q1 q2 q3 q4 q5 q6 q7 q8 q9
  go_wp2_with fail
  refine HH2.out.mono ?_
  rintro e w2 ⟨rfl, hp2, hk2⟩
  have HPc := Lib.hid (show Pen W0 W0.heap.size L w2 from hp2)
  obtain ⟨⟨q0, q1, q2, q3, q4, q5, q6, q7, q8, q9⟩, -⟩ := HB.out _ hp2.bel
  clear hp2 hk2
  have HS3 := Lib.hid (fun S hS => strL_any S (oTxt 2) hS HPc.out HF1.out)
  clear HPc
  go_wp2_with fail
  refine (HS3.out _ (by decide)).mono ?_
  rintro e w3 ⟨⟨nn, rfl⟩, hp3, hk3⟩
  have HPc := Lib.hid hp3
  clear q0 q1 q2 q3 q4 q5 q6 q7 q8 q9
  obtain ⟨⟨q0, q1, q2, q3, q4, q5, q6, q7, q8, q9⟩, -⟩ := HB.out _ hp3.bel
  clear hp3 hk3
  have hps := HPc.out
  rw [HE.out] at hps
  have HS := Lib.hid (pen_str hps)
  clear hps
  go_wp2_with fail
  refine HS.out.mono ?_
  rintro e w9 ⟨rfl, b9⟩
  go_wp2
  go_ret
  exact ⟨rfl, HB0.out.trans (b9.mono (Nat.le_of_lt HZ.out))⟩

set_option maxHeartbeats 8000000 in
set_option maxRecDepth 100000 in
theorem print_201 (x : Ex) (H : WriteC x) (hl : (nodeL x).length ≤ 10000000000000) (bn : Nat) (ibn : bn ≤ 2000) (w : World) (P : Nat → Prop) (a tx : ByteArray) (z m : Int) (o1 : Option Addr) (k1 c1 : Nat) (o2 : Option Addr) (k2 c2 : Nat) (o3 : Option Addr) (k3 c3 : Nat) (hE : Env w) (hn : Nod w P [.string a, .string tx, .int .i64 z, .int .i64 m, .slice o1 k1 c1, .slice o2 k2 c2, .slice o3 k3 c3] x) :
    Calls Tryz.prog 15 #[.agg #[.string a, .string tx, .int .i64 z, .int .i64 m, .slice o1 k1 c1, .slice o2 k2 c2, .slice o3 k3 c3, .int .i64 2, .int .i64 (-1), .int .i64 (bn : Nat)]] w fun e w' => e = .returned (.string ⟨(nodeL x ++ (oTxt 2 ++ (rTxt wLimit (-1) ++ rTxt wOffset (bn : Int)))).toArray⟩) ∧ Below w.heap.size w w' := by
  have ha := hn.view.1.1
  subst ha
  obtain ⟨W0, hW0⟩ : ∃ W0, w.alloc (Obj.cells #[.string (opE x), .string tx, .int .i64 z, .int .i64 m, .slice o1 k1 c1, .slice o2 k2 c2, .slice o3 k3 c3, .int .i64 2, .int .i64 (-1), .int .i64 (bn : Nat)] 29) = W0 := ⟨_, rfl⟩
  have hb0 : Below w.heap.size w W0 := by rw [← hW0]; exact (Below.refl _ _).alloc (Nat.le_refl _) _
  have hbx : Box10 W0 w.heap.size (.string (opE x)) (.string tx) (.int .i64 z) (.int .i64 m) (.slice o1 k1 c1) (.slice o2 k2 c2) (.slice o3 k3 c3) (.int .i64 2) (.int .i64 (-1)) (.int .i64 (bn : Nat)) := by rw [← hW0]; exact box10_new _ _ _ _ _ _ _ _ _ _ _
  have hz0 : w.heap.size < W0.heap.size := by rw [← hW0]; simp
  have hE0 := hE.below hb0
  have hn0 := hn.under hb0
  have HB := Lib.hid (fun W (h : Below W0.heap.size W0 W) => (show Box10 W w.heap.size (.string (opE x)) (.string tx) (.int .i64 z) (.int .i64 m) (.slice o1 k1 c1) (.slice o2 k2 c2) (.slice o3 k3 c3) (.int .i64 2) (.int .i64 (-1)) (.int .i64 (bn : Nat)) from (h.block _ hz0).trans hbx).reads)
  have HP := Lib.hid (pen_new hE0)
  have HW := Lib.hid hW0
  have H1 := Lib.hid (fun W => partOf_any x tx z m o1 k1 c1 o2 k2 c2 o3 k3 c3 W)
  have H2 := Lib.hid (fun W (hp : Pen W0 W0.heap.size [] W) => H W0 W P W0.heap.size [] (opE x) tx z m o1 k1 c1 o2 k2 c2 o3 k3 c3 hn0 hp (by simp only [List.length_nil, Nat.zero_add]; omega))
  have HB0 := Lib.hid hb0
  have HZ := Lib.hid hz0
  have HO := Lib.hid (otxt_size 2)
  have HITbn := Lib.hid (fun W A (hp : Pen W0 W0.heap.size A W) => itoaP bn (by omega) hp)
  have hdlbn : (⟨(decDigits bn).toArray⟩ : ByteArray).size ≤ 20 := by rw [size_arr]; have := dec_len bn 13 (by omega) (by decide); omega
  obtain ⟨DB, hDbn⟩ : ∃ J : ByteArray, (⟨(Lib.decDigits bn).toArray⟩ : ByteArray) = J := ⟨_, rfl⟩
  have HDLbn := Lib.hid (show DB.data.toList = decDigits bn by rw [← hDbn])
  rw [hDbn] at HITbn hdlbn
  clear hDbn
  generalize opE x = a at HB H1 H2 hW0 HW ⊢
  generalize tagE x = T at H1 H2
  generalize nodeL x = L at H2 hl ⊢
  have HF1 := Lib.hid (show L.length + (oTxt 2).length ≤ 100000000000000 by have := HO.out; omega)
  have HF3 := Lib.hid (show (L ++ oTxt 2).length + (rTxt wOffset (bn : Int)).length ≤ 100000000000000 by have h1 := HO.out; have h3 := rtxt_size wOffset (by decide) (bn : Int) (by omega); (try simp only [List.length_append]); omega)
  have HE := Lib.hid (show ((L ++ oTxt 2) ++ rTxt wOffset (bn : Int)) = L ++ (oTxt 2 ++ (rTxt wLimit (-1) ++ rTxt wOffset (bn : Int))) by simp [rtxt_no])
  clear hb0 hbx hz0 hE0 hn0 hn hE hl H HW HO
  go_enter Tryz.func15, Tryz.ntmps15
  obtain ⟨⟨q0, q1, q2, q3, q4, q5, q6, q7, q8, q9⟩, -⟩ := HB.out _ HP.out.bel
  go_wp2_with fail
  refine (H1.out _).mono ?_
  rintro e w1 ⟨rfl, b1⟩
  have HP1 := Lib.hid (HP.out.below b1)
  have HH2 := Lib.hid (H2.out w1 HP1.out)
  clear b1 q0 q1 q2 q3 q4 q5 q6 q7 q8 q9
  go_wp2_with fail
  refine HH2.out.mono ?_
  rintro e w2 ⟨rfl, hp2, hk2⟩
  have HPc := Lib.hid (show Pen W0 W0.heap.size L w2 from hp2)
  obtain ⟨⟨q0, q1, q2, q3, q4, q5, q6, q7, q8, q9⟩, -⟩ := HB.out _ hp2.bel
  clear hp2 hk2
  have HS3 := Lib.hid (fun S hS => strL_any S (oTxt 2) hS HPc.out HF1.out)
  clear HPc
  go_wp2_with fail
  refine (HS3.out _ (by decide)).mono ?_
  rintro e w3 ⟨⟨nn, rfl⟩, hp3, hk3⟩
  have HPc := Lib.hid hp3
  clear q0 q1 q2 q3 q4 q5 q6 q7 q8 q9
  obtain ⟨⟨q0, q1, q2, q3, q4, q5, q6, q7, q8, q9⟩, -⟩ := HB.out _ hp3.bel
  clear hp3 hk3
  have ibn : (0 : Int) ≤ (bn : Nat) := by omega
  go_wp2_with fail
  refine (HITbn.out _ _ HPc.out).mono ?_
  rintro e w6 ⟨rfl, hp6, hk6⟩
  clear HPc
  have HPc := Lib.hid hp6
  clear q0 q1 q2 q3 q4 q5 q6 q7 q8 q9
  obtain ⟨⟨q0, q1, q2, q3, q4, q5, q6, q7, q8, q9⟩, -⟩ := HB.out _ hp6.bel
  clear hp6 hk6
  have HS7 := Lib.hid (fun S hS => strL_any S (rTxt wOffset (bn : Int)) hS HPc.out HF3.out)
  clear HPc
  go_wp2_with fail
  refine (HS7.out _ (by rw [rtxt_yes]; simp only [ByteArray.data_append, Array.toList_append, HDLbn.out]; simp [wOffset])).mono ?_
  rintro e w7 ⟨⟨nn, rfl⟩, hp7, hk7⟩
  have HPc := Lib.hid hp7
  clear q0 q1 q2 q3 q4 q5 q6 q7 q8 q9
  obtain ⟨⟨q0, q1, q2, q3, q4, q5, q6, q7, q8, q9⟩, -⟩ := HB.out _ hp7.bel
  clear hp7 hk7
  have hps := HPc.out
  rw [HE.out] at hps
  have HS := Lib.hid (pen_str hps)
  clear hps
  go_wp2_with fail
  refine HS.out.mono ?_
  rintro e w9 ⟨rfl, b9⟩
  go_wp2
  go_ret
  exact ⟨rfl, HB0.out.trans (b9.mono (Nat.le_of_lt HZ.out))⟩

set_option maxHeartbeats 8000000 in
set_option maxRecDepth 100000 in
theorem print_210 (x : Ex) (H : WriteC x) (hl : (nodeL x).length ≤ 10000000000000) (an : Nat) (ian : an ≤ 2000) (w : World) (P : Nat → Prop) (a tx : ByteArray) (z m : Int) (o1 : Option Addr) (k1 c1 : Nat) (o2 : Option Addr) (k2 c2 : Nat) (o3 : Option Addr) (k3 c3 : Nat) (hE : Env w) (hn : Nod w P [.string a, .string tx, .int .i64 z, .int .i64 m, .slice o1 k1 c1, .slice o2 k2 c2, .slice o3 k3 c3] x) :
    Calls Tryz.prog 15 #[.agg #[.string a, .string tx, .int .i64 z, .int .i64 m, .slice o1 k1 c1, .slice o2 k2 c2, .slice o3 k3 c3, .int .i64 2, .int .i64 (an : Nat), .int .i64 (-1)]] w fun e w' => e = .returned (.string ⟨(nodeL x ++ (oTxt 2 ++ (rTxt wLimit (an : Int) ++ rTxt wOffset (-1)))).toArray⟩) ∧ Below w.heap.size w w' := by
  have ha := hn.view.1.1
  subst ha
  obtain ⟨W0, hW0⟩ : ∃ W0, w.alloc (Obj.cells #[.string (opE x), .string tx, .int .i64 z, .int .i64 m, .slice o1 k1 c1, .slice o2 k2 c2, .slice o3 k3 c3, .int .i64 2, .int .i64 (an : Nat), .int .i64 (-1)] 29) = W0 := ⟨_, rfl⟩
  have hb0 : Below w.heap.size w W0 := by rw [← hW0]; exact (Below.refl _ _).alloc (Nat.le_refl _) _
  have hbx : Box10 W0 w.heap.size (.string (opE x)) (.string tx) (.int .i64 z) (.int .i64 m) (.slice o1 k1 c1) (.slice o2 k2 c2) (.slice o3 k3 c3) (.int .i64 2) (.int .i64 (an : Nat)) (.int .i64 (-1)) := by rw [← hW0]; exact box10_new _ _ _ _ _ _ _ _ _ _ _
  have hz0 : w.heap.size < W0.heap.size := by rw [← hW0]; simp
  have hE0 := hE.below hb0
  have hn0 := hn.under hb0
  have HB := Lib.hid (fun W (h : Below W0.heap.size W0 W) => (show Box10 W w.heap.size (.string (opE x)) (.string tx) (.int .i64 z) (.int .i64 m) (.slice o1 k1 c1) (.slice o2 k2 c2) (.slice o3 k3 c3) (.int .i64 2) (.int .i64 (an : Nat)) (.int .i64 (-1)) from (h.block _ hz0).trans hbx).reads)
  have HP := Lib.hid (pen_new hE0)
  have HW := Lib.hid hW0
  have H1 := Lib.hid (fun W => partOf_any x tx z m o1 k1 c1 o2 k2 c2 o3 k3 c3 W)
  have H2 := Lib.hid (fun W (hp : Pen W0 W0.heap.size [] W) => H W0 W P W0.heap.size [] (opE x) tx z m o1 k1 c1 o2 k2 c2 o3 k3 c3 hn0 hp (by simp only [List.length_nil, Nat.zero_add]; omega))
  have HB0 := Lib.hid hb0
  have HZ := Lib.hid hz0
  have HO := Lib.hid (otxt_size 2)
  have HITan := Lib.hid (fun W A (hp : Pen W0 W0.heap.size A W) => itoaP an (by omega) hp)
  have hdlan : (⟨(decDigits an).toArray⟩ : ByteArray).size ≤ 20 := by rw [size_arr]; have := dec_len an 13 (by omega) (by decide); omega
  obtain ⟨DA, hDan⟩ : ∃ J : ByteArray, (⟨(Lib.decDigits an).toArray⟩ : ByteArray) = J := ⟨_, rfl⟩
  have HDLan := Lib.hid (show DA.data.toList = decDigits an by rw [← hDan])
  rw [hDan] at HITan hdlan
  clear hDan
  generalize opE x = a at HB H1 H2 hW0 HW ⊢
  generalize tagE x = T at H1 H2
  generalize nodeL x = L at H2 hl ⊢
  have HF1 := Lib.hid (show L.length + (oTxt 2).length ≤ 100000000000000 by have := HO.out; omega)
  have HF2 := Lib.hid (show (L ++ oTxt 2).length + (rTxt wLimit (an : Int)).length ≤ 100000000000000 by have h1 := HO.out; have h2 := rtxt_size wLimit (by decide) (an : Int) (by omega); (try simp only [List.length_append]); omega)
  have HE := Lib.hid (show ((L ++ oTxt 2) ++ rTxt wLimit (an : Int)) = L ++ (oTxt 2 ++ (rTxt wLimit (an : Int) ++ rTxt wOffset (-1))) by simp [rtxt_no])
  clear hb0 hbx hz0 hE0 hn0 hn hE hl H HW HO
  go_enter Tryz.func15, Tryz.ntmps15
  obtain ⟨⟨q0, q1, q2, q3, q4, q5, q6, q7, q8, q9⟩, -⟩ := HB.out _ HP.out.bel
  go_wp2_with fail
  refine (H1.out _).mono ?_
  rintro e w1 ⟨rfl, b1⟩
  have HP1 := Lib.hid (HP.out.below b1)
  have HH2 := Lib.hid (H2.out w1 HP1.out)
  clear b1 q0 q1 q2 q3 q4 q5 q6 q7 q8 q9
  go_wp2_with fail
  refine HH2.out.mono ?_
  rintro e w2 ⟨rfl, hp2, hk2⟩
  have HPc := Lib.hid (show Pen W0 W0.heap.size L w2 from hp2)
  obtain ⟨⟨q0, q1, q2, q3, q4, q5, q6, q7, q8, q9⟩, -⟩ := HB.out _ hp2.bel
  clear hp2 hk2
  have HS3 := Lib.hid (fun S hS => strL_any S (oTxt 2) hS HPc.out HF1.out)
  clear HPc
  go_wp2_with fail
  refine (HS3.out _ (by decide)).mono ?_
  rintro e w3 ⟨⟨nn, rfl⟩, hp3, hk3⟩
  have HPc := Lib.hid hp3
  clear q0 q1 q2 q3 q4 q5 q6 q7 q8 q9
  obtain ⟨⟨q0, q1, q2, q3, q4, q5, q6, q7, q8, q9⟩, -⟩ := HB.out _ hp3.bel
  clear hp3 hk3
  have ian : (0 : Int) ≤ (an : Nat) := by omega
  go_wp2_with fail
  refine (HITan.out _ _ HPc.out).mono ?_
  rintro e w4 ⟨rfl, hp4, hk4⟩
  clear HPc
  have HPc := Lib.hid hp4
  clear q0 q1 q2 q3 q4 q5 q6 q7 q8 q9
  obtain ⟨⟨q0, q1, q2, q3, q4, q5, q6, q7, q8, q9⟩, -⟩ := HB.out _ hp4.bel
  clear hp4 hk4
  have HS5 := Lib.hid (fun S hS => strL_any S (rTxt wLimit (an : Int)) hS HPc.out HF2.out)
  clear HPc
  go_wp2_with fail
  refine (HS5.out _ (by rw [rtxt_yes]; simp only [ByteArray.data_append, Array.toList_append, HDLan.out]; simp [wLimit])).mono ?_
  rintro e w5 ⟨⟨nn, rfl⟩, hp5, hk5⟩
  have HPc := Lib.hid hp5
  clear q0 q1 q2 q3 q4 q5 q6 q7 q8 q9
  obtain ⟨⟨q0, q1, q2, q3, q4, q5, q6, q7, q8, q9⟩, -⟩ := HB.out _ hp5.bel
  clear hp5 hk5
  have hps := HPc.out
  rw [HE.out] at hps
  have HS := Lib.hid (pen_str hps)
  clear hps
  go_wp2_with fail
  refine HS.out.mono ?_
  rintro e w9 ⟨rfl, b9⟩
  go_wp2
  go_ret
  exact ⟨rfl, HB0.out.trans (b9.mono (Nat.le_of_lt HZ.out))⟩

set_option maxHeartbeats 8000000 in
set_option maxRecDepth 100000 in
theorem print_211 (x : Ex) (H : WriteC x) (hl : (nodeL x).length ≤ 10000000000000) (an : Nat) (ian : an ≤ 2000) (bn : Nat) (ibn : bn ≤ 2000) (w : World) (P : Nat → Prop) (a tx : ByteArray) (z m : Int) (o1 : Option Addr) (k1 c1 : Nat) (o2 : Option Addr) (k2 c2 : Nat) (o3 : Option Addr) (k3 c3 : Nat) (hE : Env w) (hn : Nod w P [.string a, .string tx, .int .i64 z, .int .i64 m, .slice o1 k1 c1, .slice o2 k2 c2, .slice o3 k3 c3] x) :
    Calls Tryz.prog 15 #[.agg #[.string a, .string tx, .int .i64 z, .int .i64 m, .slice o1 k1 c1, .slice o2 k2 c2, .slice o3 k3 c3, .int .i64 2, .int .i64 (an : Nat), .int .i64 (bn : Nat)]] w fun e w' => e = .returned (.string ⟨(nodeL x ++ (oTxt 2 ++ (rTxt wLimit (an : Int) ++ rTxt wOffset (bn : Int)))).toArray⟩) ∧ Below w.heap.size w w' := by
  have ha := hn.view.1.1
  subst ha
  obtain ⟨W0, hW0⟩ : ∃ W0, w.alloc (Obj.cells #[.string (opE x), .string tx, .int .i64 z, .int .i64 m, .slice o1 k1 c1, .slice o2 k2 c2, .slice o3 k3 c3, .int .i64 2, .int .i64 (an : Nat), .int .i64 (bn : Nat)] 29) = W0 := ⟨_, rfl⟩
  have hb0 : Below w.heap.size w W0 := by rw [← hW0]; exact (Below.refl _ _).alloc (Nat.le_refl _) _
  have hbx : Box10 W0 w.heap.size (.string (opE x)) (.string tx) (.int .i64 z) (.int .i64 m) (.slice o1 k1 c1) (.slice o2 k2 c2) (.slice o3 k3 c3) (.int .i64 2) (.int .i64 (an : Nat)) (.int .i64 (bn : Nat)) := by rw [← hW0]; exact box10_new _ _ _ _ _ _ _ _ _ _ _
  have hz0 : w.heap.size < W0.heap.size := by rw [← hW0]; simp
  have hE0 := hE.below hb0
  have hn0 := hn.under hb0
  have HB := Lib.hid (fun W (h : Below W0.heap.size W0 W) => (show Box10 W w.heap.size (.string (opE x)) (.string tx) (.int .i64 z) (.int .i64 m) (.slice o1 k1 c1) (.slice o2 k2 c2) (.slice o3 k3 c3) (.int .i64 2) (.int .i64 (an : Nat)) (.int .i64 (bn : Nat)) from (h.block _ hz0).trans hbx).reads)
  have HP := Lib.hid (pen_new hE0)
  have HW := Lib.hid hW0
  have H1 := Lib.hid (fun W => partOf_any x tx z m o1 k1 c1 o2 k2 c2 o3 k3 c3 W)
  have H2 := Lib.hid (fun W (hp : Pen W0 W0.heap.size [] W) => H W0 W P W0.heap.size [] (opE x) tx z m o1 k1 c1 o2 k2 c2 o3 k3 c3 hn0 hp (by simp only [List.length_nil, Nat.zero_add]; omega))
  have HB0 := Lib.hid hb0
  have HZ := Lib.hid hz0
  have HO := Lib.hid (otxt_size 2)
  have HITan := Lib.hid (fun W A (hp : Pen W0 W0.heap.size A W) => itoaP an (by omega) hp)
  have hdlan : (⟨(decDigits an).toArray⟩ : ByteArray).size ≤ 20 := by rw [size_arr]; have := dec_len an 13 (by omega) (by decide); omega
  obtain ⟨DA, hDan⟩ : ∃ J : ByteArray, (⟨(Lib.decDigits an).toArray⟩ : ByteArray) = J := ⟨_, rfl⟩
  have HDLan := Lib.hid (show DA.data.toList = decDigits an by rw [← hDan])
  rw [hDan] at HITan hdlan
  clear hDan
  have HITbn := Lib.hid (fun W A (hp : Pen W0 W0.heap.size A W) => itoaP bn (by omega) hp)
  have hdlbn : (⟨(decDigits bn).toArray⟩ : ByteArray).size ≤ 20 := by rw [size_arr]; have := dec_len bn 13 (by omega) (by decide); omega
  obtain ⟨DB, hDbn⟩ : ∃ J : ByteArray, (⟨(Lib.decDigits bn).toArray⟩ : ByteArray) = J := ⟨_, rfl⟩
  have HDLbn := Lib.hid (show DB.data.toList = decDigits bn by rw [← hDbn])
  rw [hDbn] at HITbn hdlbn
  clear hDbn
  generalize opE x = a at HB H1 H2 hW0 HW ⊢
  generalize tagE x = T at H1 H2
  generalize nodeL x = L at H2 hl ⊢
  have HF1 := Lib.hid (show L.length + (oTxt 2).length ≤ 100000000000000 by have := HO.out; omega)
  have HF2 := Lib.hid (show (L ++ oTxt 2).length + (rTxt wLimit (an : Int)).length ≤ 100000000000000 by have h1 := HO.out; have h2 := rtxt_size wLimit (by decide) (an : Int) (by omega); (try simp only [List.length_append]); omega)
  have HF3 := Lib.hid (show ((L ++ oTxt 2) ++ rTxt wLimit (an : Int)).length + (rTxt wOffset (bn : Int)).length ≤ 100000000000000 by have h1 := HO.out; have h2 := rtxt_size wLimit (by decide) (an : Int) (by omega); have h3 := rtxt_size wOffset (by decide) (bn : Int) (by omega); (try simp only [List.length_append]); omega)
  have HE := Lib.hid (show (((L ++ oTxt 2) ++ rTxt wLimit (an : Int)) ++ rTxt wOffset (bn : Int)) = L ++ (oTxt 2 ++ (rTxt wLimit (an : Int) ++ rTxt wOffset (bn : Int))) by simp)
  clear hb0 hbx hz0 hE0 hn0 hn hE hl H HW HO
  go_enter Tryz.func15, Tryz.ntmps15
  obtain ⟨⟨q0, q1, q2, q3, q4, q5, q6, q7, q8, q9⟩, -⟩ := HB.out _ HP.out.bel
  go_wp2_with fail
  refine (H1.out _).mono ?_
  rintro e w1 ⟨rfl, b1⟩
  have HP1 := Lib.hid (HP.out.below b1)
  have HH2 := Lib.hid (H2.out w1 HP1.out)
  clear b1 q0 q1 q2 q3 q4 q5 q6 q7 q8 q9
  go_wp2_with fail
  refine HH2.out.mono ?_
  rintro e w2 ⟨rfl, hp2, hk2⟩
  have HPc := Lib.hid (show Pen W0 W0.heap.size L w2 from hp2)
  obtain ⟨⟨q0, q1, q2, q3, q4, q5, q6, q7, q8, q9⟩, -⟩ := HB.out _ hp2.bel
  clear hp2 hk2
  have HS3 := Lib.hid (fun S hS => strL_any S (oTxt 2) hS HPc.out HF1.out)
  clear HPc
  go_wp2_with fail
  refine (HS3.out _ (by decide)).mono ?_
  rintro e w3 ⟨⟨nn, rfl⟩, hp3, hk3⟩
  have HPc := Lib.hid hp3
  clear q0 q1 q2 q3 q4 q5 q6 q7 q8 q9
  obtain ⟨⟨q0, q1, q2, q3, q4, q5, q6, q7, q8, q9⟩, -⟩ := HB.out _ hp3.bel
  clear hp3 hk3
  have ian : (0 : Int) ≤ (an : Nat) := by omega
  go_wp2_with fail
  refine (HITan.out _ _ HPc.out).mono ?_
  rintro e w4 ⟨rfl, hp4, hk4⟩
  clear HPc
  have HPc := Lib.hid hp4
  clear q0 q1 q2 q3 q4 q5 q6 q7 q8 q9
  obtain ⟨⟨q0, q1, q2, q3, q4, q5, q6, q7, q8, q9⟩, -⟩ := HB.out _ hp4.bel
  clear hp4 hk4
  have HS5 := Lib.hid (fun S hS => strL_any S (rTxt wLimit (an : Int)) hS HPc.out HF2.out)
  clear HPc
  go_wp2_with fail
  refine (HS5.out _ (by rw [rtxt_yes]; simp only [ByteArray.data_append, Array.toList_append, HDLan.out]; simp [wLimit])).mono ?_
  rintro e w5 ⟨⟨nn, rfl⟩, hp5, hk5⟩
  have HPc := Lib.hid hp5
  clear q0 q1 q2 q3 q4 q5 q6 q7 q8 q9
  obtain ⟨⟨q0, q1, q2, q3, q4, q5, q6, q7, q8, q9⟩, -⟩ := HB.out _ hp5.bel
  clear hp5 hk5
  have ibn : (0 : Int) ≤ (bn : Nat) := by omega
  go_wp2_with fail
  refine (HITbn.out _ _ HPc.out).mono ?_
  rintro e w6 ⟨rfl, hp6, hk6⟩
  clear HPc
  have HPc := Lib.hid hp6
  clear q0 q1 q2 q3 q4 q5 q6 q7 q8 q9
  obtain ⟨⟨q0, q1, q2, q3, q4, q5, q6, q7, q8, q9⟩, -⟩ := HB.out _ hp6.bel
  clear hp6 hk6
  have HS7 := Lib.hid (fun S hS => strL_any S (rTxt wOffset (bn : Int)) hS HPc.out HF3.out)
  clear HPc
  go_wp2_with fail
  refine (HS7.out _ (by rw [rtxt_yes]; simp only [ByteArray.data_append, Array.toList_append, HDLbn.out]; simp [wOffset])).mono ?_
  rintro e w7 ⟨⟨nn, rfl⟩, hp7, hk7⟩
  have HPc := Lib.hid hp7
  clear q0 q1 q2 q3 q4 q5 q6 q7 q8 q9
  obtain ⟨⟨q0, q1, q2, q3, q4, q5, q6, q7, q8, q9⟩, -⟩ := HB.out _ hp7.bel
  clear hp7 hk7
  have hps := HPc.out
  rw [HE.out] at hps
  have HS := Lib.hid (pen_str hps)
  clear hps
  go_wp2_with fail
  refine HS.out.mono ?_
  rintro e w9 ⟨rfl, b9⟩
  go_wp2
  go_ret
  exact ⟨rfl, HB0.out.trans (b9.mono (Nat.le_of_lt HZ.out))⟩

theorem int_neg {a : Int} (h : -1 ≤ a) : a = -1 ∨ ∃ n : Nat, a = n := by
  by_cases h0 : 0 ≤ a
  · exact .inr ⟨a.toNat, by omega⟩
  · exact .inl (by omega)
/-- A query that is read is written. -/
theorem print_any (q : Qr) (hg : GoodQ q) (od : Int) (ho : (q.order : Int) = od) (w : World) (P : Nat → Prop) (a tx : ByteArray) (z m : Int) (o1 : Option Addr) (k1 c1 : Nat) (o2 : Option Addr) (k2 c2 : Nat) (o3 : Option Addr) (k3 c3 : Nat) (hE : Env w) (hn : Nod w P [.string a, .string tx, .int .i64 z, .int .i64 m, .slice o1 k1 c1, .slice o2 k2 c2, .slice o3 k3 c3] q.root) :
    Calls Tryz.prog 15 #[.agg #[.string a, .string tx, .int .i64 z, .int .i64 m, .slice o1 k1 c1, .slice o2 k2 c2, .slice o3 k3 c3, .int .i64 od, .int .i64 q.limit, .int .i64 q.offset]] w fun e w' => e = .returned (.string ⟨(printL q).toArray⟩) ∧ Below w.heap.size w w' := by
  obtain ⟨x, o, li, ob⟩ := q
  obtain ⟨g1, g2, g3, g4, g5⟩ := hg
  dsimp only at g1 g2 g3 g4 g5 ho hn ⊢
  subst ho
  have hl : (nodeL x).length ≤ 10000000000000 := by have := node_len x g1; omega
  have H := write_all x g1
  have ho3 : o = 0 ∨ o = 1 ∨ o = 2 := by omega
  rcases ho3 with rfl | rfl | rfl
  · rcases int_neg g3.1 with rfl | ⟨an, rfl⟩
    · rcases int_neg g4.1 with rfl | ⟨bn, rfl⟩
      · exact print_000 x H hl w P a tx z m o1 k1 c1 o2 k2 c2 o3 k3 c3 hE hn
      · exact print_001 x H hl bn (by omega) w P a tx z m o1 k1 c1 o2 k2 c2 o3 k3 c3 hE hn
    · rcases int_neg g4.1 with rfl | ⟨bn, rfl⟩
      · exact print_010 x H hl an (by omega) w P a tx z m o1 k1 c1 o2 k2 c2 o3 k3 c3 hE hn
      · exact print_011 x H hl an (by omega) bn (by omega) w P a tx z m o1 k1 c1 o2 k2 c2 o3 k3 c3 hE hn
  · rcases int_neg g3.1 with rfl | ⟨an, rfl⟩
    · rcases int_neg g4.1 with rfl | ⟨bn, rfl⟩
      · exact print_100 x H hl w P a tx z m o1 k1 c1 o2 k2 c2 o3 k3 c3 hE hn
      · exact print_101 x H hl bn (by omega) w P a tx z m o1 k1 c1 o2 k2 c2 o3 k3 c3 hE hn
    · rcases int_neg g4.1 with rfl | ⟨bn, rfl⟩
      · exact print_110 x H hl an (by omega) w P a tx z m o1 k1 c1 o2 k2 c2 o3 k3 c3 hE hn
      · exact print_111 x H hl an (by omega) bn (by omega) w P a tx z m o1 k1 c1 o2 k2 c2 o3 k3 c3 hE hn
  · rcases int_neg g3.1 with rfl | ⟨an, rfl⟩
    · rcases int_neg g4.1 with rfl | ⟨bn, rfl⟩
      · exact print_200 x H hl w P a tx z m o1 k1 c1 o2 k2 c2 o3 k3 c3 hE hn
      · exact print_201 x H hl bn (by omega) w P a tx z m o1 k1 c1 o2 k2 c2 o3 k3 c3 hE hn
    · rcases int_neg g4.1 with rfl | ⟨bn, rfl⟩
      · exact print_210 x H hl an (by omega) w P a tx z m o1 k1 c1 o2 k2 c2 o3 k3 c3 hE hn
      · exact print_211 x H hl an (by omega) bn (by omega) w P a tx z m o1 k1 c1 o2 k2 c2 o3 k3 c3 hE hn
end Go.Proofs.YtddglepimbfdkaaGreatDoor.Par
