/- What stands behind a query (the law). -/
import Derived.Test.YtmdmjnidfcopcaaGreatDoorNy
namespace Go.Proofs.YtmdmjnidfcopcaaGreatDoor.Par
open Go.RowKit Go.Lib
open Go.Proofs.YtmdmjnidfcopcaaGreatDoor.Sto

theorem tail_texts (s : ByteArray) (o : Nat) (_ho : o ≤ 2) (a b : Int) (T1 T2 T3 : ByteArray) (h1 : T1.data.toList = oTxt o) (h2 : T2.data.toList = rTxt wLimit a) (h3 : T3.data.toList = rTxt wOffset b) : (s ++ T1 ++ T2 ++ T3).data.toList = s.data.toList ++ (oTxt o ++ (rTxt wLimit a ++ rTxt wOffset b)) := by
  simp only [ByteArray.data_append, Array.toList_append, h1, h2, h3, List.append_assoc]
theorem rtxt_size (w : List UInt8) (hw : w.length ≤ 10) (a : Int) (ha : a ≤ 3000) : (rTxt w a).length ≤ 40 := by
  unfold rTxt
  split
  · have := dec_len a.toNat 13 (by omega) (by decide)
    simp; omega
  · simp
theorem otxt_size (o : Nat) : (oTxt o).length ≤ 40 := by
  unfold oTxt
  split
  · decide
  · split <;> decide
theorem rtxt_yes (w : List UInt8) (n : Nat) : rTxt w (n : Int) = 32 :: (w ++ 32 :: decDigits n) := by
  unfold rTxt; rw [if_pos (by omega), Int.toNat_natCast]
theorem rtxt_no (w : List UInt8) : rTxt w (-1) = [] := by unfold rTxt; rw [if_neg (by omega)]

set_option maxHeartbeats 8000000 in
set_option maxRecDepth 100000 in
theorem tails_000 (s : ByteArray) (w : World) (h : Env w) (i0 : (s.size : Int) ≤ 300) (x : Ex) (hr : readL s.data.toList = some ⟨x, 0, -1, -1⟩) (order : Int) (g1 : order ≠ 1) (g2 : order ≠ 2) :
    Calls Tryz.prog 7 #[.string s, .int .i64 order, .int .i64 (-1), .int .i64 (-1)] w fun e w' => e = .returned (.bool true) ∧ Below w.heap.size w w' := by
  have cA := Lib.hid (fun W (hb : Below w.heap.size w W) => alive_any W (h.below hb))
  have HFW := Lib.hid (show Few x from read_few (q := ⟨x, 0, -1, -1⟩) (by omega) hr)
  have C1 := Lib.hid (fun W (hb : Below w.heap.size w W) => read_is s (by omega) ⟨x, 0, -1, -1⟩ hr 0 rfl W (h.below hb))
  dsimp only at C1
  have hl := readL_tails hr 0 (by omega) (-1) (-1) (by omega) (by omega) (by omega) (by omega)
  have hTT : (s : ByteArray).data.toList = s.data.toList ++ (oTxt 0 ++ (rTxt wLimit (-1) ++ rTxt wOffset (-1))) := by
    simp only [rtxt_no]
    simp [oTxt]
  have hsz : (s : ByteArray).size ≤ 500 := by
    rw [Lib.size_eq, hTT]
    have h1 := otxt_size 0
    have h2 := rtxt_size wLimit (by decide) (-1) (by omega)
    have h3 := rtxt_size wOffset (by decide) (-1) (by omega)
    simp only [List.length_append, ← Lib.size_eq]
    omega
  have g3 : (order == 1) = false := by simp [g1]
  have g4 : (order == 2) = false := by simp [g2]
  have C3 := Lib.hid (fun W (hb : Below w.heap.size w W) => read_is s (by omega) ⟨x, 0, (-1), (-1)⟩ (by rw [hTT, hl, if_neg (by omega)]) 0 rfl W (h.below hb))
  dsimp only at C3
  have hl2 := readL_tails hr 1 (by omega) (-1) (-1) (by omega) (by omega) (by omega) (by omega)
  have C4 := Lib.hid (fun W (hb : Below w.heap.size w W) => read_is (s ++ ⟨#[32, 111, 114, 100, 101, 114, 32, 97, 115, 99]⟩) (by rw [ByteArray.size_append]; show _ + 10 ≤ 600; omega) ⟨x, 1, -1, -1⟩ (by
    have e : (s ++ ⟨#[32, 111, 114, 100, 101, 114, 32, 97, 115, 99]⟩ : ByteArray).data.toList = s.data.toList ++ (oTxt 1 ++ (rTxt wLimit (-1) ++ rTxt wOffset (-1))) := by
      simp only [ByteArray.data_append, Array.toList_append, rtxt_no]
      simp [oTxt, wOrder, wAsc]
    rw [e, hl2, if_neg (by omega)]) 1 rfl W (h.below hb))
  dsimp only at C4
  clear hl2
  clear hl hTT h hr
  go_enter Tryz.func7, Tryz.ntmps7
  go_wp2_with fail
  refine (cA.out _ (Below.refl _ _)).mono ?_
  rintro e w1 ⟨rfl, b1⟩
  have B1 := Lib.hid b1
  clear b1
  go_wp2_with fail
  refine (C1.out _ B1.out).mono ?_
  rintro e w2 ⟨⟨a, tx, z, m, o1, k1, c1, o2, k2, c2, o3, k3, c3, rfl, hn⟩, b2⟩
  have B2 := Lib.hid (B1.out.trans (b2.mono B1.out.size))
  have HN := Lib.hid hn
  have HX2 := Lib.hid (box_start w2 (QBox a tx z m o1 k1 c1 o2 k2 c2 o3 k3 c3 0 (-1) (-1)))
  clear b2 hn
  have HB := Lib.hid (below_past B2.out HX2.out)
  go_wp2_with fail
  refine (C3.out _ HB.out).mono ?_
  rintro e w5 ⟨⟨a', tx', z', m', o1', k1', c1', o2', k2', c2', o3', k3', c3', rfl, hn5⟩, b5⟩
  have HN5 := Lib.hid hn5
  have HX5 := Lib.hid (box_more (box_more HX2.out b5) ((Below.refl w5.heap.size w5).alloc (Nat.le_refl _) (QBox a' tx' z' m' o1' k1' c1' o2' k2' c2' o3' k3' c3' 0 (-1) (-1))))
  have HB5 := Lib.hid (below_past B2.out HX5.out)
  clear b5 hn5
  go_wp2_with fail
  refine (C4.out _ HB5.out).mono ?_
  rintro e w6 ⟨⟨a'', tx'', z'', m'', o1'', k1'', c1'', o2'', k2'', c2'', o3'', k3'', c3'', rfl, hn6⟩, b6⟩
  have HY6 := Lib.hid (box_more (box_more (box_start w5 (QBox a' tx' z' m' o1' k1' c1' o2' k2' c2' o3' k3' c3' 0 (-1) (-1))) b6) ((Below.refl w6.heap.size w6).alloc (Nat.le_refl _) (QBox a'' tx'' z'' m'' o1'' k1'' c1'' o2'' k2'' c2'' o3'' k3'' c3'' 1 (-1) (-1))))
  have HX6 := Lib.hid (box_more (box_more HX5.out b6) ((Below.refl w6.heap.size w6).alloc (Nat.le_refl _) (QBox a'' tx'' z'' m'' o1'' k1'' c1'' o2'' k2'' c2'' o3'' k3'' c3'' 1 (-1) (-1))))
  have HB6 := Lib.hid (below_past B2.out HX6.out)
  obtain ⟨p0, p1, p2, p3, p4, p5, p6, p7, p8, p9⟩ := qbox_reads _ _ _ _ _ _ _ _ _ _ _ _ _ _ _ _ _ _ HX6.out
  obtain ⟨q0, q1, q2, q3, q4, q5, q6, q7, q8, q9⟩ := qbox_reads _ _ _ _ _ _ _ _ _ _ _ _ _ _ _ _ _ _ HY6.out
  have HSM := Lib.hid ((psame_any _ x x (Nat.le_refl _) HFW.out _ _ (w6.alloc (QBox a'' tx'' z'' m'' o1'' k1'' c1'' o2'' k2'' c2'' o3'' k3'' c3'' 1 (-1) (-1))) a tx z m o1 k1 c1 o2 k2 c2 o3 k3 c3 a' tx' z' m' o1' k1' c1' o2' k2' c2' o3' k3' c3' (HN.out.under (((Below.refl w2.heap.size w2).alloc (Nat.le_refl _) _).trans (HX6.out.mono (by omega)))) (HN5.out.under (((Below.refl w5.heap.size w5).alloc (Nat.le_refl _) _).trans (HY6.out.mono (by omega))))).mono (R' := fun e w' => e = .returned (.bool true) ∧ Below (w6.alloc (QBox a'' tx'' z'' m'' o1'' k1'' c1'' o2'' k2'' c2'' o3'' k3'' c3'' 1 (-1) (-1))).heap.size (w6.alloc (QBox a'' tx'' z'' m'' o1'' k1'' c1'' o2'' k2'' c2'' o3'' k3'' c3'' 1 (-1) (-1))) w') (fun e w' q => ⟨by rw [q.1]; simp, q.2⟩))
  clear b6 hn6
  go_wp2_with fail
  refine HSM.out.mono ?_
  rintro e w7 ⟨rfl, b7⟩
  have HB7 := Lib.hid (HB6.out.trans (b7.mono HB6.out.size))
  clear b7
  go_wp2
  go_ret
  exact ⟨rfl, HB7.out⟩

set_option maxHeartbeats 8000000 in
set_option maxRecDepth 100000 in
theorem tails_001 (s : ByteArray) (w : World) (h : Env w) (i0 : (s.size : Int) ≤ 300) (x : Ex) (hr : readL s.data.toList = some ⟨x, 0, -1, -1⟩) (order : Int) (g1 : order ≠ 1) (g2 : order ≠ 2) (bn : Nat) (ib : (bn : Int) ≤ 3000) :
    Calls Tryz.prog 7 #[.string s, .int .i64 order, .int .i64 (-1), .int .i64 (bn : Int)] w fun e w' => e = .returned (.bool true) ∧ Below w.heap.size w w' := by
  have cA := Lib.hid (fun W (hb : Below w.heap.size w W) => alive_any W (h.below hb))
  have HFW := Lib.hid (show Few x from read_few (q := ⟨x, 0, -1, -1⟩) (by omega) hr)
  have C1 := Lib.hid (fun W (hb : Below w.heap.size w W) => read_is s (by omega) ⟨x, 0, -1, -1⟩ hr 0 rfl W (h.below hb))
  dsimp only at C1
  have hl := readL_tails hr 0 (by omega) (-1) (bn : Int) (by omega) (by omega) (by omega) (by omega)
  have hTT : ((s ++ (⟨#[32, 111, 102, 102, 115, 101, 116, 32]⟩ ++ ⟨(decDigits bn).toArray⟩)) : ByteArray).data.toList = s.data.toList ++ (oTxt 0 ++ (rTxt wLimit (-1) ++ rTxt wOffset (bn : Int))) := by
    simp only [ByteArray.data_append, Array.toList_append, rtxt_yes, rtxt_no]
    simp [oTxt, wOffset]
  have hsz : ((s ++ (⟨#[32, 111, 102, 102, 115, 101, 116, 32]⟩ ++ ⟨(decDigits bn).toArray⟩)) : ByteArray).size ≤ 500 := by
    rw [Lib.size_eq, hTT]
    have h1 := otxt_size 0
    have h2 := rtxt_size wLimit (by decide) (-1) (by omega)
    have h3 := rtxt_size wOffset (by decide) (bn : Int) (by omega)
    simp only [List.length_append, ← Lib.size_eq]
    omega
  have CDb := Lib.hid (fun W => rdigits_any bn (by omega) W)
  have HLb := Lib.hid (dec_len bn 13 (by omega) (by decide))
  have g3 : (order == 1) = false := by simp [g1]
  have g4 : (order == 2) = false := by simp [g2]
  by_cases hbig : 2000 < bn
  · have C3 := Lib.hid (fun W (hb : Below w.heap.size w W) => read_not (s ++ (⟨#[32, 111, 102, 102, 115, 101, 116, 32]⟩ ++ ⟨(decDigits bn).toArray⟩)) (by omega) (by rw [hTT, hl, if_pos (by omega)]) W (h.below hb))
    clear hl hTT h hr
    have e3 : (2000 : Int) < bn := by omega
    clear hbig
    go_enter Tryz.func7, Tryz.ntmps7
    go_wp2_with fail
    refine (cA.out _ (Below.refl _ _)).mono ?_
    rintro e w1 ⟨rfl, b1⟩
    have B1 := Lib.hid b1
    clear b1
    go_wp2_with fail
    refine (C1.out _ B1.out).mono ?_
    rintro e w2 ⟨⟨a, tx, z, m, o1, k1, c1, o2, k2, c2, o3, k3, c3, rfl, hn⟩, b2⟩
    have B2 := Lib.hid (B1.out.trans (b2.mono B1.out.size))
    have HN := Lib.hid hn
    have HX2 := Lib.hid (box_start w2 (QBox a tx z m o1 k1 c1 o2 k2 c2 o3 k3 c3 0 (-1) (-1)))
    clear b2 hn
    go_wp2_with fail
    refine (CDb.out _).mono ?_
    rintro e w4 ⟨rfl, b4⟩
    have HX4 := Lib.hid (box_more HX2.out b4)
    have z3 := size_arr (decDigits bn)
    have z4 := HLb.out
    clear b4
    have HB := Lib.hid (below_past B2.out HX4.out)
    go_wp2_with fail
    refine (C3.out _ HB.out).mono ?_
    rintro e w5 ⟨rfl, b5⟩
    have HB5 := Lib.hid (below_box (HB.out.trans (b5.mono HB.out.size)) (QBox ⟨#[]⟩ ⟨#[]⟩ 0 0 none 0 0 none 0 0 none 0 0 0 0 0))
    clear b5
    go_wp2
    go_ret
    exact ⟨rfl, HB5.out⟩
  · have e4 : (bn : Int) ≤ 2000 := by omega
    have C3 := Lib.hid (fun W (hb : Below w.heap.size w W) => read_is (s ++ (⟨#[32, 111, 102, 102, 115, 101, 116, 32]⟩ ++ ⟨(decDigits bn).toArray⟩)) (by omega) ⟨x, 0, (-1), (bn : Int)⟩ (by rw [hTT, hl, if_neg (by omega)]) 0 rfl W (h.below hb))
    dsimp only at C3
    have hl2 := readL_twice hr 0 (by omega) (-1) (bn : Int) (by omega) (by omega) (by omega) (by omega) (by omega)
    have C4 := Lib.hid (fun W (hb : Below w.heap.size w W) => read_not ((s ++ (⟨#[32, 111, 102, 102, 115, 101, 116, 32]⟩ ++ ⟨(decDigits bn).toArray⟩)) ++ ⟨#[32, 111, 114, 100, 101, 114, 32, 97, 115, 99]⟩) (by rw [ByteArray.size_append]; show _ + 10 ≤ 600; omega) (by rw [ByteArray.data_append, Array.toList_append, hTT]; exact hl2) W (h.below hb))
    clear hl2
    clear hl hTT h hr
    go_enter Tryz.func7, Tryz.ntmps7
    go_wp2_with fail
    refine (cA.out _ (Below.refl _ _)).mono ?_
    rintro e w1 ⟨rfl, b1⟩
    have B1 := Lib.hid b1
    clear b1
    go_wp2_with fail
    refine (C1.out _ B1.out).mono ?_
    rintro e w2 ⟨⟨a, tx, z, m, o1, k1, c1, o2, k2, c2, o3, k3, c3, rfl, hn⟩, b2⟩
    have B2 := Lib.hid (B1.out.trans (b2.mono B1.out.size))
    have HN := Lib.hid hn
    have HX2 := Lib.hid (box_start w2 (QBox a tx z m o1 k1 c1 o2 k2 c2 o3 k3 c3 0 (-1) (-1)))
    clear b2 hn
    go_wp2_with fail
    refine (CDb.out _).mono ?_
    rintro e w4 ⟨rfl, b4⟩
    have HX4 := Lib.hid (box_more HX2.out b4)
    have z3 := size_arr (decDigits bn)
    have z4 := HLb.out
    clear b4
    have HB := Lib.hid (below_past B2.out HX4.out)
    go_wp2_with fail
    refine (C3.out _ HB.out).mono ?_
    rintro e w5 ⟨⟨a', tx', z', m', o1', k1', c1', o2', k2', c2', o3', k3', c3', rfl, hn5⟩, b5⟩
    have HN5 := Lib.hid hn5
    have HX5 := Lib.hid (box_more (box_more HX4.out b5) ((Below.refl w5.heap.size w5).alloc (Nat.le_refl _) (QBox a' tx' z' m' o1' k1' c1' o2' k2' c2' o3' k3' c3' 0 (-1) (bn : Int))))
    have HB5 := Lib.hid (below_past B2.out HX5.out)
    clear b5 hn5
    go_wp2_with fail
    refine (C4.out _ HB5.out).mono ?_
    rintro e w6 ⟨rfl, b6⟩
    have HY6 := Lib.hid (box_more (box_more (box_start w5 (QBox a' tx' z' m' o1' k1' c1' o2' k2' c2' o3' k3' c3' 0 (-1) (bn : Int))) b6) ((Below.refl w6.heap.size w6).alloc (Nat.le_refl _) (QBox ⟨#[]⟩ ⟨#[]⟩ 0 0 none 0 0 none 0 0 none 0 0 0 0 0)))
    have HX6 := Lib.hid (box_more (box_more HX5.out b6) ((Below.refl w6.heap.size w6).alloc (Nat.le_refl _) (QBox ⟨#[]⟩ ⟨#[]⟩ 0 0 none 0 0 none 0 0 none 0 0 0 0 0)))
    have HB6 := Lib.hid (below_past B2.out HX6.out)
    obtain ⟨p0, p1, p2, p3, p4, p5, p6, p7, p8, p9⟩ := qbox_reads _ _ _ _ _ _ _ _ _ _ _ _ _ _ _ _ _ _ HX6.out
    obtain ⟨q0, q1, q2, q3, q4, q5, q6, q7, q8, q9⟩ := qbox_reads _ _ _ _ _ _ _ _ _ _ _ _ _ _ _ _ _ _ HY6.out
    have HSM := Lib.hid ((psame_any _ x x (Nat.le_refl _) HFW.out _ _ (w6.alloc (QBox ⟨#[]⟩ ⟨#[]⟩ 0 0 none 0 0 none 0 0 none 0 0 0 0 0)) a tx z m o1 k1 c1 o2 k2 c2 o3 k3 c3 a' tx' z' m' o1' k1' c1' o2' k2' c2' o3' k3' c3' (HN.out.under (((Below.refl w2.heap.size w2).alloc (Nat.le_refl _) _).trans (HX6.out.mono (by omega)))) (HN5.out.under (((Below.refl w5.heap.size w5).alloc (Nat.le_refl _) _).trans (HY6.out.mono (by omega))))).mono (R' := fun e w' => e = .returned (.bool true) ∧ Below (w6.alloc (QBox ⟨#[]⟩ ⟨#[]⟩ 0 0 none 0 0 none 0 0 none 0 0 0 0 0)).heap.size (w6.alloc (QBox ⟨#[]⟩ ⟨#[]⟩ 0 0 none 0 0 none 0 0 none 0 0 0 0 0)) w') (fun e w' q => ⟨by rw [q.1]; simp, q.2⟩))
    clear b6
    go_wp2_with fail
    refine HSM.out.mono ?_
    rintro e w7 ⟨rfl, b7⟩
    have HB7 := Lib.hid (HB6.out.trans (b7.mono HB6.out.size))
    clear b7
    go_wp2
    go_ret
    exact ⟨rfl, HB7.out⟩

set_option maxHeartbeats 8000000 in
set_option maxRecDepth 100000 in
theorem tails_010 (s : ByteArray) (w : World) (h : Env w) (i0 : (s.size : Int) ≤ 300) (x : Ex) (hr : readL s.data.toList = some ⟨x, 0, -1, -1⟩) (order : Int) (g1 : order ≠ 1) (g2 : order ≠ 2) (an : Nat) (ia : (an : Int) ≤ 3000) :
    Calls Tryz.prog 7 #[.string s, .int .i64 order, .int .i64 (an : Int), .int .i64 (-1)] w fun e w' => e = .returned (.bool true) ∧ Below w.heap.size w w' := by
  have cA := Lib.hid (fun W (hb : Below w.heap.size w W) => alive_any W (h.below hb))
  have HFW := Lib.hid (show Few x from read_few (q := ⟨x, 0, -1, -1⟩) (by omega) hr)
  have C1 := Lib.hid (fun W (hb : Below w.heap.size w W) => read_is s (by omega) ⟨x, 0, -1, -1⟩ hr 0 rfl W (h.below hb))
  dsimp only at C1
  have hl := readL_tails hr 0 (by omega) (an : Int) (-1) (by omega) (by omega) (by omega) (by omega)
  have hTT : ((s ++ (⟨#[32, 108, 105, 109, 105, 116, 32]⟩ ++ ⟨(decDigits an).toArray⟩)) : ByteArray).data.toList = s.data.toList ++ (oTxt 0 ++ (rTxt wLimit (an : Int) ++ rTxt wOffset (-1))) := by
    simp only [ByteArray.data_append, Array.toList_append, rtxt_yes, rtxt_no]
    simp [oTxt, wLimit]
  have hsz : ((s ++ (⟨#[32, 108, 105, 109, 105, 116, 32]⟩ ++ ⟨(decDigits an).toArray⟩)) : ByteArray).size ≤ 500 := by
    rw [Lib.size_eq, hTT]
    have h1 := otxt_size 0
    have h2 := rtxt_size wLimit (by decide) (an : Int) (by omega)
    have h3 := rtxt_size wOffset (by decide) (-1) (by omega)
    simp only [List.length_append, ← Lib.size_eq]
    omega
  have CDa := Lib.hid (fun W => rdigits_any an (by omega) W)
  have HLa := Lib.hid (dec_len an 13 (by omega) (by decide))
  have g3 : (order == 1) = false := by simp [g1]
  have g4 : (order == 2) = false := by simp [g2]
  by_cases hbig : 2000 < an
  · have C3 := Lib.hid (fun W (hb : Below w.heap.size w W) => read_not (s ++ (⟨#[32, 108, 105, 109, 105, 116, 32]⟩ ++ ⟨(decDigits an).toArray⟩)) (by omega) (by rw [hTT, hl, if_pos (by omega)]) W (h.below hb))
    clear hl hTT h hr
    have e3 : (2000 : Int) < an := by omega
    clear hbig
    go_enter Tryz.func7, Tryz.ntmps7
    go_wp2_with fail
    refine (cA.out _ (Below.refl _ _)).mono ?_
    rintro e w1 ⟨rfl, b1⟩
    have B1 := Lib.hid b1
    clear b1
    go_wp2_with fail
    refine (C1.out _ B1.out).mono ?_
    rintro e w2 ⟨⟨a, tx, z, m, o1, k1, c1, o2, k2, c2, o3, k3, c3, rfl, hn⟩, b2⟩
    have B2 := Lib.hid (B1.out.trans (b2.mono B1.out.size))
    have HN := Lib.hid hn
    have HX2 := Lib.hid (box_start w2 (QBox a tx z m o1 k1 c1 o2 k2 c2 o3 k3 c3 0 (-1) (-1)))
    clear b2 hn
    go_wp2_with fail
    refine (CDa.out _).mono ?_
    rintro e w3 ⟨rfl, b3⟩
    have HX3 := Lib.hid (box_more HX2.out b3)
    have z1 := size_arr (decDigits an)
    have z2 := HLa.out
    clear b3
    have HB := Lib.hid (below_past B2.out HX3.out)
    go_wp2_with fail
    refine (C3.out _ HB.out).mono ?_
    rintro e w5 ⟨rfl, b5⟩
    have HB5 := Lib.hid (below_box (HB.out.trans (b5.mono HB.out.size)) (QBox ⟨#[]⟩ ⟨#[]⟩ 0 0 none 0 0 none 0 0 none 0 0 0 0 0))
    clear b5
    go_wp2
    go_ret
    exact ⟨rfl, HB5.out⟩
  · have e3 : (an : Int) ≤ 2000 := by omega
    have C3 := Lib.hid (fun W (hb : Below w.heap.size w W) => read_is (s ++ (⟨#[32, 108, 105, 109, 105, 116, 32]⟩ ++ ⟨(decDigits an).toArray⟩)) (by omega) ⟨x, 0, (an : Int), (-1)⟩ (by rw [hTT, hl, if_neg (by omega)]) 0 rfl W (h.below hb))
    dsimp only at C3
    have hl2 := readL_twice hr 0 (by omega) (an : Int) (-1) (by omega) (by omega) (by omega) (by omega) (by omega)
    have C4 := Lib.hid (fun W (hb : Below w.heap.size w W) => read_not ((s ++ (⟨#[32, 108, 105, 109, 105, 116, 32]⟩ ++ ⟨(decDigits an).toArray⟩)) ++ ⟨#[32, 111, 114, 100, 101, 114, 32, 97, 115, 99]⟩) (by rw [ByteArray.size_append]; show _ + 10 ≤ 600; omega) (by rw [ByteArray.data_append, Array.toList_append, hTT]; exact hl2) W (h.below hb))
    clear hl2
    clear hl hTT h hr
    go_enter Tryz.func7, Tryz.ntmps7
    go_wp2_with fail
    refine (cA.out _ (Below.refl _ _)).mono ?_
    rintro e w1 ⟨rfl, b1⟩
    have B1 := Lib.hid b1
    clear b1
    go_wp2_with fail
    refine (C1.out _ B1.out).mono ?_
    rintro e w2 ⟨⟨a, tx, z, m, o1, k1, c1, o2, k2, c2, o3, k3, c3, rfl, hn⟩, b2⟩
    have B2 := Lib.hid (B1.out.trans (b2.mono B1.out.size))
    have HN := Lib.hid hn
    have HX2 := Lib.hid (box_start w2 (QBox a tx z m o1 k1 c1 o2 k2 c2 o3 k3 c3 0 (-1) (-1)))
    clear b2 hn
    go_wp2_with fail
    refine (CDa.out _).mono ?_
    rintro e w3 ⟨rfl, b3⟩
    have HX3 := Lib.hid (box_more HX2.out b3)
    have z1 := size_arr (decDigits an)
    have z2 := HLa.out
    clear b3
    have HB := Lib.hid (below_past B2.out HX3.out)
    go_wp2_with fail
    refine (C3.out _ HB.out).mono ?_
    rintro e w5 ⟨⟨a', tx', z', m', o1', k1', c1', o2', k2', c2', o3', k3', c3', rfl, hn5⟩, b5⟩
    have HN5 := Lib.hid hn5
    have HX5 := Lib.hid (box_more (box_more HX3.out b5) ((Below.refl w5.heap.size w5).alloc (Nat.le_refl _) (QBox a' tx' z' m' o1' k1' c1' o2' k2' c2' o3' k3' c3' 0 (an : Int) (-1))))
    have HB5 := Lib.hid (below_past B2.out HX5.out)
    clear b5 hn5
    go_wp2_with fail
    refine (C4.out _ HB5.out).mono ?_
    rintro e w6 ⟨rfl, b6⟩
    have HY6 := Lib.hid (box_more (box_more (box_start w5 (QBox a' tx' z' m' o1' k1' c1' o2' k2' c2' o3' k3' c3' 0 (an : Int) (-1))) b6) ((Below.refl w6.heap.size w6).alloc (Nat.le_refl _) (QBox ⟨#[]⟩ ⟨#[]⟩ 0 0 none 0 0 none 0 0 none 0 0 0 0 0)))
    have HX6 := Lib.hid (box_more (box_more HX5.out b6) ((Below.refl w6.heap.size w6).alloc (Nat.le_refl _) (QBox ⟨#[]⟩ ⟨#[]⟩ 0 0 none 0 0 none 0 0 none 0 0 0 0 0)))
    have HB6 := Lib.hid (below_past B2.out HX6.out)
    obtain ⟨p0, p1, p2, p3, p4, p5, p6, p7, p8, p9⟩ := qbox_reads _ _ _ _ _ _ _ _ _ _ _ _ _ _ _ _ _ _ HX6.out
    obtain ⟨q0, q1, q2, q3, q4, q5, q6, q7, q8, q9⟩ := qbox_reads _ _ _ _ _ _ _ _ _ _ _ _ _ _ _ _ _ _ HY6.out
    have HSM := Lib.hid ((psame_any _ x x (Nat.le_refl _) HFW.out _ _ (w6.alloc (QBox ⟨#[]⟩ ⟨#[]⟩ 0 0 none 0 0 none 0 0 none 0 0 0 0 0)) a tx z m o1 k1 c1 o2 k2 c2 o3 k3 c3 a' tx' z' m' o1' k1' c1' o2' k2' c2' o3' k3' c3' (HN.out.under (((Below.refl w2.heap.size w2).alloc (Nat.le_refl _) _).trans (HX6.out.mono (by omega)))) (HN5.out.under (((Below.refl w5.heap.size w5).alloc (Nat.le_refl _) _).trans (HY6.out.mono (by omega))))).mono (R' := fun e w' => e = .returned (.bool true) ∧ Below (w6.alloc (QBox ⟨#[]⟩ ⟨#[]⟩ 0 0 none 0 0 none 0 0 none 0 0 0 0 0)).heap.size (w6.alloc (QBox ⟨#[]⟩ ⟨#[]⟩ 0 0 none 0 0 none 0 0 none 0 0 0 0 0)) w') (fun e w' q => ⟨by rw [q.1]; simp, q.2⟩))
    clear b6
    go_wp2_with fail
    refine HSM.out.mono ?_
    rintro e w7 ⟨rfl, b7⟩
    have HB7 := Lib.hid (HB6.out.trans (b7.mono HB6.out.size))
    clear b7
    go_wp2
    go_ret
    exact ⟨rfl, HB7.out⟩

set_option maxHeartbeats 8000000 in
set_option maxRecDepth 100000 in
theorem tails_011 (s : ByteArray) (w : World) (h : Env w) (i0 : (s.size : Int) ≤ 300) (x : Ex) (hr : readL s.data.toList = some ⟨x, 0, -1, -1⟩) (order : Int) (g1 : order ≠ 1) (g2 : order ≠ 2) (an : Nat) (ia : (an : Int) ≤ 3000) (bn : Nat) (ib : (bn : Int) ≤ 3000) :
    Calls Tryz.prog 7 #[.string s, .int .i64 order, .int .i64 (an : Int), .int .i64 (bn : Int)] w fun e w' => e = .returned (.bool true) ∧ Below w.heap.size w w' := by
  have cA := Lib.hid (fun W (hb : Below w.heap.size w W) => alive_any W (h.below hb))
  have HFW := Lib.hid (show Few x from read_few (q := ⟨x, 0, -1, -1⟩) (by omega) hr)
  have C1 := Lib.hid (fun W (hb : Below w.heap.size w W) => read_is s (by omega) ⟨x, 0, -1, -1⟩ hr 0 rfl W (h.below hb))
  dsimp only at C1
  have hl := readL_tails hr 0 (by omega) (an : Int) (bn : Int) (by omega) (by omega) (by omega) (by omega)
  have hTT : (((s ++ (⟨#[32, 108, 105, 109, 105, 116, 32]⟩ ++ ⟨(decDigits an).toArray⟩)) ++ (⟨#[32, 111, 102, 102, 115, 101, 116, 32]⟩ ++ ⟨(decDigits bn).toArray⟩)) : ByteArray).data.toList = s.data.toList ++ (oTxt 0 ++ (rTxt wLimit (an : Int) ++ rTxt wOffset (bn : Int))) := by
    simp only [ByteArray.data_append, Array.toList_append, rtxt_yes]
    simp [oTxt, wLimit, wOffset]
  have hsz : (((s ++ (⟨#[32, 108, 105, 109, 105, 116, 32]⟩ ++ ⟨(decDigits an).toArray⟩)) ++ (⟨#[32, 111, 102, 102, 115, 101, 116, 32]⟩ ++ ⟨(decDigits bn).toArray⟩)) : ByteArray).size ≤ 500 := by
    rw [Lib.size_eq, hTT]
    have h1 := otxt_size 0
    have h2 := rtxt_size wLimit (by decide) (an : Int) (by omega)
    have h3 := rtxt_size wOffset (by decide) (bn : Int) (by omega)
    simp only [List.length_append, ← Lib.size_eq]
    omega
  have CDa := Lib.hid (fun W => rdigits_any an (by omega) W)
  have HLa := Lib.hid (dec_len an 13 (by omega) (by decide))
  have CDb := Lib.hid (fun W => rdigits_any bn (by omega) W)
  have HLb := Lib.hid (dec_len bn 13 (by omega) (by decide))
  have g3 : (order == 1) = false := by simp [g1]
  have g4 : (order == 2) = false := by simp [g2]
  by_cases hbig : 2000 < an ∨ 2000 < bn
  · have C3 := Lib.hid (fun W (hb : Below w.heap.size w W) => read_not ((s ++ (⟨#[32, 108, 105, 109, 105, 116, 32]⟩ ++ ⟨(decDigits an).toArray⟩)) ++ (⟨#[32, 111, 102, 102, 115, 101, 116, 32]⟩ ++ ⟨(decDigits bn).toArray⟩)) (by omega) (by rw [hTT, hl, if_pos (by omega)]) W (h.below hb))
    have hb2 : (2000 < an) ∨ (an ≤ 2000 ∧ 2000 < bn) := by omega
    clear hl hTT h hr
    rcases hb2 with e1 | ⟨e1, e2⟩
    · have e3 : (2000 : Int) < an := by omega
      clear e1 hbig
      go_enter Tryz.func7, Tryz.ntmps7
      go_wp2_with fail
      refine (cA.out _ (Below.refl _ _)).mono ?_
      rintro e w1 ⟨rfl, b1⟩
      have B1 := Lib.hid b1
      clear b1
      go_wp2_with fail
      refine (C1.out _ B1.out).mono ?_
      rintro e w2 ⟨⟨a, tx, z, m, o1, k1, c1, o2, k2, c2, o3, k3, c3, rfl, hn⟩, b2⟩
      have B2 := Lib.hid (B1.out.trans (b2.mono B1.out.size))
      have HN := Lib.hid hn
      have HX2 := Lib.hid (box_start w2 (QBox a tx z m o1 k1 c1 o2 k2 c2 o3 k3 c3 0 (-1) (-1)))
      clear b2 hn
      go_wp2_with fail
      refine (CDa.out _).mono ?_
      rintro e w3 ⟨rfl, b3⟩
      have HX3 := Lib.hid (box_more HX2.out b3)
      have z1 := size_arr (decDigits an)
      have z2 := HLa.out
      clear b3
      go_wp2_with fail
      refine (CDb.out _).mono ?_
      rintro e w4 ⟨rfl, b4⟩
      have HX4 := Lib.hid (box_more HX3.out b4)
      have z3 := size_arr (decDigits bn)
      have z4 := HLb.out
      clear b4
      have HB := Lib.hid (below_past B2.out HX4.out)
      go_wp2_with fail
      refine (C3.out _ HB.out).mono ?_
      rintro e w5 ⟨rfl, b5⟩
      have HB5 := Lib.hid (below_box (HB.out.trans (b5.mono HB.out.size)) (QBox ⟨#[]⟩ ⟨#[]⟩ 0 0 none 0 0 none 0 0 none 0 0 0 0 0))
      clear b5
      go_wp2
      go_ret
      exact ⟨rfl, HB5.out⟩
    · have e3 : (an : Int) ≤ 2000 := by omega
      have e4 : (2000 : Int) < bn := by omega
      clear e1 e2 hbig
      go_enter Tryz.func7, Tryz.ntmps7
      go_wp2_with fail
      refine (cA.out _ (Below.refl _ _)).mono ?_
      rintro e w1 ⟨rfl, b1⟩
      have B1 := Lib.hid b1
      clear b1
      go_wp2_with fail
      refine (C1.out _ B1.out).mono ?_
      rintro e w2 ⟨⟨a, tx, z, m, o1, k1, c1, o2, k2, c2, o3, k3, c3, rfl, hn⟩, b2⟩
      have B2 := Lib.hid (B1.out.trans (b2.mono B1.out.size))
      have HN := Lib.hid hn
      have HX2 := Lib.hid (box_start w2 (QBox a tx z m o1 k1 c1 o2 k2 c2 o3 k3 c3 0 (-1) (-1)))
      clear b2 hn
      go_wp2_with fail
      refine (CDa.out _).mono ?_
      rintro e w3 ⟨rfl, b3⟩
      have HX3 := Lib.hid (box_more HX2.out b3)
      have z1 := size_arr (decDigits an)
      have z2 := HLa.out
      clear b3
      go_wp2_with fail
      refine (CDb.out _).mono ?_
      rintro e w4 ⟨rfl, b4⟩
      have HX4 := Lib.hid (box_more HX3.out b4)
      have z3 := size_arr (decDigits bn)
      have z4 := HLb.out
      clear b4
      have HB := Lib.hid (below_past B2.out HX4.out)
      go_wp2_with fail
      refine (C3.out _ HB.out).mono ?_
      rintro e w5 ⟨rfl, b5⟩
      have HB5 := Lib.hid (below_box (HB.out.trans (b5.mono HB.out.size)) (QBox ⟨#[]⟩ ⟨#[]⟩ 0 0 none 0 0 none 0 0 none 0 0 0 0 0))
      clear b5
      go_wp2
      go_ret
      exact ⟨rfl, HB5.out⟩
  · have e3 : (an : Int) ≤ 2000 := by omega
    have e4 : (bn : Int) ≤ 2000 := by omega
    have C3 := Lib.hid (fun W (hb : Below w.heap.size w W) => read_is ((s ++ (⟨#[32, 108, 105, 109, 105, 116, 32]⟩ ++ ⟨(decDigits an).toArray⟩)) ++ (⟨#[32, 111, 102, 102, 115, 101, 116, 32]⟩ ++ ⟨(decDigits bn).toArray⟩)) (by omega) ⟨x, 0, (an : Int), (bn : Int)⟩ (by rw [hTT, hl, if_neg (by omega)]) 0 rfl W (h.below hb))
    dsimp only at C3
    have hl2 := readL_twice hr 0 (by omega) (an : Int) (bn : Int) (by omega) (by omega) (by omega) (by omega) (by omega)
    have C4 := Lib.hid (fun W (hb : Below w.heap.size w W) => read_not (((s ++ (⟨#[32, 108, 105, 109, 105, 116, 32]⟩ ++ ⟨(decDigits an).toArray⟩)) ++ (⟨#[32, 111, 102, 102, 115, 101, 116, 32]⟩ ++ ⟨(decDigits bn).toArray⟩)) ++ ⟨#[32, 111, 114, 100, 101, 114, 32, 97, 115, 99]⟩) (by rw [ByteArray.size_append]; show _ + 10 ≤ 600; omega) (by rw [ByteArray.data_append, Array.toList_append, hTT]; exact hl2) W (h.below hb))
    clear hl2
    clear hl hTT h hr
    go_enter Tryz.func7, Tryz.ntmps7
    go_wp2_with fail
    refine (cA.out _ (Below.refl _ _)).mono ?_
    rintro e w1 ⟨rfl, b1⟩
    have B1 := Lib.hid b1
    clear b1
    go_wp2_with fail
    refine (C1.out _ B1.out).mono ?_
    rintro e w2 ⟨⟨a, tx, z, m, o1, k1, c1, o2, k2, c2, o3, k3, c3, rfl, hn⟩, b2⟩
    have B2 := Lib.hid (B1.out.trans (b2.mono B1.out.size))
    have HN := Lib.hid hn
    have HX2 := Lib.hid (box_start w2 (QBox a tx z m o1 k1 c1 o2 k2 c2 o3 k3 c3 0 (-1) (-1)))
    clear b2 hn
    go_wp2_with fail
    refine (CDa.out _).mono ?_
    rintro e w3 ⟨rfl, b3⟩
    have HX3 := Lib.hid (box_more HX2.out b3)
    have z1 := size_arr (decDigits an)
    have z2 := HLa.out
    clear b3
    go_wp2_with fail
    refine (CDb.out _).mono ?_
    rintro e w4 ⟨rfl, b4⟩
    have HX4 := Lib.hid (box_more HX3.out b4)
    have z3 := size_arr (decDigits bn)
    have z4 := HLb.out
    clear b4
    have HB := Lib.hid (below_past B2.out HX4.out)
    go_wp2_with fail
    refine (C3.out _ HB.out).mono ?_
    rintro e w5 ⟨⟨a', tx', z', m', o1', k1', c1', o2', k2', c2', o3', k3', c3', rfl, hn5⟩, b5⟩
    have HN5 := Lib.hid hn5
    have HX5 := Lib.hid (box_more (box_more HX4.out b5) ((Below.refl w5.heap.size w5).alloc (Nat.le_refl _) (QBox a' tx' z' m' o1' k1' c1' o2' k2' c2' o3' k3' c3' 0 (an : Int) (bn : Int))))
    have HB5 := Lib.hid (below_past B2.out HX5.out)
    clear b5 hn5
    go_wp2_with fail
    refine (C4.out _ HB5.out).mono ?_
    rintro e w6 ⟨rfl, b6⟩
    have HY6 := Lib.hid (box_more (box_more (box_start w5 (QBox a' tx' z' m' o1' k1' c1' o2' k2' c2' o3' k3' c3' 0 (an : Int) (bn : Int))) b6) ((Below.refl w6.heap.size w6).alloc (Nat.le_refl _) (QBox ⟨#[]⟩ ⟨#[]⟩ 0 0 none 0 0 none 0 0 none 0 0 0 0 0)))
    have HX6 := Lib.hid (box_more (box_more HX5.out b6) ((Below.refl w6.heap.size w6).alloc (Nat.le_refl _) (QBox ⟨#[]⟩ ⟨#[]⟩ 0 0 none 0 0 none 0 0 none 0 0 0 0 0)))
    have HB6 := Lib.hid (below_past B2.out HX6.out)
    obtain ⟨p0, p1, p2, p3, p4, p5, p6, p7, p8, p9⟩ := qbox_reads _ _ _ _ _ _ _ _ _ _ _ _ _ _ _ _ _ _ HX6.out
    obtain ⟨q0, q1, q2, q3, q4, q5, q6, q7, q8, q9⟩ := qbox_reads _ _ _ _ _ _ _ _ _ _ _ _ _ _ _ _ _ _ HY6.out
    have HSM := Lib.hid ((psame_any _ x x (Nat.le_refl _) HFW.out _ _ (w6.alloc (QBox ⟨#[]⟩ ⟨#[]⟩ 0 0 none 0 0 none 0 0 none 0 0 0 0 0)) a tx z m o1 k1 c1 o2 k2 c2 o3 k3 c3 a' tx' z' m' o1' k1' c1' o2' k2' c2' o3' k3' c3' (HN.out.under (((Below.refl w2.heap.size w2).alloc (Nat.le_refl _) _).trans (HX6.out.mono (by omega)))) (HN5.out.under (((Below.refl w5.heap.size w5).alloc (Nat.le_refl _) _).trans (HY6.out.mono (by omega))))).mono (R' := fun e w' => e = .returned (.bool true) ∧ Below (w6.alloc (QBox ⟨#[]⟩ ⟨#[]⟩ 0 0 none 0 0 none 0 0 none 0 0 0 0 0)).heap.size (w6.alloc (QBox ⟨#[]⟩ ⟨#[]⟩ 0 0 none 0 0 none 0 0 none 0 0 0 0 0)) w') (fun e w' q => ⟨by rw [q.1]; simp, q.2⟩))
    clear b6
    go_wp2_with fail
    refine HSM.out.mono ?_
    rintro e w7 ⟨rfl, b7⟩
    have HB7 := Lib.hid (HB6.out.trans (b7.mono HB6.out.size))
    clear b7
    go_wp2
    go_ret
    exact ⟨rfl, HB7.out⟩

set_option maxHeartbeats 8000000 in
set_option maxRecDepth 100000 in
theorem tails_100 (s : ByteArray) (w : World) (h : Env w) (i0 : (s.size : Int) ≤ 300) (x : Ex) (hr : readL s.data.toList = some ⟨x, 0, -1, -1⟩) :
    Calls Tryz.prog 7 #[.string s, .int .i64 1, .int .i64 (-1), .int .i64 (-1)] w fun e w' => e = .returned (.bool true) ∧ Below w.heap.size w w' := by
  have cA := Lib.hid (fun W (hb : Below w.heap.size w W) => alive_any W (h.below hb))
  have HFW := Lib.hid (show Few x from read_few (q := ⟨x, 0, -1, -1⟩) (by omega) hr)
  have C1 := Lib.hid (fun W (hb : Below w.heap.size w W) => read_is s (by omega) ⟨x, 0, -1, -1⟩ hr 0 rfl W (h.below hb))
  dsimp only at C1
  have hl := readL_tails hr 1 (by omega) (-1) (-1) (by omega) (by omega) (by omega) (by omega)
  have hTT : ((s ++ ⟨#[32, 111, 114, 100, 101, 114, 32, 97, 115, 99]⟩) : ByteArray).data.toList = s.data.toList ++ (oTxt 1 ++ (rTxt wLimit (-1) ++ rTxt wOffset (-1))) := by
    simp only [ByteArray.data_append, Array.toList_append, rtxt_no]
    simp [oTxt, wOrder, wAsc]
  have hsz : ((s ++ ⟨#[32, 111, 114, 100, 101, 114, 32, 97, 115, 99]⟩) : ByteArray).size ≤ 500 := by
    rw [Lib.size_eq, hTT]
    have h1 := otxt_size 1
    have h2 := rtxt_size wLimit (by decide) (-1) (by omega)
    have h3 := rtxt_size wOffset (by decide) (-1) (by omega)
    simp only [List.length_append, ← Lib.size_eq]
    omega
  have C3 := Lib.hid (fun W (hb : Below w.heap.size w W) => read_is (s ++ ⟨#[32, 111, 114, 100, 101, 114, 32, 97, 115, 99]⟩) (by omega) ⟨x, 1, (-1), (-1)⟩ (by rw [hTT, hl, if_neg (by omega)]) 1 rfl W (h.below hb))
  dsimp only at C3
  have hl2 := readL_twice hr 1 (by omega) (-1) (-1) (by omega) (by omega) (by omega) (by omega) (by omega)
  have C4 := Lib.hid (fun W (hb : Below w.heap.size w W) => read_not ((s ++ ⟨#[32, 111, 114, 100, 101, 114, 32, 97, 115, 99]⟩) ++ ⟨#[32, 111, 114, 100, 101, 114, 32, 97, 115, 99]⟩) (by rw [ByteArray.size_append]; show _ + 10 ≤ 600; omega) (by rw [ByteArray.data_append, Array.toList_append, hTT]; exact hl2) W (h.below hb))
  clear hl2
  clear hl hTT h hr
  go_enter Tryz.func7, Tryz.ntmps7
  go_wp2_with fail
  refine (cA.out _ (Below.refl _ _)).mono ?_
  rintro e w1 ⟨rfl, b1⟩
  have B1 := Lib.hid b1
  clear b1
  go_wp2_with fail
  refine (C1.out _ B1.out).mono ?_
  rintro e w2 ⟨⟨a, tx, z, m, o1, k1, c1, o2, k2, c2, o3, k3, c3, rfl, hn⟩, b2⟩
  have B2 := Lib.hid (B1.out.trans (b2.mono B1.out.size))
  have HN := Lib.hid hn
  have HX2 := Lib.hid (box_start w2 (QBox a tx z m o1 k1 c1 o2 k2 c2 o3 k3 c3 0 (-1) (-1)))
  clear b2 hn
  have HB := Lib.hid (below_past B2.out HX2.out)
  go_wp2_with fail
  refine (C3.out _ HB.out).mono ?_
  rintro e w5 ⟨⟨a', tx', z', m', o1', k1', c1', o2', k2', c2', o3', k3', c3', rfl, hn5⟩, b5⟩
  have HN5 := Lib.hid hn5
  have HX5 := Lib.hid (box_more (box_more HX2.out b5) ((Below.refl w5.heap.size w5).alloc (Nat.le_refl _) (QBox a' tx' z' m' o1' k1' c1' o2' k2' c2' o3' k3' c3' 1 (-1) (-1))))
  have HB5 := Lib.hid (below_past B2.out HX5.out)
  clear b5 hn5
  go_wp2_with fail
  refine (C4.out _ HB5.out).mono ?_
  rintro e w6 ⟨rfl, b6⟩
  have HY6 := Lib.hid (box_more (box_more (box_start w5 (QBox a' tx' z' m' o1' k1' c1' o2' k2' c2' o3' k3' c3' 1 (-1) (-1))) b6) ((Below.refl w6.heap.size w6).alloc (Nat.le_refl _) (QBox ⟨#[]⟩ ⟨#[]⟩ 0 0 none 0 0 none 0 0 none 0 0 0 0 0)))
  have HX6 := Lib.hid (box_more (box_more HX5.out b6) ((Below.refl w6.heap.size w6).alloc (Nat.le_refl _) (QBox ⟨#[]⟩ ⟨#[]⟩ 0 0 none 0 0 none 0 0 none 0 0 0 0 0)))
  have HB6 := Lib.hid (below_past B2.out HX6.out)
  obtain ⟨p0, p1, p2, p3, p4, p5, p6, p7, p8, p9⟩ := qbox_reads _ _ _ _ _ _ _ _ _ _ _ _ _ _ _ _ _ _ HX6.out
  obtain ⟨q0, q1, q2, q3, q4, q5, q6, q7, q8, q9⟩ := qbox_reads _ _ _ _ _ _ _ _ _ _ _ _ _ _ _ _ _ _ HY6.out
  have HSM := Lib.hid ((psame_any _ x x (Nat.le_refl _) HFW.out _ _ (w6.alloc (QBox ⟨#[]⟩ ⟨#[]⟩ 0 0 none 0 0 none 0 0 none 0 0 0 0 0)) a tx z m o1 k1 c1 o2 k2 c2 o3 k3 c3 a' tx' z' m' o1' k1' c1' o2' k2' c2' o3' k3' c3' (HN.out.under (((Below.refl w2.heap.size w2).alloc (Nat.le_refl _) _).trans (HX6.out.mono (by omega)))) (HN5.out.under (((Below.refl w5.heap.size w5).alloc (Nat.le_refl _) _).trans (HY6.out.mono (by omega))))).mono (R' := fun e w' => e = .returned (.bool true) ∧ Below (w6.alloc (QBox ⟨#[]⟩ ⟨#[]⟩ 0 0 none 0 0 none 0 0 none 0 0 0 0 0)).heap.size (w6.alloc (QBox ⟨#[]⟩ ⟨#[]⟩ 0 0 none 0 0 none 0 0 none 0 0 0 0 0)) w') (fun e w' q => ⟨by rw [q.1]; simp, q.2⟩))
  clear b6
  go_wp2_with fail
  refine HSM.out.mono ?_
  rintro e w7 ⟨rfl, b7⟩
  have HB7 := Lib.hid (HB6.out.trans (b7.mono HB6.out.size))
  clear b7
  go_wp2
  go_ret
  exact ⟨rfl, HB7.out⟩

set_option maxHeartbeats 8000000 in
set_option maxRecDepth 100000 in
theorem tails_101 (s : ByteArray) (w : World) (h : Env w) (i0 : (s.size : Int) ≤ 300) (x : Ex) (hr : readL s.data.toList = some ⟨x, 0, -1, -1⟩) (bn : Nat) (ib : (bn : Int) ≤ 3000) :
    Calls Tryz.prog 7 #[.string s, .int .i64 1, .int .i64 (-1), .int .i64 (bn : Int)] w fun e w' => e = .returned (.bool true) ∧ Below w.heap.size w w' := by
  have cA := Lib.hid (fun W (hb : Below w.heap.size w W) => alive_any W (h.below hb))
  have HFW := Lib.hid (show Few x from read_few (q := ⟨x, 0, -1, -1⟩) (by omega) hr)
  have C1 := Lib.hid (fun W (hb : Below w.heap.size w W) => read_is s (by omega) ⟨x, 0, -1, -1⟩ hr 0 rfl W (h.below hb))
  dsimp only at C1
  have hl := readL_tails hr 1 (by omega) (-1) (bn : Int) (by omega) (by omega) (by omega) (by omega)
  have hTT : (((s ++ ⟨#[32, 111, 114, 100, 101, 114, 32, 97, 115, 99]⟩) ++ (⟨#[32, 111, 102, 102, 115, 101, 116, 32]⟩ ++ ⟨(decDigits bn).toArray⟩)) : ByteArray).data.toList = s.data.toList ++ (oTxt 1 ++ (rTxt wLimit (-1) ++ rTxt wOffset (bn : Int))) := by
    simp only [ByteArray.data_append, Array.toList_append, rtxt_yes, rtxt_no]
    simp [oTxt, wOrder, wAsc, wOffset]
  have hsz : (((s ++ ⟨#[32, 111, 114, 100, 101, 114, 32, 97, 115, 99]⟩) ++ (⟨#[32, 111, 102, 102, 115, 101, 116, 32]⟩ ++ ⟨(decDigits bn).toArray⟩)) : ByteArray).size ≤ 500 := by
    rw [Lib.size_eq, hTT]
    have h1 := otxt_size 1
    have h2 := rtxt_size wLimit (by decide) (-1) (by omega)
    have h3 := rtxt_size wOffset (by decide) (bn : Int) (by omega)
    simp only [List.length_append, ← Lib.size_eq]
    omega
  have CDb := Lib.hid (fun W => rdigits_any bn (by omega) W)
  have HLb := Lib.hid (dec_len bn 13 (by omega) (by decide))
  by_cases hbig : 2000 < bn
  · have C3 := Lib.hid (fun W (hb : Below w.heap.size w W) => read_not ((s ++ ⟨#[32, 111, 114, 100, 101, 114, 32, 97, 115, 99]⟩) ++ (⟨#[32, 111, 102, 102, 115, 101, 116, 32]⟩ ++ ⟨(decDigits bn).toArray⟩)) (by omega) (by rw [hTT, hl, if_pos (by omega)]) W (h.below hb))
    clear hl hTT h hr
    have e3 : (2000 : Int) < bn := by omega
    clear hbig
    go_enter Tryz.func7, Tryz.ntmps7
    go_wp2_with fail
    refine (cA.out _ (Below.refl _ _)).mono ?_
    rintro e w1 ⟨rfl, b1⟩
    have B1 := Lib.hid b1
    clear b1
    go_wp2_with fail
    refine (C1.out _ B1.out).mono ?_
    rintro e w2 ⟨⟨a, tx, z, m, o1, k1, c1, o2, k2, c2, o3, k3, c3, rfl, hn⟩, b2⟩
    have B2 := Lib.hid (B1.out.trans (b2.mono B1.out.size))
    have HN := Lib.hid hn
    have HX2 := Lib.hid (box_start w2 (QBox a tx z m o1 k1 c1 o2 k2 c2 o3 k3 c3 0 (-1) (-1)))
    clear b2 hn
    go_wp2_with fail
    refine (CDb.out _).mono ?_
    rintro e w4 ⟨rfl, b4⟩
    have HX4 := Lib.hid (box_more HX2.out b4)
    have z3 := size_arr (decDigits bn)
    have z4 := HLb.out
    clear b4
    have HB := Lib.hid (below_past B2.out HX4.out)
    go_wp2_with fail
    refine (C3.out _ HB.out).mono ?_
    rintro e w5 ⟨rfl, b5⟩
    have HB5 := Lib.hid (below_box (HB.out.trans (b5.mono HB.out.size)) (QBox ⟨#[]⟩ ⟨#[]⟩ 0 0 none 0 0 none 0 0 none 0 0 0 0 0))
    clear b5
    go_wp2
    go_ret
    exact ⟨rfl, HB5.out⟩
  · have e4 : (bn : Int) ≤ 2000 := by omega
    have C3 := Lib.hid (fun W (hb : Below w.heap.size w W) => read_is ((s ++ ⟨#[32, 111, 114, 100, 101, 114, 32, 97, 115, 99]⟩) ++ (⟨#[32, 111, 102, 102, 115, 101, 116, 32]⟩ ++ ⟨(decDigits bn).toArray⟩)) (by omega) ⟨x, 1, (-1), (bn : Int)⟩ (by rw [hTT, hl, if_neg (by omega)]) 1 rfl W (h.below hb))
    dsimp only at C3
    have hl2 := readL_twice hr 1 (by omega) (-1) (bn : Int) (by omega) (by omega) (by omega) (by omega) (by omega)
    have C4 := Lib.hid (fun W (hb : Below w.heap.size w W) => read_not (((s ++ ⟨#[32, 111, 114, 100, 101, 114, 32, 97, 115, 99]⟩) ++ (⟨#[32, 111, 102, 102, 115, 101, 116, 32]⟩ ++ ⟨(decDigits bn).toArray⟩)) ++ ⟨#[32, 111, 114, 100, 101, 114, 32, 97, 115, 99]⟩) (by rw [ByteArray.size_append]; show _ + 10 ≤ 600; omega) (by rw [ByteArray.data_append, Array.toList_append, hTT]; exact hl2) W (h.below hb))
    clear hl2
    clear hl hTT h hr
    go_enter Tryz.func7, Tryz.ntmps7
    go_wp2_with fail
    refine (cA.out _ (Below.refl _ _)).mono ?_
    rintro e w1 ⟨rfl, b1⟩
    have B1 := Lib.hid b1
    clear b1
    go_wp2_with fail
    refine (C1.out _ B1.out).mono ?_
    rintro e w2 ⟨⟨a, tx, z, m, o1, k1, c1, o2, k2, c2, o3, k3, c3, rfl, hn⟩, b2⟩
    have B2 := Lib.hid (B1.out.trans (b2.mono B1.out.size))
    have HN := Lib.hid hn
    have HX2 := Lib.hid (box_start w2 (QBox a tx z m o1 k1 c1 o2 k2 c2 o3 k3 c3 0 (-1) (-1)))
    clear b2 hn
    go_wp2_with fail
    refine (CDb.out _).mono ?_
    rintro e w4 ⟨rfl, b4⟩
    have HX4 := Lib.hid (box_more HX2.out b4)
    have z3 := size_arr (decDigits bn)
    have z4 := HLb.out
    clear b4
    have HB := Lib.hid (below_past B2.out HX4.out)
    go_wp2_with fail
    refine (C3.out _ HB.out).mono ?_
    rintro e w5 ⟨⟨a', tx', z', m', o1', k1', c1', o2', k2', c2', o3', k3', c3', rfl, hn5⟩, b5⟩
    have HN5 := Lib.hid hn5
    have HX5 := Lib.hid (box_more (box_more HX4.out b5) ((Below.refl w5.heap.size w5).alloc (Nat.le_refl _) (QBox a' tx' z' m' o1' k1' c1' o2' k2' c2' o3' k3' c3' 1 (-1) (bn : Int))))
    have HB5 := Lib.hid (below_past B2.out HX5.out)
    clear b5 hn5
    go_wp2_with fail
    refine (C4.out _ HB5.out).mono ?_
    rintro e w6 ⟨rfl, b6⟩
    have HY6 := Lib.hid (box_more (box_more (box_start w5 (QBox a' tx' z' m' o1' k1' c1' o2' k2' c2' o3' k3' c3' 1 (-1) (bn : Int))) b6) ((Below.refl w6.heap.size w6).alloc (Nat.le_refl _) (QBox ⟨#[]⟩ ⟨#[]⟩ 0 0 none 0 0 none 0 0 none 0 0 0 0 0)))
    have HX6 := Lib.hid (box_more (box_more HX5.out b6) ((Below.refl w6.heap.size w6).alloc (Nat.le_refl _) (QBox ⟨#[]⟩ ⟨#[]⟩ 0 0 none 0 0 none 0 0 none 0 0 0 0 0)))
    have HB6 := Lib.hid (below_past B2.out HX6.out)
    obtain ⟨p0, p1, p2, p3, p4, p5, p6, p7, p8, p9⟩ := qbox_reads _ _ _ _ _ _ _ _ _ _ _ _ _ _ _ _ _ _ HX6.out
    obtain ⟨q0, q1, q2, q3, q4, q5, q6, q7, q8, q9⟩ := qbox_reads _ _ _ _ _ _ _ _ _ _ _ _ _ _ _ _ _ _ HY6.out
    have HSM := Lib.hid ((psame_any _ x x (Nat.le_refl _) HFW.out _ _ (w6.alloc (QBox ⟨#[]⟩ ⟨#[]⟩ 0 0 none 0 0 none 0 0 none 0 0 0 0 0)) a tx z m o1 k1 c1 o2 k2 c2 o3 k3 c3 a' tx' z' m' o1' k1' c1' o2' k2' c2' o3' k3' c3' (HN.out.under (((Below.refl w2.heap.size w2).alloc (Nat.le_refl _) _).trans (HX6.out.mono (by omega)))) (HN5.out.under (((Below.refl w5.heap.size w5).alloc (Nat.le_refl _) _).trans (HY6.out.mono (by omega))))).mono (R' := fun e w' => e = .returned (.bool true) ∧ Below (w6.alloc (QBox ⟨#[]⟩ ⟨#[]⟩ 0 0 none 0 0 none 0 0 none 0 0 0 0 0)).heap.size (w6.alloc (QBox ⟨#[]⟩ ⟨#[]⟩ 0 0 none 0 0 none 0 0 none 0 0 0 0 0)) w') (fun e w' q => ⟨by rw [q.1]; simp, q.2⟩))
    clear b6
    go_wp2_with fail
    refine HSM.out.mono ?_
    rintro e w7 ⟨rfl, b7⟩
    have HB7 := Lib.hid (HB6.out.trans (b7.mono HB6.out.size))
    clear b7
    go_wp2
    go_ret
    exact ⟨rfl, HB7.out⟩

set_option maxHeartbeats 8000000 in
set_option maxRecDepth 100000 in
theorem tails_110 (s : ByteArray) (w : World) (h : Env w) (i0 : (s.size : Int) ≤ 300) (x : Ex) (hr : readL s.data.toList = some ⟨x, 0, -1, -1⟩) (an : Nat) (ia : (an : Int) ≤ 3000) :
    Calls Tryz.prog 7 #[.string s, .int .i64 1, .int .i64 (an : Int), .int .i64 (-1)] w fun e w' => e = .returned (.bool true) ∧ Below w.heap.size w w' := by
  have cA := Lib.hid (fun W (hb : Below w.heap.size w W) => alive_any W (h.below hb))
  have HFW := Lib.hid (show Few x from read_few (q := ⟨x, 0, -1, -1⟩) (by omega) hr)
  have C1 := Lib.hid (fun W (hb : Below w.heap.size w W) => read_is s (by omega) ⟨x, 0, -1, -1⟩ hr 0 rfl W (h.below hb))
  dsimp only at C1
  have hl := readL_tails hr 1 (by omega) (an : Int) (-1) (by omega) (by omega) (by omega) (by omega)
  have hTT : (((s ++ ⟨#[32, 111, 114, 100, 101, 114, 32, 97, 115, 99]⟩) ++ (⟨#[32, 108, 105, 109, 105, 116, 32]⟩ ++ ⟨(decDigits an).toArray⟩)) : ByteArray).data.toList = s.data.toList ++ (oTxt 1 ++ (rTxt wLimit (an : Int) ++ rTxt wOffset (-1))) := by
    simp only [ByteArray.data_append, Array.toList_append, rtxt_yes, rtxt_no]
    simp [oTxt, wOrder, wAsc, wLimit]
  have hsz : (((s ++ ⟨#[32, 111, 114, 100, 101, 114, 32, 97, 115, 99]⟩) ++ (⟨#[32, 108, 105, 109, 105, 116, 32]⟩ ++ ⟨(decDigits an).toArray⟩)) : ByteArray).size ≤ 500 := by
    rw [Lib.size_eq, hTT]
    have h1 := otxt_size 1
    have h2 := rtxt_size wLimit (by decide) (an : Int) (by omega)
    have h3 := rtxt_size wOffset (by decide) (-1) (by omega)
    simp only [List.length_append, ← Lib.size_eq]
    omega
  have CDa := Lib.hid (fun W => rdigits_any an (by omega) W)
  have HLa := Lib.hid (dec_len an 13 (by omega) (by decide))
  by_cases hbig : 2000 < an
  · have C3 := Lib.hid (fun W (hb : Below w.heap.size w W) => read_not ((s ++ ⟨#[32, 111, 114, 100, 101, 114, 32, 97, 115, 99]⟩) ++ (⟨#[32, 108, 105, 109, 105, 116, 32]⟩ ++ ⟨(decDigits an).toArray⟩)) (by omega) (by rw [hTT, hl, if_pos (by omega)]) W (h.below hb))
    clear hl hTT h hr
    have e3 : (2000 : Int) < an := by omega
    clear hbig
    go_enter Tryz.func7, Tryz.ntmps7
    go_wp2_with fail
    refine (cA.out _ (Below.refl _ _)).mono ?_
    rintro e w1 ⟨rfl, b1⟩
    have B1 := Lib.hid b1
    clear b1
    go_wp2_with fail
    refine (C1.out _ B1.out).mono ?_
    rintro e w2 ⟨⟨a, tx, z, m, o1, k1, c1, o2, k2, c2, o3, k3, c3, rfl, hn⟩, b2⟩
    have B2 := Lib.hid (B1.out.trans (b2.mono B1.out.size))
    have HN := Lib.hid hn
    have HX2 := Lib.hid (box_start w2 (QBox a tx z m o1 k1 c1 o2 k2 c2 o3 k3 c3 0 (-1) (-1)))
    clear b2 hn
    go_wp2_with fail
    refine (CDa.out _).mono ?_
    rintro e w3 ⟨rfl, b3⟩
    have HX3 := Lib.hid (box_more HX2.out b3)
    have z1 := size_arr (decDigits an)
    have z2 := HLa.out
    clear b3
    have HB := Lib.hid (below_past B2.out HX3.out)
    go_wp2_with fail
    refine (C3.out _ HB.out).mono ?_
    rintro e w5 ⟨rfl, b5⟩
    have HB5 := Lib.hid (below_box (HB.out.trans (b5.mono HB.out.size)) (QBox ⟨#[]⟩ ⟨#[]⟩ 0 0 none 0 0 none 0 0 none 0 0 0 0 0))
    clear b5
    go_wp2
    go_ret
    exact ⟨rfl, HB5.out⟩
  · have e3 : (an : Int) ≤ 2000 := by omega
    have C3 := Lib.hid (fun W (hb : Below w.heap.size w W) => read_is ((s ++ ⟨#[32, 111, 114, 100, 101, 114, 32, 97, 115, 99]⟩) ++ (⟨#[32, 108, 105, 109, 105, 116, 32]⟩ ++ ⟨(decDigits an).toArray⟩)) (by omega) ⟨x, 1, (an : Int), (-1)⟩ (by rw [hTT, hl, if_neg (by omega)]) 1 rfl W (h.below hb))
    dsimp only at C3
    have hl2 := readL_twice hr 1 (by omega) (an : Int) (-1) (by omega) (by omega) (by omega) (by omega) (by omega)
    have C4 := Lib.hid (fun W (hb : Below w.heap.size w W) => read_not (((s ++ ⟨#[32, 111, 114, 100, 101, 114, 32, 97, 115, 99]⟩) ++ (⟨#[32, 108, 105, 109, 105, 116, 32]⟩ ++ ⟨(decDigits an).toArray⟩)) ++ ⟨#[32, 111, 114, 100, 101, 114, 32, 97, 115, 99]⟩) (by rw [ByteArray.size_append]; show _ + 10 ≤ 600; omega) (by rw [ByteArray.data_append, Array.toList_append, hTT]; exact hl2) W (h.below hb))
    clear hl2
    clear hl hTT h hr
    go_enter Tryz.func7, Tryz.ntmps7
    go_wp2_with fail
    refine (cA.out _ (Below.refl _ _)).mono ?_
    rintro e w1 ⟨rfl, b1⟩
    have B1 := Lib.hid b1
    clear b1
    go_wp2_with fail
    refine (C1.out _ B1.out).mono ?_
    rintro e w2 ⟨⟨a, tx, z, m, o1, k1, c1, o2, k2, c2, o3, k3, c3, rfl, hn⟩, b2⟩
    have B2 := Lib.hid (B1.out.trans (b2.mono B1.out.size))
    have HN := Lib.hid hn
    have HX2 := Lib.hid (box_start w2 (QBox a tx z m o1 k1 c1 o2 k2 c2 o3 k3 c3 0 (-1) (-1)))
    clear b2 hn
    go_wp2_with fail
    refine (CDa.out _).mono ?_
    rintro e w3 ⟨rfl, b3⟩
    have HX3 := Lib.hid (box_more HX2.out b3)
    have z1 := size_arr (decDigits an)
    have z2 := HLa.out
    clear b3
    have HB := Lib.hid (below_past B2.out HX3.out)
    go_wp2_with fail
    refine (C3.out _ HB.out).mono ?_
    rintro e w5 ⟨⟨a', tx', z', m', o1', k1', c1', o2', k2', c2', o3', k3', c3', rfl, hn5⟩, b5⟩
    have HN5 := Lib.hid hn5
    have HX5 := Lib.hid (box_more (box_more HX3.out b5) ((Below.refl w5.heap.size w5).alloc (Nat.le_refl _) (QBox a' tx' z' m' o1' k1' c1' o2' k2' c2' o3' k3' c3' 1 (an : Int) (-1))))
    have HB5 := Lib.hid (below_past B2.out HX5.out)
    clear b5 hn5
    go_wp2_with fail
    refine (C4.out _ HB5.out).mono ?_
    rintro e w6 ⟨rfl, b6⟩
    have HY6 := Lib.hid (box_more (box_more (box_start w5 (QBox a' tx' z' m' o1' k1' c1' o2' k2' c2' o3' k3' c3' 1 (an : Int) (-1))) b6) ((Below.refl w6.heap.size w6).alloc (Nat.le_refl _) (QBox ⟨#[]⟩ ⟨#[]⟩ 0 0 none 0 0 none 0 0 none 0 0 0 0 0)))
    have HX6 := Lib.hid (box_more (box_more HX5.out b6) ((Below.refl w6.heap.size w6).alloc (Nat.le_refl _) (QBox ⟨#[]⟩ ⟨#[]⟩ 0 0 none 0 0 none 0 0 none 0 0 0 0 0)))
    have HB6 := Lib.hid (below_past B2.out HX6.out)
    obtain ⟨p0, p1, p2, p3, p4, p5, p6, p7, p8, p9⟩ := qbox_reads _ _ _ _ _ _ _ _ _ _ _ _ _ _ _ _ _ _ HX6.out
    obtain ⟨q0, q1, q2, q3, q4, q5, q6, q7, q8, q9⟩ := qbox_reads _ _ _ _ _ _ _ _ _ _ _ _ _ _ _ _ _ _ HY6.out
    have HSM := Lib.hid ((psame_any _ x x (Nat.le_refl _) HFW.out _ _ (w6.alloc (QBox ⟨#[]⟩ ⟨#[]⟩ 0 0 none 0 0 none 0 0 none 0 0 0 0 0)) a tx z m o1 k1 c1 o2 k2 c2 o3 k3 c3 a' tx' z' m' o1' k1' c1' o2' k2' c2' o3' k3' c3' (HN.out.under (((Below.refl w2.heap.size w2).alloc (Nat.le_refl _) _).trans (HX6.out.mono (by omega)))) (HN5.out.under (((Below.refl w5.heap.size w5).alloc (Nat.le_refl _) _).trans (HY6.out.mono (by omega))))).mono (R' := fun e w' => e = .returned (.bool true) ∧ Below (w6.alloc (QBox ⟨#[]⟩ ⟨#[]⟩ 0 0 none 0 0 none 0 0 none 0 0 0 0 0)).heap.size (w6.alloc (QBox ⟨#[]⟩ ⟨#[]⟩ 0 0 none 0 0 none 0 0 none 0 0 0 0 0)) w') (fun e w' q => ⟨by rw [q.1]; simp, q.2⟩))
    clear b6
    go_wp2_with fail
    refine HSM.out.mono ?_
    rintro e w7 ⟨rfl, b7⟩
    have HB7 := Lib.hid (HB6.out.trans (b7.mono HB6.out.size))
    clear b7
    go_wp2
    go_ret
    exact ⟨rfl, HB7.out⟩

set_option maxHeartbeats 8000000 in
set_option maxRecDepth 100000 in
theorem tails_111 (s : ByteArray) (w : World) (h : Env w) (i0 : (s.size : Int) ≤ 300) (x : Ex) (hr : readL s.data.toList = some ⟨x, 0, -1, -1⟩) (an : Nat) (ia : (an : Int) ≤ 3000) (bn : Nat) (ib : (bn : Int) ≤ 3000) :
    Calls Tryz.prog 7 #[.string s, .int .i64 1, .int .i64 (an : Int), .int .i64 (bn : Int)] w fun e w' => e = .returned (.bool true) ∧ Below w.heap.size w w' := by
  have cA := Lib.hid (fun W (hb : Below w.heap.size w W) => alive_any W (h.below hb))
  have HFW := Lib.hid (show Few x from read_few (q := ⟨x, 0, -1, -1⟩) (by omega) hr)
  have C1 := Lib.hid (fun W (hb : Below w.heap.size w W) => read_is s (by omega) ⟨x, 0, -1, -1⟩ hr 0 rfl W (h.below hb))
  dsimp only at C1
  have hl := readL_tails hr 1 (by omega) (an : Int) (bn : Int) (by omega) (by omega) (by omega) (by omega)
  have hTT : ((((s ++ ⟨#[32, 111, 114, 100, 101, 114, 32, 97, 115, 99]⟩) ++ (⟨#[32, 108, 105, 109, 105, 116, 32]⟩ ++ ⟨(decDigits an).toArray⟩)) ++ (⟨#[32, 111, 102, 102, 115, 101, 116, 32]⟩ ++ ⟨(decDigits bn).toArray⟩)) : ByteArray).data.toList = s.data.toList ++ (oTxt 1 ++ (rTxt wLimit (an : Int) ++ rTxt wOffset (bn : Int))) := by
    simp only [ByteArray.data_append, Array.toList_append, rtxt_yes]
    simp [oTxt, wOrder, wAsc, wLimit, wOffset]
  have hsz : ((((s ++ ⟨#[32, 111, 114, 100, 101, 114, 32, 97, 115, 99]⟩) ++ (⟨#[32, 108, 105, 109, 105, 116, 32]⟩ ++ ⟨(decDigits an).toArray⟩)) ++ (⟨#[32, 111, 102, 102, 115, 101, 116, 32]⟩ ++ ⟨(decDigits bn).toArray⟩)) : ByteArray).size ≤ 500 := by
    rw [Lib.size_eq, hTT]
    have h1 := otxt_size 1
    have h2 := rtxt_size wLimit (by decide) (an : Int) (by omega)
    have h3 := rtxt_size wOffset (by decide) (bn : Int) (by omega)
    simp only [List.length_append, ← Lib.size_eq]
    omega
  have CDa := Lib.hid (fun W => rdigits_any an (by omega) W)
  have HLa := Lib.hid (dec_len an 13 (by omega) (by decide))
  have CDb := Lib.hid (fun W => rdigits_any bn (by omega) W)
  have HLb := Lib.hid (dec_len bn 13 (by omega) (by decide))
  by_cases hbig : 2000 < an ∨ 2000 < bn
  · have C3 := Lib.hid (fun W (hb : Below w.heap.size w W) => read_not (((s ++ ⟨#[32, 111, 114, 100, 101, 114, 32, 97, 115, 99]⟩) ++ (⟨#[32, 108, 105, 109, 105, 116, 32]⟩ ++ ⟨(decDigits an).toArray⟩)) ++ (⟨#[32, 111, 102, 102, 115, 101, 116, 32]⟩ ++ ⟨(decDigits bn).toArray⟩)) (by omega) (by rw [hTT, hl, if_pos (by omega)]) W (h.below hb))
    have hb2 : (2000 < an) ∨ (an ≤ 2000 ∧ 2000 < bn) := by omega
    clear hl hTT h hr
    rcases hb2 with e1 | ⟨e1, e2⟩
    · have e3 : (2000 : Int) < an := by omega
      clear e1 hbig
      go_enter Tryz.func7, Tryz.ntmps7
      go_wp2_with fail
      refine (cA.out _ (Below.refl _ _)).mono ?_
      rintro e w1 ⟨rfl, b1⟩
      have B1 := Lib.hid b1
      clear b1
      go_wp2_with fail
      refine (C1.out _ B1.out).mono ?_
      rintro e w2 ⟨⟨a, tx, z, m, o1, k1, c1, o2, k2, c2, o3, k3, c3, rfl, hn⟩, b2⟩
      have B2 := Lib.hid (B1.out.trans (b2.mono B1.out.size))
      have HN := Lib.hid hn
      have HX2 := Lib.hid (box_start w2 (QBox a tx z m o1 k1 c1 o2 k2 c2 o3 k3 c3 0 (-1) (-1)))
      clear b2 hn
      go_wp2_with fail
      refine (CDa.out _).mono ?_
      rintro e w3 ⟨rfl, b3⟩
      have HX3 := Lib.hid (box_more HX2.out b3)
      have z1 := size_arr (decDigits an)
      have z2 := HLa.out
      clear b3
      go_wp2_with fail
      refine (CDb.out _).mono ?_
      rintro e w4 ⟨rfl, b4⟩
      have HX4 := Lib.hid (box_more HX3.out b4)
      have z3 := size_arr (decDigits bn)
      have z4 := HLb.out
      clear b4
      have HB := Lib.hid (below_past B2.out HX4.out)
      go_wp2_with fail
      refine (C3.out _ HB.out).mono ?_
      rintro e w5 ⟨rfl, b5⟩
      have HB5 := Lib.hid (below_box (HB.out.trans (b5.mono HB.out.size)) (QBox ⟨#[]⟩ ⟨#[]⟩ 0 0 none 0 0 none 0 0 none 0 0 0 0 0))
      clear b5
      go_wp2
      go_ret
      exact ⟨rfl, HB5.out⟩
    · have e3 : (an : Int) ≤ 2000 := by omega
      have e4 : (2000 : Int) < bn := by omega
      clear e1 e2 hbig
      go_enter Tryz.func7, Tryz.ntmps7
      go_wp2_with fail
      refine (cA.out _ (Below.refl _ _)).mono ?_
      rintro e w1 ⟨rfl, b1⟩
      have B1 := Lib.hid b1
      clear b1
      go_wp2_with fail
      refine (C1.out _ B1.out).mono ?_
      rintro e w2 ⟨⟨a, tx, z, m, o1, k1, c1, o2, k2, c2, o3, k3, c3, rfl, hn⟩, b2⟩
      have B2 := Lib.hid (B1.out.trans (b2.mono B1.out.size))
      have HN := Lib.hid hn
      have HX2 := Lib.hid (box_start w2 (QBox a tx z m o1 k1 c1 o2 k2 c2 o3 k3 c3 0 (-1) (-1)))
      clear b2 hn
      go_wp2_with fail
      refine (CDa.out _).mono ?_
      rintro e w3 ⟨rfl, b3⟩
      have HX3 := Lib.hid (box_more HX2.out b3)
      have z1 := size_arr (decDigits an)
      have z2 := HLa.out
      clear b3
      go_wp2_with fail
      refine (CDb.out _).mono ?_
      rintro e w4 ⟨rfl, b4⟩
      have HX4 := Lib.hid (box_more HX3.out b4)
      have z3 := size_arr (decDigits bn)
      have z4 := HLb.out
      clear b4
      have HB := Lib.hid (below_past B2.out HX4.out)
      go_wp2_with fail
      refine (C3.out _ HB.out).mono ?_
      rintro e w5 ⟨rfl, b5⟩
      have HB5 := Lib.hid (below_box (HB.out.trans (b5.mono HB.out.size)) (QBox ⟨#[]⟩ ⟨#[]⟩ 0 0 none 0 0 none 0 0 none 0 0 0 0 0))
      clear b5
      go_wp2
      go_ret
      exact ⟨rfl, HB5.out⟩
  · have e3 : (an : Int) ≤ 2000 := by omega
    have e4 : (bn : Int) ≤ 2000 := by omega
    have C3 := Lib.hid (fun W (hb : Below w.heap.size w W) => read_is (((s ++ ⟨#[32, 111, 114, 100, 101, 114, 32, 97, 115, 99]⟩) ++ (⟨#[32, 108, 105, 109, 105, 116, 32]⟩ ++ ⟨(decDigits an).toArray⟩)) ++ (⟨#[32, 111, 102, 102, 115, 101, 116, 32]⟩ ++ ⟨(decDigits bn).toArray⟩)) (by omega) ⟨x, 1, (an : Int), (bn : Int)⟩ (by rw [hTT, hl, if_neg (by omega)]) 1 rfl W (h.below hb))
    dsimp only at C3
    have hl2 := readL_twice hr 1 (by omega) (an : Int) (bn : Int) (by omega) (by omega) (by omega) (by omega) (by omega)
    have C4 := Lib.hid (fun W (hb : Below w.heap.size w W) => read_not ((((s ++ ⟨#[32, 111, 114, 100, 101, 114, 32, 97, 115, 99]⟩) ++ (⟨#[32, 108, 105, 109, 105, 116, 32]⟩ ++ ⟨(decDigits an).toArray⟩)) ++ (⟨#[32, 111, 102, 102, 115, 101, 116, 32]⟩ ++ ⟨(decDigits bn).toArray⟩)) ++ ⟨#[32, 111, 114, 100, 101, 114, 32, 97, 115, 99]⟩) (by rw [ByteArray.size_append]; show _ + 10 ≤ 600; omega) (by rw [ByteArray.data_append, Array.toList_append, hTT]; exact hl2) W (h.below hb))
    clear hl2
    clear hl hTT h hr
    go_enter Tryz.func7, Tryz.ntmps7
    go_wp2_with fail
    refine (cA.out _ (Below.refl _ _)).mono ?_
    rintro e w1 ⟨rfl, b1⟩
    have B1 := Lib.hid b1
    clear b1
    go_wp2_with fail
    refine (C1.out _ B1.out).mono ?_
    rintro e w2 ⟨⟨a, tx, z, m, o1, k1, c1, o2, k2, c2, o3, k3, c3, rfl, hn⟩, b2⟩
    have B2 := Lib.hid (B1.out.trans (b2.mono B1.out.size))
    have HN := Lib.hid hn
    have HX2 := Lib.hid (box_start w2 (QBox a tx z m o1 k1 c1 o2 k2 c2 o3 k3 c3 0 (-1) (-1)))
    clear b2 hn
    go_wp2_with fail
    refine (CDa.out _).mono ?_
    rintro e w3 ⟨rfl, b3⟩
    have HX3 := Lib.hid (box_more HX2.out b3)
    have z1 := size_arr (decDigits an)
    have z2 := HLa.out
    clear b3
    go_wp2_with fail
    refine (CDb.out _).mono ?_
    rintro e w4 ⟨rfl, b4⟩
    have HX4 := Lib.hid (box_more HX3.out b4)
    have z3 := size_arr (decDigits bn)
    have z4 := HLb.out
    clear b4
    have HB := Lib.hid (below_past B2.out HX4.out)
    go_wp2_with fail
    refine (C3.out _ HB.out).mono ?_
    rintro e w5 ⟨⟨a', tx', z', m', o1', k1', c1', o2', k2', c2', o3', k3', c3', rfl, hn5⟩, b5⟩
    have HN5 := Lib.hid hn5
    have HX5 := Lib.hid (box_more (box_more HX4.out b5) ((Below.refl w5.heap.size w5).alloc (Nat.le_refl _) (QBox a' tx' z' m' o1' k1' c1' o2' k2' c2' o3' k3' c3' 1 (an : Int) (bn : Int))))
    have HB5 := Lib.hid (below_past B2.out HX5.out)
    clear b5 hn5
    go_wp2_with fail
    refine (C4.out _ HB5.out).mono ?_
    rintro e w6 ⟨rfl, b6⟩
    have HY6 := Lib.hid (box_more (box_more (box_start w5 (QBox a' tx' z' m' o1' k1' c1' o2' k2' c2' o3' k3' c3' 1 (an : Int) (bn : Int))) b6) ((Below.refl w6.heap.size w6).alloc (Nat.le_refl _) (QBox ⟨#[]⟩ ⟨#[]⟩ 0 0 none 0 0 none 0 0 none 0 0 0 0 0)))
    have HX6 := Lib.hid (box_more (box_more HX5.out b6) ((Below.refl w6.heap.size w6).alloc (Nat.le_refl _) (QBox ⟨#[]⟩ ⟨#[]⟩ 0 0 none 0 0 none 0 0 none 0 0 0 0 0)))
    have HB6 := Lib.hid (below_past B2.out HX6.out)
    obtain ⟨p0, p1, p2, p3, p4, p5, p6, p7, p8, p9⟩ := qbox_reads _ _ _ _ _ _ _ _ _ _ _ _ _ _ _ _ _ _ HX6.out
    obtain ⟨q0, q1, q2, q3, q4, q5, q6, q7, q8, q9⟩ := qbox_reads _ _ _ _ _ _ _ _ _ _ _ _ _ _ _ _ _ _ HY6.out
    have HSM := Lib.hid ((psame_any _ x x (Nat.le_refl _) HFW.out _ _ (w6.alloc (QBox ⟨#[]⟩ ⟨#[]⟩ 0 0 none 0 0 none 0 0 none 0 0 0 0 0)) a tx z m o1 k1 c1 o2 k2 c2 o3 k3 c3 a' tx' z' m' o1' k1' c1' o2' k2' c2' o3' k3' c3' (HN.out.under (((Below.refl w2.heap.size w2).alloc (Nat.le_refl _) _).trans (HX6.out.mono (by omega)))) (HN5.out.under (((Below.refl w5.heap.size w5).alloc (Nat.le_refl _) _).trans (HY6.out.mono (by omega))))).mono (R' := fun e w' => e = .returned (.bool true) ∧ Below (w6.alloc (QBox ⟨#[]⟩ ⟨#[]⟩ 0 0 none 0 0 none 0 0 none 0 0 0 0 0)).heap.size (w6.alloc (QBox ⟨#[]⟩ ⟨#[]⟩ 0 0 none 0 0 none 0 0 none 0 0 0 0 0)) w') (fun e w' q => ⟨by rw [q.1]; simp, q.2⟩))
    clear b6
    go_wp2_with fail
    refine HSM.out.mono ?_
    rintro e w7 ⟨rfl, b7⟩
    have HB7 := Lib.hid (HB6.out.trans (b7.mono HB6.out.size))
    clear b7
    go_wp2
    go_ret
    exact ⟨rfl, HB7.out⟩

set_option maxHeartbeats 8000000 in
set_option maxRecDepth 100000 in
theorem tails_200 (s : ByteArray) (w : World) (h : Env w) (i0 : (s.size : Int) ≤ 300) (x : Ex) (hr : readL s.data.toList = some ⟨x, 0, -1, -1⟩) :
    Calls Tryz.prog 7 #[.string s, .int .i64 2, .int .i64 (-1), .int .i64 (-1)] w fun e w' => e = .returned (.bool true) ∧ Below w.heap.size w w' := by
  have cA := Lib.hid (fun W (hb : Below w.heap.size w W) => alive_any W (h.below hb))
  have HFW := Lib.hid (show Few x from read_few (q := ⟨x, 0, -1, -1⟩) (by omega) hr)
  have C1 := Lib.hid (fun W (hb : Below w.heap.size w W) => read_is s (by omega) ⟨x, 0, -1, -1⟩ hr 0 rfl W (h.below hb))
  dsimp only at C1
  have hl := readL_tails hr 2 (by omega) (-1) (-1) (by omega) (by omega) (by omega) (by omega)
  have hTT : ((s ++ ⟨#[32, 111, 114, 100, 101, 114, 32, 100, 101, 115, 99]⟩) : ByteArray).data.toList = s.data.toList ++ (oTxt 2 ++ (rTxt wLimit (-1) ++ rTxt wOffset (-1))) := by
    simp only [ByteArray.data_append, Array.toList_append, rtxt_no]
    simp [oTxt, wOrder, wDesc]
  have hsz : ((s ++ ⟨#[32, 111, 114, 100, 101, 114, 32, 100, 101, 115, 99]⟩) : ByteArray).size ≤ 500 := by
    rw [Lib.size_eq, hTT]
    have h1 := otxt_size 2
    have h2 := rtxt_size wLimit (by decide) (-1) (by omega)
    have h3 := rtxt_size wOffset (by decide) (-1) (by omega)
    simp only [List.length_append, ← Lib.size_eq]
    omega
  have C3 := Lib.hid (fun W (hb : Below w.heap.size w W) => read_is (s ++ ⟨#[32, 111, 114, 100, 101, 114, 32, 100, 101, 115, 99]⟩) (by omega) ⟨x, 2, (-1), (-1)⟩ (by rw [hTT, hl, if_neg (by omega)]) 2 rfl W (h.below hb))
  dsimp only at C3
  have hl2 := readL_twice hr 2 (by omega) (-1) (-1) (by omega) (by omega) (by omega) (by omega) (by omega)
  have C4 := Lib.hid (fun W (hb : Below w.heap.size w W) => read_not ((s ++ ⟨#[32, 111, 114, 100, 101, 114, 32, 100, 101, 115, 99]⟩) ++ ⟨#[32, 111, 114, 100, 101, 114, 32, 97, 115, 99]⟩) (by rw [ByteArray.size_append]; show _ + 10 ≤ 600; omega) (by rw [ByteArray.data_append, Array.toList_append, hTT]; exact hl2) W (h.below hb))
  clear hl2
  clear hl hTT h hr
  go_enter Tryz.func7, Tryz.ntmps7
  go_wp2_with fail
  refine (cA.out _ (Below.refl _ _)).mono ?_
  rintro e w1 ⟨rfl, b1⟩
  have B1 := Lib.hid b1
  clear b1
  go_wp2_with fail
  refine (C1.out _ B1.out).mono ?_
  rintro e w2 ⟨⟨a, tx, z, m, o1, k1, c1, o2, k2, c2, o3, k3, c3, rfl, hn⟩, b2⟩
  have B2 := Lib.hid (B1.out.trans (b2.mono B1.out.size))
  have HN := Lib.hid hn
  have HX2 := Lib.hid (box_start w2 (QBox a tx z m o1 k1 c1 o2 k2 c2 o3 k3 c3 0 (-1) (-1)))
  clear b2 hn
  have HB := Lib.hid (below_past B2.out HX2.out)
  go_wp2_with fail
  refine (C3.out _ HB.out).mono ?_
  rintro e w5 ⟨⟨a', tx', z', m', o1', k1', c1', o2', k2', c2', o3', k3', c3', rfl, hn5⟩, b5⟩
  have HN5 := Lib.hid hn5
  have HX5 := Lib.hid (box_more (box_more HX2.out b5) ((Below.refl w5.heap.size w5).alloc (Nat.le_refl _) (QBox a' tx' z' m' o1' k1' c1' o2' k2' c2' o3' k3' c3' 2 (-1) (-1))))
  have HB5 := Lib.hid (below_past B2.out HX5.out)
  clear b5 hn5
  go_wp2_with fail
  refine (C4.out _ HB5.out).mono ?_
  rintro e w6 ⟨rfl, b6⟩
  have HY6 := Lib.hid (box_more (box_more (box_start w5 (QBox a' tx' z' m' o1' k1' c1' o2' k2' c2' o3' k3' c3' 2 (-1) (-1))) b6) ((Below.refl w6.heap.size w6).alloc (Nat.le_refl _) (QBox ⟨#[]⟩ ⟨#[]⟩ 0 0 none 0 0 none 0 0 none 0 0 0 0 0)))
  have HX6 := Lib.hid (box_more (box_more HX5.out b6) ((Below.refl w6.heap.size w6).alloc (Nat.le_refl _) (QBox ⟨#[]⟩ ⟨#[]⟩ 0 0 none 0 0 none 0 0 none 0 0 0 0 0)))
  have HB6 := Lib.hid (below_past B2.out HX6.out)
  obtain ⟨p0, p1, p2, p3, p4, p5, p6, p7, p8, p9⟩ := qbox_reads _ _ _ _ _ _ _ _ _ _ _ _ _ _ _ _ _ _ HX6.out
  obtain ⟨q0, q1, q2, q3, q4, q5, q6, q7, q8, q9⟩ := qbox_reads _ _ _ _ _ _ _ _ _ _ _ _ _ _ _ _ _ _ HY6.out
  have HSM := Lib.hid ((psame_any _ x x (Nat.le_refl _) HFW.out _ _ (w6.alloc (QBox ⟨#[]⟩ ⟨#[]⟩ 0 0 none 0 0 none 0 0 none 0 0 0 0 0)) a tx z m o1 k1 c1 o2 k2 c2 o3 k3 c3 a' tx' z' m' o1' k1' c1' o2' k2' c2' o3' k3' c3' (HN.out.under (((Below.refl w2.heap.size w2).alloc (Nat.le_refl _) _).trans (HX6.out.mono (by omega)))) (HN5.out.under (((Below.refl w5.heap.size w5).alloc (Nat.le_refl _) _).trans (HY6.out.mono (by omega))))).mono (R' := fun e w' => e = .returned (.bool true) ∧ Below (w6.alloc (QBox ⟨#[]⟩ ⟨#[]⟩ 0 0 none 0 0 none 0 0 none 0 0 0 0 0)).heap.size (w6.alloc (QBox ⟨#[]⟩ ⟨#[]⟩ 0 0 none 0 0 none 0 0 none 0 0 0 0 0)) w') (fun e w' q => ⟨by rw [q.1]; simp, q.2⟩))
  clear b6
  go_wp2_with fail
  refine HSM.out.mono ?_
  rintro e w7 ⟨rfl, b7⟩
  have HB7 := Lib.hid (HB6.out.trans (b7.mono HB6.out.size))
  clear b7
  go_wp2
  go_ret
  exact ⟨rfl, HB7.out⟩

set_option maxHeartbeats 8000000 in
set_option maxRecDepth 100000 in
theorem tails_201 (s : ByteArray) (w : World) (h : Env w) (i0 : (s.size : Int) ≤ 300) (x : Ex) (hr : readL s.data.toList = some ⟨x, 0, -1, -1⟩) (bn : Nat) (ib : (bn : Int) ≤ 3000) :
    Calls Tryz.prog 7 #[.string s, .int .i64 2, .int .i64 (-1), .int .i64 (bn : Int)] w fun e w' => e = .returned (.bool true) ∧ Below w.heap.size w w' := by
  have cA := Lib.hid (fun W (hb : Below w.heap.size w W) => alive_any W (h.below hb))
  have HFW := Lib.hid (show Few x from read_few (q := ⟨x, 0, -1, -1⟩) (by omega) hr)
  have C1 := Lib.hid (fun W (hb : Below w.heap.size w W) => read_is s (by omega) ⟨x, 0, -1, -1⟩ hr 0 rfl W (h.below hb))
  dsimp only at C1
  have hl := readL_tails hr 2 (by omega) (-1) (bn : Int) (by omega) (by omega) (by omega) (by omega)
  have hTT : (((s ++ ⟨#[32, 111, 114, 100, 101, 114, 32, 100, 101, 115, 99]⟩) ++ (⟨#[32, 111, 102, 102, 115, 101, 116, 32]⟩ ++ ⟨(decDigits bn).toArray⟩)) : ByteArray).data.toList = s.data.toList ++ (oTxt 2 ++ (rTxt wLimit (-1) ++ rTxt wOffset (bn : Int))) := by
    simp only [ByteArray.data_append, Array.toList_append, rtxt_yes, rtxt_no]
    simp [oTxt, wOrder, wDesc, wOffset]
  have hsz : (((s ++ ⟨#[32, 111, 114, 100, 101, 114, 32, 100, 101, 115, 99]⟩) ++ (⟨#[32, 111, 102, 102, 115, 101, 116, 32]⟩ ++ ⟨(decDigits bn).toArray⟩)) : ByteArray).size ≤ 500 := by
    rw [Lib.size_eq, hTT]
    have h1 := otxt_size 2
    have h2 := rtxt_size wLimit (by decide) (-1) (by omega)
    have h3 := rtxt_size wOffset (by decide) (bn : Int) (by omega)
    simp only [List.length_append, ← Lib.size_eq]
    omega
  have CDb := Lib.hid (fun W => rdigits_any bn (by omega) W)
  have HLb := Lib.hid (dec_len bn 13 (by omega) (by decide))
  by_cases hbig : 2000 < bn
  · have C3 := Lib.hid (fun W (hb : Below w.heap.size w W) => read_not ((s ++ ⟨#[32, 111, 114, 100, 101, 114, 32, 100, 101, 115, 99]⟩) ++ (⟨#[32, 111, 102, 102, 115, 101, 116, 32]⟩ ++ ⟨(decDigits bn).toArray⟩)) (by omega) (by rw [hTT, hl, if_pos (by omega)]) W (h.below hb))
    clear hl hTT h hr
    have e3 : (2000 : Int) < bn := by omega
    clear hbig
    go_enter Tryz.func7, Tryz.ntmps7
    go_wp2_with fail
    refine (cA.out _ (Below.refl _ _)).mono ?_
    rintro e w1 ⟨rfl, b1⟩
    have B1 := Lib.hid b1
    clear b1
    go_wp2_with fail
    refine (C1.out _ B1.out).mono ?_
    rintro e w2 ⟨⟨a, tx, z, m, o1, k1, c1, o2, k2, c2, o3, k3, c3, rfl, hn⟩, b2⟩
    have B2 := Lib.hid (B1.out.trans (b2.mono B1.out.size))
    have HN := Lib.hid hn
    have HX2 := Lib.hid (box_start w2 (QBox a tx z m o1 k1 c1 o2 k2 c2 o3 k3 c3 0 (-1) (-1)))
    clear b2 hn
    go_wp2_with fail
    refine (CDb.out _).mono ?_
    rintro e w4 ⟨rfl, b4⟩
    have HX4 := Lib.hid (box_more HX2.out b4)
    have z3 := size_arr (decDigits bn)
    have z4 := HLb.out
    clear b4
    have HB := Lib.hid (below_past B2.out HX4.out)
    go_wp2_with fail
    refine (C3.out _ HB.out).mono ?_
    rintro e w5 ⟨rfl, b5⟩
    have HB5 := Lib.hid (below_box (HB.out.trans (b5.mono HB.out.size)) (QBox ⟨#[]⟩ ⟨#[]⟩ 0 0 none 0 0 none 0 0 none 0 0 0 0 0))
    clear b5
    go_wp2
    go_ret
    exact ⟨rfl, HB5.out⟩
  · have e4 : (bn : Int) ≤ 2000 := by omega
    have C3 := Lib.hid (fun W (hb : Below w.heap.size w W) => read_is ((s ++ ⟨#[32, 111, 114, 100, 101, 114, 32, 100, 101, 115, 99]⟩) ++ (⟨#[32, 111, 102, 102, 115, 101, 116, 32]⟩ ++ ⟨(decDigits bn).toArray⟩)) (by omega) ⟨x, 2, (-1), (bn : Int)⟩ (by rw [hTT, hl, if_neg (by omega)]) 2 rfl W (h.below hb))
    dsimp only at C3
    have hl2 := readL_twice hr 2 (by omega) (-1) (bn : Int) (by omega) (by omega) (by omega) (by omega) (by omega)
    have C4 := Lib.hid (fun W (hb : Below w.heap.size w W) => read_not (((s ++ ⟨#[32, 111, 114, 100, 101, 114, 32, 100, 101, 115, 99]⟩) ++ (⟨#[32, 111, 102, 102, 115, 101, 116, 32]⟩ ++ ⟨(decDigits bn).toArray⟩)) ++ ⟨#[32, 111, 114, 100, 101, 114, 32, 97, 115, 99]⟩) (by rw [ByteArray.size_append]; show _ + 10 ≤ 600; omega) (by rw [ByteArray.data_append, Array.toList_append, hTT]; exact hl2) W (h.below hb))
    clear hl2
    clear hl hTT h hr
    go_enter Tryz.func7, Tryz.ntmps7
    go_wp2_with fail
    refine (cA.out _ (Below.refl _ _)).mono ?_
    rintro e w1 ⟨rfl, b1⟩
    have B1 := Lib.hid b1
    clear b1
    go_wp2_with fail
    refine (C1.out _ B1.out).mono ?_
    rintro e w2 ⟨⟨a, tx, z, m, o1, k1, c1, o2, k2, c2, o3, k3, c3, rfl, hn⟩, b2⟩
    have B2 := Lib.hid (B1.out.trans (b2.mono B1.out.size))
    have HN := Lib.hid hn
    have HX2 := Lib.hid (box_start w2 (QBox a tx z m o1 k1 c1 o2 k2 c2 o3 k3 c3 0 (-1) (-1)))
    clear b2 hn
    go_wp2_with fail
    refine (CDb.out _).mono ?_
    rintro e w4 ⟨rfl, b4⟩
    have HX4 := Lib.hid (box_more HX2.out b4)
    have z3 := size_arr (decDigits bn)
    have z4 := HLb.out
    clear b4
    have HB := Lib.hid (below_past B2.out HX4.out)
    go_wp2_with fail
    refine (C3.out _ HB.out).mono ?_
    rintro e w5 ⟨⟨a', tx', z', m', o1', k1', c1', o2', k2', c2', o3', k3', c3', rfl, hn5⟩, b5⟩
    have HN5 := Lib.hid hn5
    have HX5 := Lib.hid (box_more (box_more HX4.out b5) ((Below.refl w5.heap.size w5).alloc (Nat.le_refl _) (QBox a' tx' z' m' o1' k1' c1' o2' k2' c2' o3' k3' c3' 2 (-1) (bn : Int))))
    have HB5 := Lib.hid (below_past B2.out HX5.out)
    clear b5 hn5
    go_wp2_with fail
    refine (C4.out _ HB5.out).mono ?_
    rintro e w6 ⟨rfl, b6⟩
    have HY6 := Lib.hid (box_more (box_more (box_start w5 (QBox a' tx' z' m' o1' k1' c1' o2' k2' c2' o3' k3' c3' 2 (-1) (bn : Int))) b6) ((Below.refl w6.heap.size w6).alloc (Nat.le_refl _) (QBox ⟨#[]⟩ ⟨#[]⟩ 0 0 none 0 0 none 0 0 none 0 0 0 0 0)))
    have HX6 := Lib.hid (box_more (box_more HX5.out b6) ((Below.refl w6.heap.size w6).alloc (Nat.le_refl _) (QBox ⟨#[]⟩ ⟨#[]⟩ 0 0 none 0 0 none 0 0 none 0 0 0 0 0)))
    have HB6 := Lib.hid (below_past B2.out HX6.out)
    obtain ⟨p0, p1, p2, p3, p4, p5, p6, p7, p8, p9⟩ := qbox_reads _ _ _ _ _ _ _ _ _ _ _ _ _ _ _ _ _ _ HX6.out
    obtain ⟨q0, q1, q2, q3, q4, q5, q6, q7, q8, q9⟩ := qbox_reads _ _ _ _ _ _ _ _ _ _ _ _ _ _ _ _ _ _ HY6.out
    have HSM := Lib.hid ((psame_any _ x x (Nat.le_refl _) HFW.out _ _ (w6.alloc (QBox ⟨#[]⟩ ⟨#[]⟩ 0 0 none 0 0 none 0 0 none 0 0 0 0 0)) a tx z m o1 k1 c1 o2 k2 c2 o3 k3 c3 a' tx' z' m' o1' k1' c1' o2' k2' c2' o3' k3' c3' (HN.out.under (((Below.refl w2.heap.size w2).alloc (Nat.le_refl _) _).trans (HX6.out.mono (by omega)))) (HN5.out.under (((Below.refl w5.heap.size w5).alloc (Nat.le_refl _) _).trans (HY6.out.mono (by omega))))).mono (R' := fun e w' => e = .returned (.bool true) ∧ Below (w6.alloc (QBox ⟨#[]⟩ ⟨#[]⟩ 0 0 none 0 0 none 0 0 none 0 0 0 0 0)).heap.size (w6.alloc (QBox ⟨#[]⟩ ⟨#[]⟩ 0 0 none 0 0 none 0 0 none 0 0 0 0 0)) w') (fun e w' q => ⟨by rw [q.1]; simp, q.2⟩))
    clear b6
    go_wp2_with fail
    refine HSM.out.mono ?_
    rintro e w7 ⟨rfl, b7⟩
    have HB7 := Lib.hid (HB6.out.trans (b7.mono HB6.out.size))
    clear b7
    go_wp2
    go_ret
    exact ⟨rfl, HB7.out⟩

set_option maxHeartbeats 8000000 in
set_option maxRecDepth 100000 in
theorem tails_210 (s : ByteArray) (w : World) (h : Env w) (i0 : (s.size : Int) ≤ 300) (x : Ex) (hr : readL s.data.toList = some ⟨x, 0, -1, -1⟩) (an : Nat) (ia : (an : Int) ≤ 3000) :
    Calls Tryz.prog 7 #[.string s, .int .i64 2, .int .i64 (an : Int), .int .i64 (-1)] w fun e w' => e = .returned (.bool true) ∧ Below w.heap.size w w' := by
  have cA := Lib.hid (fun W (hb : Below w.heap.size w W) => alive_any W (h.below hb))
  have HFW := Lib.hid (show Few x from read_few (q := ⟨x, 0, -1, -1⟩) (by omega) hr)
  have C1 := Lib.hid (fun W (hb : Below w.heap.size w W) => read_is s (by omega) ⟨x, 0, -1, -1⟩ hr 0 rfl W (h.below hb))
  dsimp only at C1
  have hl := readL_tails hr 2 (by omega) (an : Int) (-1) (by omega) (by omega) (by omega) (by omega)
  have hTT : (((s ++ ⟨#[32, 111, 114, 100, 101, 114, 32, 100, 101, 115, 99]⟩) ++ (⟨#[32, 108, 105, 109, 105, 116, 32]⟩ ++ ⟨(decDigits an).toArray⟩)) : ByteArray).data.toList = s.data.toList ++ (oTxt 2 ++ (rTxt wLimit (an : Int) ++ rTxt wOffset (-1))) := by
    simp only [ByteArray.data_append, Array.toList_append, rtxt_yes, rtxt_no]
    simp [oTxt, wOrder, wDesc, wLimit]
  have hsz : (((s ++ ⟨#[32, 111, 114, 100, 101, 114, 32, 100, 101, 115, 99]⟩) ++ (⟨#[32, 108, 105, 109, 105, 116, 32]⟩ ++ ⟨(decDigits an).toArray⟩)) : ByteArray).size ≤ 500 := by
    rw [Lib.size_eq, hTT]
    have h1 := otxt_size 2
    have h2 := rtxt_size wLimit (by decide) (an : Int) (by omega)
    have h3 := rtxt_size wOffset (by decide) (-1) (by omega)
    simp only [List.length_append, ← Lib.size_eq]
    omega
  have CDa := Lib.hid (fun W => rdigits_any an (by omega) W)
  have HLa := Lib.hid (dec_len an 13 (by omega) (by decide))
  by_cases hbig : 2000 < an
  · have C3 := Lib.hid (fun W (hb : Below w.heap.size w W) => read_not ((s ++ ⟨#[32, 111, 114, 100, 101, 114, 32, 100, 101, 115, 99]⟩) ++ (⟨#[32, 108, 105, 109, 105, 116, 32]⟩ ++ ⟨(decDigits an).toArray⟩)) (by omega) (by rw [hTT, hl, if_pos (by omega)]) W (h.below hb))
    clear hl hTT h hr
    have e3 : (2000 : Int) < an := by omega
    clear hbig
    go_enter Tryz.func7, Tryz.ntmps7
    go_wp2_with fail
    refine (cA.out _ (Below.refl _ _)).mono ?_
    rintro e w1 ⟨rfl, b1⟩
    have B1 := Lib.hid b1
    clear b1
    go_wp2_with fail
    refine (C1.out _ B1.out).mono ?_
    rintro e w2 ⟨⟨a, tx, z, m, o1, k1, c1, o2, k2, c2, o3, k3, c3, rfl, hn⟩, b2⟩
    have B2 := Lib.hid (B1.out.trans (b2.mono B1.out.size))
    have HN := Lib.hid hn
    have HX2 := Lib.hid (box_start w2 (QBox a tx z m o1 k1 c1 o2 k2 c2 o3 k3 c3 0 (-1) (-1)))
    clear b2 hn
    go_wp2_with fail
    refine (CDa.out _).mono ?_
    rintro e w3 ⟨rfl, b3⟩
    have HX3 := Lib.hid (box_more HX2.out b3)
    have z1 := size_arr (decDigits an)
    have z2 := HLa.out
    clear b3
    have HB := Lib.hid (below_past B2.out HX3.out)
    go_wp2_with fail
    refine (C3.out _ HB.out).mono ?_
    rintro e w5 ⟨rfl, b5⟩
    have HB5 := Lib.hid (below_box (HB.out.trans (b5.mono HB.out.size)) (QBox ⟨#[]⟩ ⟨#[]⟩ 0 0 none 0 0 none 0 0 none 0 0 0 0 0))
    clear b5
    go_wp2
    go_ret
    exact ⟨rfl, HB5.out⟩
  · have e3 : (an : Int) ≤ 2000 := by omega
    have C3 := Lib.hid (fun W (hb : Below w.heap.size w W) => read_is ((s ++ ⟨#[32, 111, 114, 100, 101, 114, 32, 100, 101, 115, 99]⟩) ++ (⟨#[32, 108, 105, 109, 105, 116, 32]⟩ ++ ⟨(decDigits an).toArray⟩)) (by omega) ⟨x, 2, (an : Int), (-1)⟩ (by rw [hTT, hl, if_neg (by omega)]) 2 rfl W (h.below hb))
    dsimp only at C3
    have hl2 := readL_twice hr 2 (by omega) (an : Int) (-1) (by omega) (by omega) (by omega) (by omega) (by omega)
    have C4 := Lib.hid (fun W (hb : Below w.heap.size w W) => read_not (((s ++ ⟨#[32, 111, 114, 100, 101, 114, 32, 100, 101, 115, 99]⟩) ++ (⟨#[32, 108, 105, 109, 105, 116, 32]⟩ ++ ⟨(decDigits an).toArray⟩)) ++ ⟨#[32, 111, 114, 100, 101, 114, 32, 97, 115, 99]⟩) (by rw [ByteArray.size_append]; show _ + 10 ≤ 600; omega) (by rw [ByteArray.data_append, Array.toList_append, hTT]; exact hl2) W (h.below hb))
    clear hl2
    clear hl hTT h hr
    go_enter Tryz.func7, Tryz.ntmps7
    go_wp2_with fail
    refine (cA.out _ (Below.refl _ _)).mono ?_
    rintro e w1 ⟨rfl, b1⟩
    have B1 := Lib.hid b1
    clear b1
    go_wp2_with fail
    refine (C1.out _ B1.out).mono ?_
    rintro e w2 ⟨⟨a, tx, z, m, o1, k1, c1, o2, k2, c2, o3, k3, c3, rfl, hn⟩, b2⟩
    have B2 := Lib.hid (B1.out.trans (b2.mono B1.out.size))
    have HN := Lib.hid hn
    have HX2 := Lib.hid (box_start w2 (QBox a tx z m o1 k1 c1 o2 k2 c2 o3 k3 c3 0 (-1) (-1)))
    clear b2 hn
    go_wp2_with fail
    refine (CDa.out _).mono ?_
    rintro e w3 ⟨rfl, b3⟩
    have HX3 := Lib.hid (box_more HX2.out b3)
    have z1 := size_arr (decDigits an)
    have z2 := HLa.out
    clear b3
    have HB := Lib.hid (below_past B2.out HX3.out)
    go_wp2_with fail
    refine (C3.out _ HB.out).mono ?_
    rintro e w5 ⟨⟨a', tx', z', m', o1', k1', c1', o2', k2', c2', o3', k3', c3', rfl, hn5⟩, b5⟩
    have HN5 := Lib.hid hn5
    have HX5 := Lib.hid (box_more (box_more HX3.out b5) ((Below.refl w5.heap.size w5).alloc (Nat.le_refl _) (QBox a' tx' z' m' o1' k1' c1' o2' k2' c2' o3' k3' c3' 2 (an : Int) (-1))))
    have HB5 := Lib.hid (below_past B2.out HX5.out)
    clear b5 hn5
    go_wp2_with fail
    refine (C4.out _ HB5.out).mono ?_
    rintro e w6 ⟨rfl, b6⟩
    have HY6 := Lib.hid (box_more (box_more (box_start w5 (QBox a' tx' z' m' o1' k1' c1' o2' k2' c2' o3' k3' c3' 2 (an : Int) (-1))) b6) ((Below.refl w6.heap.size w6).alloc (Nat.le_refl _) (QBox ⟨#[]⟩ ⟨#[]⟩ 0 0 none 0 0 none 0 0 none 0 0 0 0 0)))
    have HX6 := Lib.hid (box_more (box_more HX5.out b6) ((Below.refl w6.heap.size w6).alloc (Nat.le_refl _) (QBox ⟨#[]⟩ ⟨#[]⟩ 0 0 none 0 0 none 0 0 none 0 0 0 0 0)))
    have HB6 := Lib.hid (below_past B2.out HX6.out)
    obtain ⟨p0, p1, p2, p3, p4, p5, p6, p7, p8, p9⟩ := qbox_reads _ _ _ _ _ _ _ _ _ _ _ _ _ _ _ _ _ _ HX6.out
    obtain ⟨q0, q1, q2, q3, q4, q5, q6, q7, q8, q9⟩ := qbox_reads _ _ _ _ _ _ _ _ _ _ _ _ _ _ _ _ _ _ HY6.out
    have HSM := Lib.hid ((psame_any _ x x (Nat.le_refl _) HFW.out _ _ (w6.alloc (QBox ⟨#[]⟩ ⟨#[]⟩ 0 0 none 0 0 none 0 0 none 0 0 0 0 0)) a tx z m o1 k1 c1 o2 k2 c2 o3 k3 c3 a' tx' z' m' o1' k1' c1' o2' k2' c2' o3' k3' c3' (HN.out.under (((Below.refl w2.heap.size w2).alloc (Nat.le_refl _) _).trans (HX6.out.mono (by omega)))) (HN5.out.under (((Below.refl w5.heap.size w5).alloc (Nat.le_refl _) _).trans (HY6.out.mono (by omega))))).mono (R' := fun e w' => e = .returned (.bool true) ∧ Below (w6.alloc (QBox ⟨#[]⟩ ⟨#[]⟩ 0 0 none 0 0 none 0 0 none 0 0 0 0 0)).heap.size (w6.alloc (QBox ⟨#[]⟩ ⟨#[]⟩ 0 0 none 0 0 none 0 0 none 0 0 0 0 0)) w') (fun e w' q => ⟨by rw [q.1]; simp, q.2⟩))
    clear b6
    go_wp2_with fail
    refine HSM.out.mono ?_
    rintro e w7 ⟨rfl, b7⟩
    have HB7 := Lib.hid (HB6.out.trans (b7.mono HB6.out.size))
    clear b7
    go_wp2
    go_ret
    exact ⟨rfl, HB7.out⟩

set_option maxHeartbeats 8000000 in
set_option maxRecDepth 100000 in
theorem tails_211 (s : ByteArray) (w : World) (h : Env w) (i0 : (s.size : Int) ≤ 300) (x : Ex) (hr : readL s.data.toList = some ⟨x, 0, -1, -1⟩) (an : Nat) (ia : (an : Int) ≤ 3000) (bn : Nat) (ib : (bn : Int) ≤ 3000) :
    Calls Tryz.prog 7 #[.string s, .int .i64 2, .int .i64 (an : Int), .int .i64 (bn : Int)] w fun e w' => e = .returned (.bool true) ∧ Below w.heap.size w w' := by
  have cA := Lib.hid (fun W (hb : Below w.heap.size w W) => alive_any W (h.below hb))
  have HFW := Lib.hid (show Few x from read_few (q := ⟨x, 0, -1, -1⟩) (by omega) hr)
  have C1 := Lib.hid (fun W (hb : Below w.heap.size w W) => read_is s (by omega) ⟨x, 0, -1, -1⟩ hr 0 rfl W (h.below hb))
  dsimp only at C1
  have hl := readL_tails hr 2 (by omega) (an : Int) (bn : Int) (by omega) (by omega) (by omega) (by omega)
  have hTT : ((((s ++ ⟨#[32, 111, 114, 100, 101, 114, 32, 100, 101, 115, 99]⟩) ++ (⟨#[32, 108, 105, 109, 105, 116, 32]⟩ ++ ⟨(decDigits an).toArray⟩)) ++ (⟨#[32, 111, 102, 102, 115, 101, 116, 32]⟩ ++ ⟨(decDigits bn).toArray⟩)) : ByteArray).data.toList = s.data.toList ++ (oTxt 2 ++ (rTxt wLimit (an : Int) ++ rTxt wOffset (bn : Int))) := by
    simp only [ByteArray.data_append, Array.toList_append, rtxt_yes]
    simp [oTxt, wOrder, wDesc, wLimit, wOffset]
  have hsz : ((((s ++ ⟨#[32, 111, 114, 100, 101, 114, 32, 100, 101, 115, 99]⟩) ++ (⟨#[32, 108, 105, 109, 105, 116, 32]⟩ ++ ⟨(decDigits an).toArray⟩)) ++ (⟨#[32, 111, 102, 102, 115, 101, 116, 32]⟩ ++ ⟨(decDigits bn).toArray⟩)) : ByteArray).size ≤ 500 := by
    rw [Lib.size_eq, hTT]
    have h1 := otxt_size 2
    have h2 := rtxt_size wLimit (by decide) (an : Int) (by omega)
    have h3 := rtxt_size wOffset (by decide) (bn : Int) (by omega)
    simp only [List.length_append, ← Lib.size_eq]
    omega
  have CDa := Lib.hid (fun W => rdigits_any an (by omega) W)
  have HLa := Lib.hid (dec_len an 13 (by omega) (by decide))
  have CDb := Lib.hid (fun W => rdigits_any bn (by omega) W)
  have HLb := Lib.hid (dec_len bn 13 (by omega) (by decide))
  by_cases hbig : 2000 < an ∨ 2000 < bn
  · have C3 := Lib.hid (fun W (hb : Below w.heap.size w W) => read_not (((s ++ ⟨#[32, 111, 114, 100, 101, 114, 32, 100, 101, 115, 99]⟩) ++ (⟨#[32, 108, 105, 109, 105, 116, 32]⟩ ++ ⟨(decDigits an).toArray⟩)) ++ (⟨#[32, 111, 102, 102, 115, 101, 116, 32]⟩ ++ ⟨(decDigits bn).toArray⟩)) (by omega) (by rw [hTT, hl, if_pos (by omega)]) W (h.below hb))
    have hb2 : (2000 < an) ∨ (an ≤ 2000 ∧ 2000 < bn) := by omega
    clear hl hTT h hr
    rcases hb2 with e1 | ⟨e1, e2⟩
    · have e3 : (2000 : Int) < an := by omega
      clear e1 hbig
      go_enter Tryz.func7, Tryz.ntmps7
      go_wp2_with fail
      refine (cA.out _ (Below.refl _ _)).mono ?_
      rintro e w1 ⟨rfl, b1⟩
      have B1 := Lib.hid b1
      clear b1
      go_wp2_with fail
      refine (C1.out _ B1.out).mono ?_
      rintro e w2 ⟨⟨a, tx, z, m, o1, k1, c1, o2, k2, c2, o3, k3, c3, rfl, hn⟩, b2⟩
      have B2 := Lib.hid (B1.out.trans (b2.mono B1.out.size))
      have HN := Lib.hid hn
      have HX2 := Lib.hid (box_start w2 (QBox a tx z m o1 k1 c1 o2 k2 c2 o3 k3 c3 0 (-1) (-1)))
      clear b2 hn
      go_wp2_with fail
      refine (CDa.out _).mono ?_
      rintro e w3 ⟨rfl, b3⟩
      have HX3 := Lib.hid (box_more HX2.out b3)
      have z1 := size_arr (decDigits an)
      have z2 := HLa.out
      clear b3
      go_wp2_with fail
      refine (CDb.out _).mono ?_
      rintro e w4 ⟨rfl, b4⟩
      have HX4 := Lib.hid (box_more HX3.out b4)
      have z3 := size_arr (decDigits bn)
      have z4 := HLb.out
      clear b4
      have HB := Lib.hid (below_past B2.out HX4.out)
      go_wp2_with fail
      refine (C3.out _ HB.out).mono ?_
      rintro e w5 ⟨rfl, b5⟩
      have HB5 := Lib.hid (below_box (HB.out.trans (b5.mono HB.out.size)) (QBox ⟨#[]⟩ ⟨#[]⟩ 0 0 none 0 0 none 0 0 none 0 0 0 0 0))
      clear b5
      go_wp2
      go_ret
      exact ⟨rfl, HB5.out⟩
    · have e3 : (an : Int) ≤ 2000 := by omega
      have e4 : (2000 : Int) < bn := by omega
      clear e1 e2 hbig
      go_enter Tryz.func7, Tryz.ntmps7
      go_wp2_with fail
      refine (cA.out _ (Below.refl _ _)).mono ?_
      rintro e w1 ⟨rfl, b1⟩
      have B1 := Lib.hid b1
      clear b1
      go_wp2_with fail
      refine (C1.out _ B1.out).mono ?_
      rintro e w2 ⟨⟨a, tx, z, m, o1, k1, c1, o2, k2, c2, o3, k3, c3, rfl, hn⟩, b2⟩
      have B2 := Lib.hid (B1.out.trans (b2.mono B1.out.size))
      have HN := Lib.hid hn
      have HX2 := Lib.hid (box_start w2 (QBox a tx z m o1 k1 c1 o2 k2 c2 o3 k3 c3 0 (-1) (-1)))
      clear b2 hn
      go_wp2_with fail
      refine (CDa.out _).mono ?_
      rintro e w3 ⟨rfl, b3⟩
      have HX3 := Lib.hid (box_more HX2.out b3)
      have z1 := size_arr (decDigits an)
      have z2 := HLa.out
      clear b3
      go_wp2_with fail
      refine (CDb.out _).mono ?_
      rintro e w4 ⟨rfl, b4⟩
      have HX4 := Lib.hid (box_more HX3.out b4)
      have z3 := size_arr (decDigits bn)
      have z4 := HLb.out
      clear b4
      have HB := Lib.hid (below_past B2.out HX4.out)
      go_wp2_with fail
      refine (C3.out _ HB.out).mono ?_
      rintro e w5 ⟨rfl, b5⟩
      have HB5 := Lib.hid (below_box (HB.out.trans (b5.mono HB.out.size)) (QBox ⟨#[]⟩ ⟨#[]⟩ 0 0 none 0 0 none 0 0 none 0 0 0 0 0))
      clear b5
      go_wp2
      go_ret
      exact ⟨rfl, HB5.out⟩
  · have e3 : (an : Int) ≤ 2000 := by omega
    have e4 : (bn : Int) ≤ 2000 := by omega
    have C3 := Lib.hid (fun W (hb : Below w.heap.size w W) => read_is (((s ++ ⟨#[32, 111, 114, 100, 101, 114, 32, 100, 101, 115, 99]⟩) ++ (⟨#[32, 108, 105, 109, 105, 116, 32]⟩ ++ ⟨(decDigits an).toArray⟩)) ++ (⟨#[32, 111, 102, 102, 115, 101, 116, 32]⟩ ++ ⟨(decDigits bn).toArray⟩)) (by omega) ⟨x, 2, (an : Int), (bn : Int)⟩ (by rw [hTT, hl, if_neg (by omega)]) 2 rfl W (h.below hb))
    dsimp only at C3
    have hl2 := readL_twice hr 2 (by omega) (an : Int) (bn : Int) (by omega) (by omega) (by omega) (by omega) (by omega)
    have C4 := Lib.hid (fun W (hb : Below w.heap.size w W) => read_not ((((s ++ ⟨#[32, 111, 114, 100, 101, 114, 32, 100, 101, 115, 99]⟩) ++ (⟨#[32, 108, 105, 109, 105, 116, 32]⟩ ++ ⟨(decDigits an).toArray⟩)) ++ (⟨#[32, 111, 102, 102, 115, 101, 116, 32]⟩ ++ ⟨(decDigits bn).toArray⟩)) ++ ⟨#[32, 111, 114, 100, 101, 114, 32, 97, 115, 99]⟩) (by rw [ByteArray.size_append]; show _ + 10 ≤ 600; omega) (by rw [ByteArray.data_append, Array.toList_append, hTT]; exact hl2) W (h.below hb))
    clear hl2
    clear hl hTT h hr
    go_enter Tryz.func7, Tryz.ntmps7
    go_wp2_with fail
    refine (cA.out _ (Below.refl _ _)).mono ?_
    rintro e w1 ⟨rfl, b1⟩
    have B1 := Lib.hid b1
    clear b1
    go_wp2_with fail
    refine (C1.out _ B1.out).mono ?_
    rintro e w2 ⟨⟨a, tx, z, m, o1, k1, c1, o2, k2, c2, o3, k3, c3, rfl, hn⟩, b2⟩
    have B2 := Lib.hid (B1.out.trans (b2.mono B1.out.size))
    have HN := Lib.hid hn
    have HX2 := Lib.hid (box_start w2 (QBox a tx z m o1 k1 c1 o2 k2 c2 o3 k3 c3 0 (-1) (-1)))
    clear b2 hn
    go_wp2_with fail
    refine (CDa.out _).mono ?_
    rintro e w3 ⟨rfl, b3⟩
    have HX3 := Lib.hid (box_more HX2.out b3)
    have z1 := size_arr (decDigits an)
    have z2 := HLa.out
    clear b3
    go_wp2_with fail
    refine (CDb.out _).mono ?_
    rintro e w4 ⟨rfl, b4⟩
    have HX4 := Lib.hid (box_more HX3.out b4)
    have z3 := size_arr (decDigits bn)
    have z4 := HLb.out
    clear b4
    have HB := Lib.hid (below_past B2.out HX4.out)
    go_wp2_with fail
    refine (C3.out _ HB.out).mono ?_
    rintro e w5 ⟨⟨a', tx', z', m', o1', k1', c1', o2', k2', c2', o3', k3', c3', rfl, hn5⟩, b5⟩
    have HN5 := Lib.hid hn5
    have HX5 := Lib.hid (box_more (box_more HX4.out b5) ((Below.refl w5.heap.size w5).alloc (Nat.le_refl _) (QBox a' tx' z' m' o1' k1' c1' o2' k2' c2' o3' k3' c3' 2 (an : Int) (bn : Int))))
    have HB5 := Lib.hid (below_past B2.out HX5.out)
    clear b5 hn5
    go_wp2_with fail
    refine (C4.out _ HB5.out).mono ?_
    rintro e w6 ⟨rfl, b6⟩
    have HY6 := Lib.hid (box_more (box_more (box_start w5 (QBox a' tx' z' m' o1' k1' c1' o2' k2' c2' o3' k3' c3' 2 (an : Int) (bn : Int))) b6) ((Below.refl w6.heap.size w6).alloc (Nat.le_refl _) (QBox ⟨#[]⟩ ⟨#[]⟩ 0 0 none 0 0 none 0 0 none 0 0 0 0 0)))
    have HX6 := Lib.hid (box_more (box_more HX5.out b6) ((Below.refl w6.heap.size w6).alloc (Nat.le_refl _) (QBox ⟨#[]⟩ ⟨#[]⟩ 0 0 none 0 0 none 0 0 none 0 0 0 0 0)))
    have HB6 := Lib.hid (below_past B2.out HX6.out)
    obtain ⟨p0, p1, p2, p3, p4, p5, p6, p7, p8, p9⟩ := qbox_reads _ _ _ _ _ _ _ _ _ _ _ _ _ _ _ _ _ _ HX6.out
    obtain ⟨q0, q1, q2, q3, q4, q5, q6, q7, q8, q9⟩ := qbox_reads _ _ _ _ _ _ _ _ _ _ _ _ _ _ _ _ _ _ HY6.out
    have HSM := Lib.hid ((psame_any _ x x (Nat.le_refl _) HFW.out _ _ (w6.alloc (QBox ⟨#[]⟩ ⟨#[]⟩ 0 0 none 0 0 none 0 0 none 0 0 0 0 0)) a tx z m o1 k1 c1 o2 k2 c2 o3 k3 c3 a' tx' z' m' o1' k1' c1' o2' k2' c2' o3' k3' c3' (HN.out.under (((Below.refl w2.heap.size w2).alloc (Nat.le_refl _) _).trans (HX6.out.mono (by omega)))) (HN5.out.under (((Below.refl w5.heap.size w5).alloc (Nat.le_refl _) _).trans (HY6.out.mono (by omega))))).mono (R' := fun e w' => e = .returned (.bool true) ∧ Below (w6.alloc (QBox ⟨#[]⟩ ⟨#[]⟩ 0 0 none 0 0 none 0 0 none 0 0 0 0 0)).heap.size (w6.alloc (QBox ⟨#[]⟩ ⟨#[]⟩ 0 0 none 0 0 none 0 0 none 0 0 0 0 0)) w') (fun e w' q => ⟨by rw [q.1]; simp, q.2⟩))
    clear b6
    go_wp2_with fail
    refine HSM.out.mono ?_
    rintro e w7 ⟨rfl, b7⟩
    have HB7 := Lib.hid (HB6.out.trans (b7.mono HB6.out.size))
    clear b7
    go_wp2
    go_ret
    exact ⟨rfl, HB7.out⟩

theorem int_neg {a : Int} (h : -1 ≤ a) : a = -1 ∨ ∃ n : Nat, a = n := by
  by_cases h0 : 0 ≤ a
  · exact .inr ⟨a.toNat, by omega⟩
  · exact .inl (by omega)
set_option maxHeartbeats 8000000 in
set_option maxRecDepth 100000 in
theorem tails_any (s : ByteArray) (order limit offset : Int) (w : World) (h : Env w) (hs : s.size ≤ maxLen) :
    Calls Tryz.prog 7 #[.string s, .int .i64 order, .int .i64 limit, .int .i64 offset] w fun e w' => e = .returned (.bool true) ∧ Below w.heap.size w w' := by
  unfold maxLen at hs
  by_cases hbig : 300 < s.size ∨ limit < -1 ∨ offset < -1 ∨ 3000 < limit ∨ 3000 < offset
  · have cA := Lib.hid (fun W (hb : Below w.heap.size w W) => alive_any W (h.below hb))
    have i1 : (300 : Int) < s.size ∨ ((s.size : Int) ≤ 300 ∧ limit < -1) ∨ ((s.size : Int) ≤ 300 ∧ -1 ≤ limit ∧ offset < -1) ∨ ((s.size : Int) ≤ 300 ∧ -1 ≤ limit ∧ -1 ≤ offset ∧ 3000 < limit) ∨ ((s.size : Int) ≤ 300 ∧ -1 ≤ limit ∧ -1 ≤ offset ∧ limit ≤ 3000 ∧ 3000 < offset) := by omega
    clear hbig h
    rcases i1 with i1 | ⟨i1, i2⟩ | ⟨i1, i2, i3⟩ | ⟨i1, i2, i3, i4⟩ | ⟨i1, i2, i3, i4, i5⟩
    all_goals
      go_enter Tryz.func7, Tryz.ntmps7
      go_wp2_with (go_at_call 10; refine (cA.out _ (Below.refl _ _)).mono ?_; rintro e w1 ⟨rfl, b1⟩)
      go_ret
      exact ⟨rfl, b1⟩
  · have i1 : (s.size : Int) ≤ 300 := by omega
    have i2 : -1 ≤ limit := by omega
    have i3 : -1 ≤ offset := by omega
    have i4 : limit ≤ 3000 := by omega
    have i5 : offset ≤ 3000 := by omega
    clear hbig
    cases hr : readL s.data.toList with
    | none =>
      have cA := Lib.hid (fun W (hb : Below w.heap.size w W) => alive_any W (h.below hb))
      have C1 := Lib.hid (fun W (hb : Below w.heap.size w W) => read_not s (by omega) hr W (h.below hb))
      clear h hr
      go_enter Tryz.func7, Tryz.ntmps7
      go_wp2_with fail
      refine (cA.out _ (Below.refl _ _)).mono ?_
      rintro e w1 ⟨rfl, b1⟩
      have B1 := Lib.hid b1
      clear b1
      go_wp2_with fail
      refine (C1.out _ B1.out).mono ?_
      rintro e w2 ⟨rfl, b2⟩
      have B2 := Lib.hid (below_box (B1.out.trans (b2.mono B1.out.size)) (QBox ⟨#[]⟩ ⟨#[]⟩ 0 0 none 0 0 none 0 0 none 0 0 0 0 0))
      clear b2
      go_wp2
      go_ret
      exact ⟨rfl, B2.out⟩
    | some q =>
      have hg := readL_good (by rw [← Lib.size_eq]; omega) hr
      obtain ⟨x, o, l, f⟩ := q
      by_cases hbare : Bare ⟨x, o, l, f⟩
      · obtain ⟨e1, e2, e3⟩ := hbare
        dsimp only at e1 e2 e3
        subst e1; subst e2; subst e3
        by_cases g1 : order = 1
        · subst g1
          rcases int_neg i2 with rfl | ⟨an, rfl⟩
          · rcases int_neg i3 with rfl | ⟨bn, rfl⟩
            · exact tails_100 s w h i1 x hr
            · exact tails_101 s w h i1 x hr bn i5
          · rcases int_neg i3 with rfl | ⟨bn, rfl⟩
            · exact tails_110 s w h i1 x hr an i4
            · exact tails_111 s w h i1 x hr an i4 bn i5
        · by_cases g2 : order = 2
          · subst g2
            rcases int_neg i2 with rfl | ⟨an, rfl⟩
            · rcases int_neg i3 with rfl | ⟨bn, rfl⟩
              · exact tails_200 s w h i1 x hr
              · exact tails_201 s w h i1 x hr bn i5
            · rcases int_neg i3 with rfl | ⟨bn, rfl⟩
              · exact tails_210 s w h i1 x hr an i4
              · exact tails_211 s w h i1 x hr an i4 bn i5
          · rcases int_neg i2 with rfl | ⟨an, rfl⟩
            · rcases int_neg i3 with rfl | ⟨bn, rfl⟩
              · exact tails_000 s w h i1 x hr order g1 g2
              · exact tails_001 s w h i1 x hr order g1 g2 bn i5
            · rcases int_neg i3 with rfl | ⟨bn, rfl⟩
              · exact tails_010 s w h i1 x hr order g1 g2 an i4
              · exact tails_011 s w h i1 x hr order g1 g2 an i4 bn i5
      · have cA := Lib.hid (fun W (hb : Below w.heap.size w W) => alive_any W (h.below hb))
        obtain ⟨od, hod⟩ : ∃ od : Int, (o : Int) = od := ⟨_, rfl⟩
        have C1 := Lib.hid (fun W (hb : Below w.heap.size w W) => read_is s (by omega) ⟨x, o, l, f⟩ hr od hod W (h.below hb))
        have hcs : od ≠ 0 ∨ (od = 0 ∧ 0 ≤ l) ∨ (od = 0 ∧ l < 0 ∧ 0 ≤ f) := by
          have h1 := hg.2.2.1
          have h2 := hg.2.2.2.1
          have h3 : ¬ (o = 0 ∧ l = -1 ∧ f = -1) := hbare
          dsimp only at h1 h2
          omega
        dsimp only at C1
        clear h hr hg hbare hod
        rcases hcs with g1 | ⟨g1, g2⟩ | ⟨g1, g2, g3⟩
        · have n2 : (od != 0) = true := by simp [g1]
          clear g1
          go_enter Tryz.func7, Tryz.ntmps7
          go_wp2_with fail
          refine (cA.out _ (Below.refl _ _)).mono ?_
          rintro e w1 ⟨rfl, b1⟩
          have B1 := Lib.hid b1
          clear b1
          go_wp2_with fail
          refine (C1.out _ B1.out).mono ?_
          rintro e w2 ⟨⟨a, tx, z, m, o1, k1, c1, o2, k2, c2, o3, k3, c3, rfl, hn⟩, b2⟩
          have B2 := Lib.hid (below_box (B1.out.trans (b2.mono B1.out.size)) (QBox a tx z m o1 k1 c1 o2 k2 c2 o3 k3 c3 od l f))
          clear b2 hn
          go_wp2
          go_ret
          exact ⟨rfl, B2.out⟩
        · subst g1
          go_enter Tryz.func7, Tryz.ntmps7
          go_wp2_with fail
          refine (cA.out _ (Below.refl _ _)).mono ?_
          rintro e w1 ⟨rfl, b1⟩
          have B1 := Lib.hid b1
          clear b1
          go_wp2_with fail
          refine (C1.out _ B1.out).mono ?_
          rintro e w2 ⟨⟨a, tx, z, m, o1, k1, c1, o2, k2, c2, o3, k3, c3, rfl, hn⟩, b2⟩
          have B2 := Lib.hid (below_box (B1.out.trans (b2.mono B1.out.size)) (QBox a tx z m o1 k1 c1 o2 k2 c2 o3 k3 c3 0 l f))
          clear b2 hn
          go_wp2
          go_ret
          exact ⟨rfl, B2.out⟩
        · subst g1
          have g4 : ¬ 0 ≤ l := by omega
          go_enter Tryz.func7, Tryz.ntmps7
          go_wp2_with fail
          refine (cA.out _ (Below.refl _ _)).mono ?_
          rintro e w1 ⟨rfl, b1⟩
          have B1 := Lib.hid b1
          clear b1
          go_wp2_with fail
          refine (C1.out _ B1.out).mono ?_
          rintro e w2 ⟨⟨a, tx, z, m, o1, k1, c1, o2, k2, c2, o3, k3, c3, rfl, hn⟩, b2⟩
          have B2 := Lib.hid (below_box (B1.out.trans (b2.mono B1.out.size)) (QBox a tx z m o1 k1 c1 o2 k2 c2 o3 k3 c3 0 l f))
          clear b2 hn
          go_wp2
          go_ret
          exact ⟨rfl, B2.out⟩
end Go.Proofs.YtmdmjnidfcopcaaGreatDoor.Par
