/- Brackets round a query (the law). -/
import Derived.Test.YtmdmjnidfcopcaaGreatDoorNy
namespace Go.Proofs.YtmdmjnidfcopcaaGreatDoor.Par
open Go.RowKit Go.Lib
open Go.Proofs.YtmdmjnidfcopcaaGreatDoor.Sto

set_option maxHeartbeats 8000000 in
set_option maxRecDepth 100000 in
theorem brackets_any (s : ByteArray) (n : Int) (w : World) (h : Env w) (hs : s.size ≤ maxLen) :
    Calls Tryz.prog 6 #[.string s, .int .i64 n] w fun e w' => e = .returned (.bool true) ∧ Below w.heap.size w w' := by
  unfold maxLen at hs
  have cA := Lib.hid (fun W (hb : Below w.heap.size w W) => alive_any W (h.below hb))
  by_cases hbig : 400 < s.size ∨ n < 1 ∨ 60 < n
  · have i1 : (400 : Int) < s.size ∨ ((s.size : Int) ≤ 400 ∧ n < 1) ∨ ((s.size : Int) ≤ 400 ∧ 1 ≤ n ∧ 60 < n) := by omega
    clear hbig h
    rcases i1 with i1 | ⟨i1, i2⟩ | ⟨i1, i2, i3⟩
    all_goals
      go_enter Tryz.func6, Tryz.ntmps6
      go_wp2_with (go_at_call 10; refine (cA.out _ (Below.refl _ _)).mono ?_; rintro e w1 ⟨rfl, b1⟩)
      go_ret
      exact ⟨rfl, b1⟩
  · obtain ⟨n, rfl⟩ : ∃ k : Nat, n = k := ⟨n.toNat, by omega⟩
    have i1 : (s.size : Int) ≤ 400 := by omega
    have i2 : 1 ≤ (n : Int) := by omega
    have i3 : (n : Int) ≤ 60 := by omega
    have C2 := Lib.hid (fun W (hb : Below w.heap.size w W) T (hT : T.size ≤ 520) => read_raw T (by unfold maxLen; omega) W (h.below hb))
    clear hbig
    cases hr : readL s.data.toList with
    | none =>
      have C1 := Lib.hid (fun W (hb : Below w.heap.size w W) => read_not s (by omega) hr W (h.below hb))
      clear h hr
      go_enter Tryz.func6, Tryz.ntmps6
      go_wp2_with fail
      refine (cA.out _ (Below.refl _ _)).mono ?_
      rintro e w1 ⟨rfl, b1⟩
      have B1 := Lib.hid b1
      clear b1
      go_wp2_with fail
      refine (C1.out _ B1.out).mono ?_
      rintro e w2 ⟨rfl, b2⟩
      have B2 := Lib.hid (B1.out.trans (b2.mono B1.out.size))
      clear b2
      go_wp2_with fail
      go_loopw [7, 8] (fun v7 v8 wr => ∃ (j : Nat) (T : ByteArray), v8 = .int .i64 j ∧ v7 = .string T ∧ j ≤ n ∧ T.size ≤ 520 ∧ Hid (T.data.toList = brT j s.data.toList) ∧ Hid (Below (w2.heap.size + 1) (w2.alloc (QBox ⟨#[]⟩ ⟨#[]⟩ 0 0 none 0 0 none 0 0 none 0 0 0 0 0)) wr)) (fun _ v8 _ => n - (Go.RowKit.intOf v8).toNat)
      case atStart => exact ⟨0, s, rfl, rfl, Nat.zero_le _, by omega, rfl, box_start _ _⟩
      case round =>
        obtain ⟨j, T, rfl, rfl, hj, hT, HT, HB⟩ := hrel
        have HB0 := Lib.hid (below_past B2.out HB.out)
        by_cases hlt : j < n
        · have j1 : (j : Int) < n := by omega
          have HT2 := Lib.hid (show ((⟨#[40]⟩ : ByteArray) ++ T ++ ⟨#[41]⟩).data.toList = brT (j + 1) s.data.toList by
            rw [ByteArray.data_append, ByteArray.data_append, Array.toList_append, Array.toList_append, HT.out]; simp [brT])
          have HTS := Lib.hid (show ((⟨#[40]⟩ : ByteArray) ++ T ++ ⟨#[41]⟩).size ≤ 520 by
            have h1 := congrArg List.length HT2.out
            rw [← Lib.size_eq, brT_length, ← Lib.size_eq] at h1
            omega)
          go_wp2
          go_roundw
          case rel => exact ⟨j + 1, _, by go_num, rfl, by omega, HTS.out, HT2, HB⟩
          case measure => simp [Go.RowKit.intOf]; omega
        · have j1 : ¬ (j : Int) < n := by omega
          obtain rfl : j = n := by omega
          go_wp2_with fail
          refine (C2.out _ HB0.out T hT).mono ?_
          rintro e w4 ⟨⟨a, tx, z, m, o1, k1, c1, o2, k2, c2, o3, k3, c3, od, li, ob, k, rfl⟩, b4⟩
          have B4 := Lib.hid (below_box (HB0.out.trans (b4.mono HB0.out.size)) (QBox a tx z m o1 k1 c1 o2 k2 c2 o3 k3 c3 od li ob))
          clear b4
          go_wp2
          go_ret
          exact ⟨rfl, B4.out⟩
    | some q =>
      have hfw := read_few (by omega) hr
      have hg := readL_good (by rw [← Lib.size_eq]; omega) hr
      obtain ⟨x, o, l, f⟩ := q
      by_cases hbare : Bare ⟨x, o, l, f⟩
      · have C3 := Lib.hid (fun W (hb : Below w.heap.size w W) T (hT : T.size ≤ 520) (hT2 : T.data.toList = brT n s.data.toList) => read_is T (by omega) ⟨x, o, l, f⟩ (by rw [hT2]; exact readL_br hr hbare n) 0 (by rw [hbare.1]; rfl) W (h.below hb))
        have C1 := Lib.hid (fun W (hb : Below w.heap.size w W) => read_is s (by omega) ⟨x, o, l, f⟩ hr 0 (by rw [hbare.1]; rfl) W (h.below hb))
        have HBA := Lib.hid hbare
        have HFW := Lib.hid hfw
        have e2 : l = -1 := hbare.2.1
        have e3 : f = -1 := hbare.2.2
        subst e2; subst e3
        dsimp only at C1 C3
        clear h hr hg hfw hbare C2
        go_enter Tryz.func6, Tryz.ntmps6
        go_wp2_with fail
        refine (cA.out _ (Below.refl _ _)).mono ?_
        rintro e w1 ⟨rfl, b1⟩
        have B1 := Lib.hid b1
        clear b1
        go_wp2_with fail
        refine (C1.out _ B1.out).mono ?_
        rintro e w2 ⟨⟨a, tx, z, m, o1, k1, c1, o2, k2, c2, o3, k3, c3, rfl, hn⟩, b2⟩
        have B2 := Lib.hid (B1.out.trans (b2.mono B1.out.size))
        have HN := Lib.hid hn
        clear b2 hn
        go_wp2_with fail
        go_loopw [7, 8] (fun v7 v8 wr => ∃ (j : Nat) (T : ByteArray), v8 = .int .i64 j ∧ v7 = .string T ∧ j ≤ n ∧ T.size ≤ 520 ∧ Hid (T.data.toList = brT j s.data.toList) ∧ Hid (Below (w2.heap.size + 1) (w2.alloc (QBox a tx z m o1 k1 c1 o2 k2 c2 o3 k3 c3 0 (-1) (-1))) wr)) (fun _ v8 _ => n - (Go.RowKit.intOf v8).toNat)
        case atStart => exact ⟨0, s, rfl, rfl, Nat.zero_le _, by omega, rfl, box_start _ _⟩
        case round =>
          obtain ⟨j, T, rfl, rfl, hj, hT, HT, HB⟩ := hrel
          have HB0 := Lib.hid (below_past B2.out HB.out)
          by_cases hlt : j < n
          · have j1 : (j : Int) < n := by omega
            have HT2 := Lib.hid (show ((⟨#[40]⟩ : ByteArray) ++ T ++ ⟨#[41]⟩).data.toList = brT (j + 1) s.data.toList by
              rw [ByteArray.data_append, ByteArray.data_append, Array.toList_append, Array.toList_append, HT.out]; simp [brT])
            have HTS := Lib.hid (show ((⟨#[40]⟩ : ByteArray) ++ T ++ ⟨#[41]⟩).size ≤ 520 by
              have h1 := congrArg List.length HT2.out
              rw [← Lib.size_eq, brT_length, ← Lib.size_eq] at h1
              omega)
            go_wp2
            go_roundw
            case rel => exact ⟨j + 1, _, by go_num, rfl, by omega, HTS.out, HT2, HB⟩
            case measure => simp [Go.RowKit.intOf]; omega
          · have j1 : ¬ (j : Int) < n := by omega
            obtain rfl : j = n := by omega
            go_wp2_with fail
            refine (C3.out _ HB0.out T hT HT.out).mono ?_
            rintro e w4 ⟨⟨a', tx', z', m', o1', k1', c1', o2', k2', c2', o3', k3', c3', rfl, hn4⟩, b4⟩
            have HB4 := Lib.hid (box_more (box_more HB.out b4) ((Below.refl w4.heap.size w4).alloc (Nat.le_refl _) (QBox a' tx' z' m' o1' k1' c1' o2' k2' c2' o3' k3' c3' 0 (-1) (-1))))
            have HB5 := Lib.hid (below_past B2.out HB4.out)
            have HSM := Lib.hid (lsame_any x x HFW.out true _ _ (w4.alloc (QBox a' tx' z' m' o1' k1' c1' o2' k2' c2' o3' k3' c3' 0 (-1) (-1))) a tx z m o1 k1 c1 o2 k2 c2 o3 k3 c3 0 (-1) (-1) a' tx' z' m' o1' k1' c1' o2' k2' c2' o3' k3' c3' 0 (-1) (-1) (HN.out.under (((Below.refl w2.heap.size w2).alloc (Nat.le_refl _) _).trans (HB4.out.mono (by omega)))) (hn4.under ((Below.refl w4.heap.size w4).alloc (Nat.le_refl _) _)) (by simp))
            obtain ⟨p0, p1, p2, p3, p4, p5, p6, p7, p8, p9⟩ := qbox_reads _ _ _ _ _ _ _ _ _ _ _ _ _ _ _ _ _ _ HB4.out
            clear b4 hn4
            go_wp2_with fail
            refine HSM.out.mono ?_
            rintro e w5 ⟨rfl, b5⟩
            have HB6 := Lib.hid (HB5.out.trans (b5.mono HB5.out.size))
            clear b5
            go_wp2
            go_ret
            exact ⟨rfl, HB6.out⟩
      · have C3 := Lib.hid (fun W (hb : Below w.heap.size w W) T (hT : T.size ≤ 520) (hT2 : T.data.toList = brT n s.data.toList) => read_not T (by omega) (by rw [hT2]; exact readL_br_none hr hbare n (by omega)) W (h.below hb))
        obtain ⟨od, hod⟩ : ∃ od : Int, (o : Int) = od := ⟨_, rfl⟩
        have C1 := Lib.hid (fun W (hb : Below w.heap.size w W) => read_is s (by omega) ⟨x, o, l, f⟩ hr od hod W (h.below hb))
        have hcs : od ≠ 0 ∨ (od = 0 ∧ 0 ≤ l) ∨ (od = 0 ∧ l < 0 ∧ 0 ≤ f) := by
          have h1 := hg.2.2.1
          have h2 := hg.2.2.2.1
          have h3 : ¬ (o = 0 ∧ l = -1 ∧ f = -1) := hbare
          dsimp only at h1 h2
          omega
        dsimp only at C1
        have HCS := Lib.hid hcs
        clear h hr hg hfw hbare C2 hod hcs
        go_enter Tryz.func6, Tryz.ntmps6
        go_wp2_with fail
        refine (cA.out _ (Below.refl _ _)).mono ?_
        rintro e w1 ⟨rfl, b1⟩
        have B1 := Lib.hid b1
        clear b1
        go_wp2_with fail
        refine (C1.out _ B1.out).mono ?_
        rintro e w2 ⟨⟨a, tx, z, m, o1, k1, c1, o2, k2, c2, o3, k3, c3, rfl, hn⟩, b2⟩
        have B2 := Lib.hid (B1.out.trans (b2.mono B1.out.size))
        clear b2 hn
        go_wp2_with fail
        go_loopw [7, 8] (fun v7 v8 wr => ∃ (j : Nat) (T : ByteArray), v8 = .int .i64 j ∧ v7 = .string T ∧ j ≤ n ∧ T.size ≤ 520 ∧ Hid (T.data.toList = brT j s.data.toList) ∧ Hid (Below (w2.heap.size + 1) (w2.alloc (QBox a tx z m o1 k1 c1 o2 k2 c2 o3 k3 c3 od l f)) wr)) (fun _ v8 _ => n - (Go.RowKit.intOf v8).toNat)
        case atStart => exact ⟨0, s, rfl, rfl, Nat.zero_le _, by omega, rfl, box_start _ _⟩
        case round =>
          obtain ⟨j, T, rfl, rfl, hj, hT, HT, HB⟩ := hrel
          have HB0 := Lib.hid (below_past B2.out HB.out)
          by_cases hlt : j < n
          · have j1 : (j : Int) < n := by omega
            have HT2 := Lib.hid (show ((⟨#[40]⟩ : ByteArray) ++ T ++ ⟨#[41]⟩).data.toList = brT (j + 1) s.data.toList by
              rw [ByteArray.data_append, ByteArray.data_append, Array.toList_append, Array.toList_append, HT.out]; simp [brT])
            have HTS := Lib.hid (show ((⟨#[40]⟩ : ByteArray) ++ T ++ ⟨#[41]⟩).size ≤ 520 by
              have h1 := congrArg List.length HT2.out
              rw [← Lib.size_eq, brT_length, ← Lib.size_eq] at h1
              omega)
            go_wp2
            go_roundw
            case rel => exact ⟨j + 1, _, by go_num, rfl, by omega, HTS.out, HT2, HB⟩
            case measure => simp [Go.RowKit.intOf]; omega
          · have j1 : ¬ (j : Int) < n := by omega
            obtain rfl : j = n := by omega
            go_wp2_with fail
            refine (C3.out _ HB0.out T hT HT.out).mono ?_
            rintro e w4 ⟨rfl, b4⟩
            have HB4 := Lib.hid (box_more (box_more HB.out b4) ((Below.refl w4.heap.size w4).alloc (Nat.le_refl _) (QBox ⟨#[]⟩ ⟨#[]⟩ 0 0 none 0 0 none 0 0 none 0 0 0 0 0)))
            have HB5 := Lib.hid (below_past B2.out HB4.out)
            obtain ⟨p0, p1, p2, p3, p4, p5, p6, p7, p8, p9⟩ := qbox_reads _ _ _ _ _ _ _ _ _ _ _ _ _ _ _ _ _ _ HB4.out
            clear b4
            have hcs := HCS.out
            rcases hcs with g1 | ⟨g1, g2⟩ | ⟨g1, g2, g3⟩
            · have g2 : (od != 0) = true := by simp [g1]
              clear g1
              go_wp2
              go_ret
              exact ⟨rfl, HB5.out⟩
            · subst g1
              go_wp2
              go_ret
              exact ⟨rfl, HB5.out⟩
            · subst g1
              have g4 : ¬ 0 ≤ l := by omega
              go_wp2
              go_ret
              exact ⟨rfl, HB5.out⟩
end Go.Proofs.YtmdmjnidfcopcaaGreatDoor.Par
