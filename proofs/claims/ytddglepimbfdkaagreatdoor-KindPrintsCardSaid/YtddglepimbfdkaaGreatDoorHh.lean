/- Queries are written: matchers, selectors, two parts with names; the whole. -/
import Derived.Test.YtddglepimbfdkaaGreatDoorHg
import Derived.Test.YtddglepimbfdkaaGreatDoorNx
import Derived.Deep.DeepFit
import Derived.Deep.RegionHeld3
namespace Go.Proofs.YtddglepimbfdkaaGreatDoor.Par
open Go.RowKit Go.Lib
open Go.Proofs.YtddglepimbfdkaaGreatDoor.Sto

theorem commaM_app (m : Mat) : ∀ l : List Mat, commaM (l ++ [m]) = if l = [] then oneM m else commaM l ++ 44 :: oneM m
  | [] => rfl
  | [x] => rfl
  | x :: y :: l => by
    have ih := commaM_app m (y :: l)
    rw [if_neg (by simp)] at ih ⊢
    show oneM x ++ 44 :: commaM (y :: l ++ [m]) = (oneM x ++ 44 :: commaM (y :: l)) ++ 44 :: oneM m
    rw [ih]; simp
theorem commaM_pre (b : List Mat) : ∀ a : List Mat, (commaM a).length ≤ (commaM (a ++ b)).length
  | [] => Nat.zero_le _
  | [x] => by
    cases b with
    | nil => exact Nat.le_refl _
    | cons y b => show (oneM x).length ≤ (oneM x ++ 44 :: commaM (y :: b)).length; simp
  | x :: y :: l => by
    have ih := commaM_pre b (y :: l)
    show (oneM x ++ 44 :: commaM (y :: l)).length ≤ (oneM x ++ 44 :: commaM (y :: l ++ b)).length
    simp only [List.length_append, List.length_cons] at ih ⊢; omega
theorem commaM_take (ms : List Mat) (k : Nat) : (commaM (ms.take k)).length ≤ (commaM ms).length := by
  have := commaM_pre (ms.drop k) (ms.take k)
  rwa [List.take_append_drop] at this
theorem commaM_snoc {ms : List Mat} {k : Nat} {m : Mat} (h : ms[k]? = some m) : commaM (ms.take (k + 1)) = if k = 0 then oneM m else commaM (ms.take k) ++ 44 :: oneM m := by
  have hk := (List.getElem?_eq_some_iff.1 h).1
  rw [List.take_add_one, h]
  show commaM (ms.take k ++ [m]) = _
  rw [commaM_app]
  by_cases h0 : k = 0
  · subst h0; rfl
  · rw [if_neg h0, if_neg]
    intro e
    have := congrArg List.length e
    rw [List.length_take, List.length_nil] at this; omega
theorem cells3 {w : World} {k T : Nat} {a b c : Value} (h : w.heap[k]? = some (.cells #[a, b, c] T (0, 0))) : w.cell? ⟨k, 0, none⟩ = some a ∧ w.cell? ⟨k, 1, none⟩ = some b ∧ w.cell? ⟨k, 2, none⟩ = some c := by
  refine ⟨?_, ?_, ?_⟩ <;> simp [World.cell?, h]
theorem mat_add (nm sg qt t1 t2 : ByteArray) (h1 : nm ++ sg = t1) (h2 : t1 ++ qt = t2) (m : Mat) (e1 : nm = m.1) (e2 : sg.data.toList = signM m.2.1) (e3 : qt.data.toList = quoteL m.2.2.data.toList) : t2.data.toList = oneM m := by
  subst e1
  rw [← h2, ← h1, ByteArray.data_append, ByteArray.data_append, Array.toList_append, Array.toList_append, e2, e3]
  unfold oneM; simp

set_option maxHeartbeats 8000000 in
set_option maxRecDepth 100000 in
theorem wmats_any (ms : List Mat) (hg : GoodMs ms) (W0 w : World) (P : Nat → Prop) (b : Nat) (acc : List UInt8) (o : Option Addr) (k c : Nat) (hl : ms.length = k) (hm10 : k ≤ 10) (hs : SeesR W0 P o 3 (ms.map encM)) (hp : Pen W0 b acc w) (hf : acc.length + (123 :: (commaM ms ++ [125])).length ≤ 100000000000000) :
    Calls Tryz.prog 162 #[.pointer (some ⟨b, 0, none⟩), .slice o k c] w (Wrote W0 b acc (123 :: (commaM ms ++ [125])) w) := by
  simp only [List.length_cons, List.length_append, List.length_nil] at hf
  have HF0 := Lib.hid (show acc.length + 1 ≤ 100000000000000 by omega)
  have HFF := Lib.hid (show (acc ++ 123 :: commaM ms).length + 1 ≤ 100000000000000 by simp only [List.length_append, List.length_cons]; omega)
  have HFK := Lib.hid (fun j (h : 0 < j) (m : Mat) (hj : ms[j]? = some m) => (show (acc ++ 123 :: commaM (ms.take j)).length + 1 + (oneM m).length ≤ 100000000000000 from by
    have h1 := commaM_take ms (j + 1)
    rw [commaM_snoc hj, if_neg (by omega)] at h1
    simp only [List.length_append, List.length_cons] at h1 ⊢; omega))
  have HF1 := Lib.hid (fun (m : Mat) (hj : ms[0]? = some m) => (show (acc ++ 123 :: commaM (ms.take 0)).length + (oneM m).length ≤ 100000000000000 from by
    have h1 := commaM_take ms (0 + 1)
    rw [commaM_snoc hj, if_pos rfl] at h1
    simp only [List.length_append, List.length_cons, List.take_zero, commaM, List.length_nil] at h1 ⊢; omega))
  have HS := Lib.hid hs
  have HL := Lib.hid hl
  have HG := Lib.hid hg
  have HP := Lib.hid hp
  clear hs hl hg hp hf
  go_enter Tryz.func162, Tryz.ntmps162
  have HB0 := Lib.hid (byte_any 123 HP.out HF0.out)
  go_wp2_with fail
  refine HB0.out.mono ?_
  rintro e w1 ⟨rfl, hp1, hk1⟩
  have HP1 := Lib.hid (show Pen W0 b (acc ++ 123 :: commaM (ms.take 0)) w1 from hp1)
  have HK1 := Lib.hid hk1
  clear hp1 hk1
  go_wp2
  go_loopw [10] (fun v wr => ∃ j : Nat, v = .int .i64 j ∧ j ≤ k ∧ Hid (Pen W0 b (acc ++ 123 :: commaM (ms.take j)) wr) ∧ Hid (Lib.OthersKept 5 (some b) w wr)) (fun v _ => k - (Go.RowKit.intOf v).toNat)
  case atStart => exact ⟨0, rfl, Nat.zero_le _, HP1, HK1⟩
  case round =>
    obtain ⟨j, rfl, hj, HPk, HKk⟩ := hrel
    by_cases hlt : j < k
    · have j1 : (j : Int) < k := by omega
      obtain ⟨mm, hmm⟩ : ∃ m, ms[j]? = some m := ⟨_, List.getElem?_eq_getElem (by rw [HL.out]; exact hlt)⟩
      obtain ⟨bb, off, rfl, hbl, hc⟩ := HS.out.at (j := j) (cs := encM mm) (by rw [List.getElem?_map, hmm]; rfl)
      have hgm := HG.out mm (List.mem_of_getElem? hmm)
      have c0 := (HPk.out.bel.cell (p := ⟨bb, off + j * 3 + 0, none⟩) hbl).trans (hc 0 _ rfl)
      have c1 := (HPk.out.bel.cell (p := ⟨bb, off + j * 3 + 1, none⟩) hbl).trans (hc 1 _ rfl)
      have c2 := (HPk.out.bel.cell (p := ⟨bb, off + j * 3 + 2, none⟩) hbl).trans (hc 2 _ rfl)
      simp only [Nat.add_zero] at c0
      have HMM := Lib.hid hmm
      obtain ⟨nm, hnm⟩ : ∃ v, mm.1 = v := ⟨_, rfl⟩
      obtain ⟨op, hop⟩ : ∃ v, mm.2.1 = v := ⟨_, rfl⟩
      obtain ⟨vl, hvl⟩ : ∃ v, mm.2.2 = v := ⟨_, rfl⟩
      rw [hnm] at c0
      rw [hop] at c1
      rw [hvl] at c2
      have hnz : nm.size ≤ 1000 := by rw [← hnm, Lib.size_eq]; exact hgm.1.2
      have hvz : vl.size ≤ 1000 := by rw [← hvl, Lib.size_eq]; exact hgm.2.1
      have hqz := quote_len5 vl.data.toList
      rw [← Lib.size_eq] at hqz
      obtain ⟨sg, hsg⟩ : ∃ v : ByteArray, (⟨(signM op).toArray⟩ : ByteArray) = v := ⟨_, rfl⟩
      obtain ⟨qt, hqt⟩ : ∃ v : ByteArray, (⟨(quoteL vl.data.toList).toArray⟩ : ByteArray) = v := ⟨_, rfl⟩
      have hsz : sg.size ≤ 2 := by rw [← hsg, size_arr]; exact signM_len op
      have hqz2 : qt.size ≤ 5002 := by rw [← hqt, size_arr]; omega
      obtain ⟨t1, h1⟩ : ∃ t, nm ++ sg = t := ⟨_, rfl⟩
      obtain ⟨t2, h2⟩ : ∃ t, t1 ++ qt = t := ⟨_, rfl⟩
      have hT2 := Lib.hid (mat_add nm sg qt t1 t2 h1 h2 mm hnm.symm (by rw [← hsg, hop]) (by rw [← hqt, hvl]))
      have z1 : t1.size = nm.size + sg.size := by rw [← h1, ByteArray.size_append]
      have n1 : ¬ (nm.size + sg.size > 9223372036854775807) := by omega
      have n2 : ¬ (t1.size + qt.size > 9223372036854775807) := by omega
      have HSG := Lib.hid (fun W => signOf_any op W)
      have HQT := Lib.hid (fun W => quote_any vl W (by omega))
      rw [hsg] at HSG
      rw [hqt] at HQT
      have hb2 := (show (wr.alloc (Obj.cells #[.string nm, .int .i64 op, .string vl] 40)).heap[wr.heap.size]? = some (.cells #[.string nm, .int .i64 op, .string vl] 40 (0, 0)) from Array.getElem?_push_size)
      have hne : wr.heap.size ≠ b := Nat.ne_of_gt HPk.out.lt
      have HKB := Lib.hid (fun W (h : Lib.OthersKept 5 (some b) (wr.alloc (Obj.cells #[.string nm, .int .i64 op, .string vl] 40)) W) => cells3 (box_kept h hb2 (by decide) hne))
      have HPA := Lib.hid (HPk.out.alloc (Obj.cells #[.string nm, .int .i64 op, .string vl] 40))
      have HKA := Lib.hid (HKk.out.alloc (Obj.cells #[.string nm, .int .i64 op, .string vl] 40))
      clear hc hmm hgm hnm hop hvl hsg hqt z1 hb2 hne hqz
      by_cases hj0 : j = 0
      · subst hj0
        simp only [Nat.zero_mul, Nat.add_zero] at c0 c1 c2
        have HBND := Lib.hid (HF1.out mm HMM.out)
        have HEQ := Lib.hid (show acc ++ 123 :: commaM (ms.take 0) ++ oneM mm = acc ++ 123 :: commaM (ms.take (0 + 1)) by rw [commaM_snoc HMM.out, if_pos rfl]; simp [commaM])
        obtain ⟨w2, hw2⟩ : ∃ w2, wr.alloc (Obj.cells #[.string nm, .int .i64 op, .string vl] 40) = w2 := ⟨_, rfl⟩
        have HW2 := Lib.hid hw2
        have HK2 := Lib.hid (kept_refl b w2)
        rw [hw2] at HPA HKA HKB
        clear hw2
        go_wp2_with fail
        rw [show wr.alloc (Obj.cells #[.string nm, .int .i64 op, .string vl] 40) = w2 from HW2.out]
        obtain ⟨r0, r1, r2⟩ := HKB.out w2 (kept_refl b w2)
        have HR := Lib.hid (And.intro r0 (And.intro r1 r2))
        have hbk : wr.heap.size < w2.heap.size := World.block_lt_of_cell? _ _ r0
        have HBK := Lib.hid hbk
        have r3 := Lib.hid (show Below w2.heap.size w2 w2.drew from (Below.refl _ _).drew)
        have r4 := Lib.hid (Below.refl w2.heap.size w2)
        have HQ2 := Lib.hid (fun (W : World) (h : Hid (Below w2.heap.size w2 W)) => (HQT.out W).mono (R' := fun e w' => e = .returned (.string qt) ∧ w'.cell? ⟨wr.heap.size, 0, none⟩ = some (.string nm) ∧ w'.cell? ⟨wr.heap.size, 1, none⟩ = some (.int .i64 op) ∧ w'.cell? ⟨wr.heap.size, 2, none⟩ = some (.string vl) ∧ Hid (Below w2.heap.size w2 w')) (fun e w' q =>
          have hb := h.out.trans (q.2.mono h.out.size)
          ⟨q.1, (hb.cell (p := ⟨wr.heap.size, 0, none⟩) HBK.out).trans HR.out.1, (hb.cell (p := ⟨wr.heap.size, 1, none⟩) HBK.out).trans HR.out.2.1, (hb.cell (p := ⟨wr.heap.size, 2, none⟩) HBK.out).trans HR.out.2.2, hb⟩))
        have HWS := Lib.hid (fun (W : World) (h : Hid (Below w2.heap.size w2 W)) => (str_any t2 (HPA.out.below h.out) (by rw [Lib.size_eq, hT2.out]; exact HBND.out)).mono (R' := fun e w' => e = .returned (.tuple #[.int .i64 t2.size, .nilIface]) ∧ w'.cell? ⟨wr.heap.size, 0, none⟩ = some (.string nm) ∧ w'.cell? ⟨wr.heap.size, 1, none⟩ = some (.int .i64 op) ∧ w'.cell? ⟨wr.heap.size, 2, none⟩ = some (.string vl) ∧ Hid (Pen W0 b (acc ++ 123 :: commaM (ms.take (0 + 1))) w' ∧ Lib.OthersKept 5 (some b) w2 w')) (fun e w' q =>
          have hk := (kept_of_below (some b) h.out).trans q.2.2
          have hc := HKB.out w' hk
          ⟨q.1, hc.1, hc.2.1, hc.2.2, by have hq := q.2.1; rw [hT2.out, HEQ.out] at hq; exact hq, hk⟩))
        clear hbk
        go_region_held3 (fun w' => w'.cell? ⟨wr.heap.size, 0, none⟩ = some (.string nm) ∧ w'.cell? ⟨wr.heap.size, 1, none⟩ = some (.int .i64 op) ∧ w'.cell? ⟨wr.heap.size, 2, none⟩ = some (.string vl)) (first | exact ⟨s0, s1, s2⟩ | exact ⟨r0, r1, r2⟩) (first
          | (go_at_call 188; refine (HSG.out _).mono ?_; rintro e wq ⟨rfl, rfl⟩)
          | (go_at_call 189; go_fit (HQ2.out _ r3); rintro e wq ⟨rfl, s0, s1, s2, s3⟩)
          | (go_at_call 46; go_fit (HWS.out _ s3); rintro e w5 ⟨rfl, s0, s1, s2, s5⟩))
        all_goals
          have HP5 := Lib.hid s5.out.1
          have HK5 := Lib.hid (HKA.out.trans s5.out.2)
          go_wp2
          go_roundw
          case rel => exact ⟨0 + 1, by go_num, by omega, HP5, HK5⟩
          case measure => simp [Go.RowKit.intOf]; omega
      · have HBND := Lib.hid (HFK.out j (by omega) mm HMM.out)
        have HBD1 := Lib.hid (show (acc ++ 123 :: commaM (ms.take j)).length + 1 ≤ 100000000000000 by have := HBND.out; omega)
        have HBND := Lib.hid (show (acc ++ 123 :: commaM (ms.take j) ++ [44]).length + (oneM mm).length ≤ 100000000000000 by have := HBND.out; simp only [List.length_append, List.length_cons, List.length_nil] at this ⊢; omega)
        have HEQ := Lib.hid (show acc ++ 123 :: commaM (ms.take j) ++ [44] ++ oneM mm = acc ++ 123 :: commaM (ms.take (j + 1)) by rw [commaM_snoc HMM.out, if_neg hj0]; simp)
        have j2 : (0 : Int) < j := by omega
        have HB4 := Lib.hid (byte_any 44 HPA.out HBD1.out)
        go_wp2_with fail
        refine HB4.out.mono ?_
        rintro e w2 ⟨rfl, hp2, hk2⟩
        have HKA2 := Lib.hid (HKA.out.trans hk2)
        have HK2 := Lib.hid hk2
        have HKB2 := HKB
        clear HPA HKA
        have HPA := Lib.hid hp2
        have HKA := HKA2
        have HKB := Lib.hid (fun W (h : Lib.OthersKept 5 (some b) w2 W) => HKB2.out W (HK2.out.trans h))
        clear hp2 hk2
        go_wp2_with fail
        obtain ⟨r0, r1, r2⟩ := HKB.out w2 (kept_refl b w2)
        have HR := Lib.hid (And.intro r0 (And.intro r1 r2))
        have hbk : wr.heap.size < w2.heap.size := World.block_lt_of_cell? _ _ r0
        have HBK := Lib.hid hbk
        have r3 := Lib.hid (show Below w2.heap.size w2 w2.drew from (Below.refl _ _).drew)
        have r4 := Lib.hid (Below.refl w2.heap.size w2)
        have HQ2 := Lib.hid (fun (W : World) (h : Hid (Below w2.heap.size w2 W)) => (HQT.out W).mono (R' := fun e w' => e = .returned (.string qt) ∧ w'.cell? ⟨wr.heap.size, 0, none⟩ = some (.string nm) ∧ w'.cell? ⟨wr.heap.size, 1, none⟩ = some (.int .i64 op) ∧ w'.cell? ⟨wr.heap.size, 2, none⟩ = some (.string vl) ∧ Hid (Below w2.heap.size w2 w')) (fun e w' q =>
          have hb := h.out.trans (q.2.mono h.out.size)
          ⟨q.1, (hb.cell (p := ⟨wr.heap.size, 0, none⟩) HBK.out).trans HR.out.1, (hb.cell (p := ⟨wr.heap.size, 1, none⟩) HBK.out).trans HR.out.2.1, (hb.cell (p := ⟨wr.heap.size, 2, none⟩) HBK.out).trans HR.out.2.2, hb⟩))
        have HWS := Lib.hid (fun (W : World) (h : Hid (Below w2.heap.size w2 W)) => (str_any t2 (HPA.out.below h.out) (by rw [Lib.size_eq, hT2.out]; exact HBND.out)).mono (R' := fun e w' => e = .returned (.tuple #[.int .i64 t2.size, .nilIface]) ∧ w'.cell? ⟨wr.heap.size, 0, none⟩ = some (.string nm) ∧ w'.cell? ⟨wr.heap.size, 1, none⟩ = some (.int .i64 op) ∧ w'.cell? ⟨wr.heap.size, 2, none⟩ = some (.string vl) ∧ Hid (Pen W0 b (acc ++ 123 :: commaM (ms.take (j + 1))) w' ∧ Lib.OthersKept 5 (some b) w2 w')) (fun e w' q =>
          have hk := (kept_of_below (some b) h.out).trans q.2.2
          have hc := HKB.out w' hk
          ⟨q.1, hc.1, hc.2.1, hc.2.2, by have hq := q.2.1; rw [hT2.out, HEQ.out] at hq; exact hq, hk⟩))
        clear hbk
        go_region_held3 (fun w' => w'.cell? ⟨wr.heap.size, 0, none⟩ = some (.string nm) ∧ w'.cell? ⟨wr.heap.size, 1, none⟩ = some (.int .i64 op) ∧ w'.cell? ⟨wr.heap.size, 2, none⟩ = some (.string vl)) (first | exact ⟨s0, s1, s2⟩ | exact ⟨r0, r1, r2⟩) (first
          | (go_at_call 188; refine (HSG.out _).mono ?_; rintro e wq ⟨rfl, rfl⟩)
          | (go_at_call 189; go_fit (HQ2.out _ r3); rintro e wq ⟨rfl, s0, s1, s2, s3⟩)
          | (go_at_call 46; go_fit (HWS.out _ s3); rintro e w5 ⟨rfl, s0, s1, s2, s5⟩))
        all_goals
          have HP5 := Lib.hid s5.out.1
          have HK5 := Lib.hid (HKA.out.trans s5.out.2)
          go_wp2
          go_roundw
          case rel => exact ⟨j + 1, by go_num, by omega, HP5, HK5⟩
          case measure => simp [Go.RowKit.intOf]; omega
    · have j1 : ¬ (j : Int) < k := by omega
      obtain rfl : j = k := by omega
      have HPE := Lib.hid (show Pen W0 b (acc ++ 123 :: commaM ms) wr by have := HPk.out; rwa [List.take_of_length_le (by rw [HL.out]; exact Nat.le_refl _)] at this)
      have HBE := Lib.hid (byte_any 125 HPE.out HFF.out)
      go_wp2_with fail
      refine HBE.out.mono ?_
      rintro e w4 ⟨rfl, hp4, hk4⟩
      have HP4 := Lib.hid (show Pen W0 b (acc ++ 123 :: (commaM ms ++ [125])) w4 by have e : acc ++ 123 :: (commaM ms ++ [125]) = acc ++ 123 :: commaM ms ++ [125] := by simp
                                                                                    rw [e]; exact hp4)
      have HK4 := Lib.hid (HKk.out.trans hk4)
      clear hp4 hk4
      go_wp2
      first | go_end0 | ((try simp only [Exit.inBlock, Exit.then]); refine bodyPost_ret (results_none rfl _ _ _) rfl ?_)
      exact ⟨rfl, HP4.out, HK4.out⟩

set_option maxHeartbeats 8000000 in
set_option maxRecDepth 100000 in
theorem sel_own (mt : ByteArray) (n : Nat) (ms : List Mat) (hnn : n ≤ 1000000000) (hg : GoodMs ms) (hm10 : ms.length ≤ 10) : OwnC 117 (.sel mt n ms) := by
  intro W0 w P b acc a tx z m o1 k1 c1 o2 k2 c2 o3 k3 c3 hn hp hf
  obtain ⟨⟨-, etx, ez, -⟩, ⟨-, e2, -⟩, -, hs2, -⟩ := hn.view
  simp only [textE] at etx
  simp only [nE] at ez
  simp only [matsE] at e2 hs2
  have etx := etx.symm
  subst etx
  have ez := ez.symm
  subst ez
  have hL : nodeL (.sel mt n ms) = mt.data.toList ++ ((if mt.size = 0 ∨ ms ≠ [] then 123 :: (commaM ms ++ [125]) else []) ++ (if 0 < n then 91 :: (decDigits n ++ [115, 93]) else [])) := rfl
  rw [hL] at hf ⊢
  obtain ⟨MB, hMB⟩ : ∃ v, (if mt.size = 0 ∨ ms ≠ [] then 123 :: (commaM ms ++ [125]) else []) = v := ⟨_, rfl⟩
  obtain ⟨WB, hWB⟩ : ∃ v, (if 0 < n then 91 :: (decDigits n ++ [115, 93]) else []) = v := ⟨_, rfl⟩
  rw [hMB, hWB] at hf ⊢
  simp only [List.length_append] at hf
  have HE := Lib.hid (show acc ++ mt.data.toList ++ MB ++ WB = acc ++ (mt.data.toList ++ (MB ++ WB)) by simp)
  have HF1 := Lib.hid (show acc.length + mt.data.toList.length ≤ 100000000000000 by omega)
  have HF2 := Lib.hid (show (acc ++ mt.data.toList).length + MB.length ≤ 100000000000000 by simp only [List.length_append]; omega)
  have HF3 := Lib.hid (show (acc ++ mt.data.toList ++ MB).length + WB.length ≤ 100000000000000 by simp only [List.length_append]; omega)
  have HMC := Lib.hid (fun W A (hp : Pen W0 b A W) hf => wmats_any ms hg W0 W P b A o2 k2 c2 e2 (by omega) hs2 hp hf)
  have HP := Lib.hid (hp.alloc (Obj.cells #[.string a, .string mt, .int .i64 (n : Nat), .int .i64 m, .slice o1 k1 c1, .slice o2 k2 c2, .slice o3 k3 c3] 150))
  have HK := Lib.hid ((kept_refl b w).alloc (Obj.cells #[.string a, .string mt, .int .i64 (n : Nat), .int .i64 m, .slice o1 k1 c1, .slice o2 k2 c2, .slice o3 k3 c3] 150))
  have hne : w.heap.size ≠ b := Nat.ne_of_gt hp.lt
  have hbx := (show (w.alloc (Obj.cells #[.string a, .string mt, .int .i64 (n : Nat), .int .i64 m, .slice o1 k1 c1, .slice o2 k2 c2, .slice o3 k3 c3] 150)).heap[w.heap.size]? = some (.cells #[.string a, .string mt, .int .i64 (n : Nat), .int .i64 m, .slice o1 k1 c1, .slice o2 k2 c2, .slice o3 k3 c3] 150 (0, 0)) from Array.getElem?_push_size)
  have HBX := Lib.hid (fun W (h : Lib.OthersKept 5 (some b) (w.alloc (Obj.cells #[.string a, .string mt, .int .i64 (n : Nat), .int .i64 m, .slice o1 k1 c1, .slice o2 k2 c2, .slice o3 k3 c3] 150)) W) => cells7 (box_kept h hbx (by decide) hne))
  have HIT := Lib.hid (fun W A (hp : Pen W0 b A W) => itoaP n (by omega) hp)
  have hdl : (⟨(decDigits n).toArray⟩ : ByteArray).size ≤ 20 := by rw [size_arr]; have := dec_len n 13 (by omega) (by decide); omega
  obtain ⟨DN, hDN⟩ : ∃ J : ByteArray, (⟨(Lib.decDigits n).toArray⟩ : ByteArray) = J := ⟨_, rfl⟩
  have HDL := Lib.hid (show DN.data.toList = decDigits n by rw [← hDN])
  rw [hDN] at HIT hdl
  have hkk : ms.length = k2 := e2
  have hcs : (mt = ⟨#[]⟩ ∧ 123 :: (commaM ms ++ [125]) = MB) ∨ (mt ≠ ⟨#[]⟩ ∧ 0 < k2 ∧ 123 :: (commaM ms ++ [125]) = MB) ∨ (mt ≠ ⟨#[]⟩ ∧ k2 = 0 ∧ [] = MB) := by
    by_cases h0 : mt.size = 0
    · rw [if_pos (.inl h0)] at hMB
      exact .inl ⟨by have := size_zero.1 h0; cases mt with | mk d => cases d with | mk l => simp at this; rw [this], hMB⟩
    · have h1 : mt ≠ ⟨#[]⟩ := fun e => h0 (by rw [e]; rfl)
      by_cases h2 : ms = []
      · rw [if_neg (by rintro (h | h); exact h0 h; exact h h2)] at hMB
        exact .inr (.inr ⟨h1, by rw [← hkk, h2]; rfl, hMB⟩)
      · rw [if_pos (.inr h2)] at hMB
        exact .inr (.inl ⟨h1, by rw [← hkk]; exact List.length_pos_iff.2 h2, hMB⟩)
  have HCS := Lib.hid hcs
  have hws : (0 < n ∧ 91 :: (decDigits n ++ [115, 93]) = WB) ∨ (n = 0 ∧ [] = WB) := by
    by_cases h0 : 0 < n
    · rw [if_pos h0] at hWB; exact .inl ⟨h0, hWB⟩
    · rw [if_neg h0] at hWB; exact .inr ⟨by omega, hWB⟩
  have HWS := Lib.hid hws
  clear hn hp hf hL hbx hne hs2 e2 hnn hDN hMB hWB hkk hcs hws hg hm10
  have hcs := HCS.out
  rcases hcs with ⟨rfl, hMB⟩ | ⟨hme, hk0, hMB⟩ | ⟨hme, hk0, hMB⟩
  · subst hMB
    go_enter Tryz.func117, Tryz.ntmps117
    have HS1 := Lib.hid (fun S hS => strL_any S (⟨#[]⟩ : ByteArray).data.toList hS HP.out HF1.out)
    go_wp2_with fail
    refine (HS1.out ⟨#[]⟩ rfl).mono ?_
    rintro e w1 ⟨⟨nn, rfl⟩, hp1, hk1⟩
    have HP1 := Lib.hid hp1
    have HK1 := Lib.hid hk1
    obtain ⟨q0, q1, q2, q3, q4, q5, q6⟩ := HBX.out _ hk1
    clear hp1 hk1
    have HMC1 := Lib.hid (HMC.out w1 _ HP1.out HF2.out)
    go_wp2_with fail
    refine HMC1.out.mono ?_
    rintro e w2 ⟨rfl, hp2, hk2⟩
    have HP2 := Lib.hid hp2
    have HK2 := Lib.hid (HK1.out.trans hk2)
    clear hp2 hk2 q0 q1 q2 q3 q4 q5 q6
    obtain ⟨q0, q1, q2, q3, q4, q5, q6⟩ := HBX.out _ HK2.out
    have hws := HWS.out
    rcases hws with ⟨hn0, hWB⟩ | ⟨rfl, hWB⟩
    · subst hWB
      have i0 : (0 : Int) < (n : Nat) := by omega
      go_wp2_with fail
      refine (HIT.out w2 _ HP2.out).mono ?_
      rintro e w3 ⟨rfl, hp3, hk3⟩
      have HK3 := Lib.hid (HK2.out.trans hk3)
      have HS4 := Lib.hid (fun S hS => strL_any S (91 :: (decDigits n ++ [115, 93])) hS hp3 HF3.out)
      clear hp3 hk3 q0 q1 q2 q3 q4 q5 q6
      go_wp2_with fail
      refine (HS4.out _ (by simp only [ByteArray.data_append, Array.toList_append, HDL.out]; simp)).mono ?_
      rintro e w4 ⟨⟨nn, rfl⟩, hp4, hk4⟩
      rw [HE.out] at hp4
      have HP4 := Lib.hid hp4
      have HK4 := Lib.hid (HK3.out.trans hk4)
      clear hp4 hk4
      go_wp2
      first | go_end0 | ((try simp only [Exit.inBlock, Exit.then]); refine bodyPost_ret (results_none rfl _ _ _) rfl ?_)
      exact ⟨rfl, HP4.out, HK.out.trans HK4.out⟩
    · subst hWB
      have he4 := HE.out
      rw [List.append_nil] at he4
      have hp4 := HP2.out
      rw [he4] at hp4
      have HP4 := Lib.hid hp4
      clear he4 hp4
      go_wp2
      first | go_end0 | ((try simp only [Exit.inBlock, Exit.then]); refine bodyPost_ret (results_none rfl _ _ _) rfl ?_)
      exact ⟨rfl, HP4.out, HK.out.trans HK2.out⟩
  · subst hMB
    have f1 : ¬ mt.toList = [] := by
      rw [ByteArray.toList_eq]; intro e; exact hme (by cases mt with | mk d => cases d with | mk l => simp at e; rw [e])
    have f2 : mt.toList.isEmpty = false := by simpa using f1
    have f3 : (mt.toList == []) = false := by simp [f1]
    have i1 : (0 : Int) < k2 := by omega
    clear hme
    go_enter Tryz.func117, Tryz.ntmps117
    have HS1 := Lib.hid (fun S hS => strL_any S mt.data.toList hS HP.out HF1.out)
    go_wp2_with fail
    refine (HS1.out mt rfl).mono ?_
    rintro e w1 ⟨⟨nn, rfl⟩, hp1, hk1⟩
    have HP1 := Lib.hid hp1
    have HK1 := Lib.hid hk1
    obtain ⟨q0, q1, q2, q3, q4, q5, q6⟩ := HBX.out _ hk1
    clear hp1 hk1
    have HMC1 := Lib.hid (HMC.out w1 _ HP1.out HF2.out)
    go_wp2_with fail
    refine HMC1.out.mono ?_
    rintro e w2 ⟨rfl, hp2, hk2⟩
    have HP2 := Lib.hid hp2
    have HK2 := Lib.hid (HK1.out.trans hk2)
    clear hp2 hk2 q0 q1 q2 q3 q4 q5 q6
    obtain ⟨q0, q1, q2, q3, q4, q5, q6⟩ := HBX.out _ HK2.out
    have hws := HWS.out
    rcases hws with ⟨hn0, hWB⟩ | ⟨rfl, hWB⟩
    · subst hWB
      have i0 : (0 : Int) < (n : Nat) := by omega
      go_wp2_with fail
      refine (HIT.out w2 _ HP2.out).mono ?_
      rintro e w3 ⟨rfl, hp3, hk3⟩
      have HK3 := Lib.hid (HK2.out.trans hk3)
      have HS4 := Lib.hid (fun S hS => strL_any S (91 :: (decDigits n ++ [115, 93])) hS hp3 HF3.out)
      clear hp3 hk3 q0 q1 q2 q3 q4 q5 q6
      go_wp2_with fail
      refine (HS4.out _ (by simp only [ByteArray.data_append, Array.toList_append, HDL.out]; simp)).mono ?_
      rintro e w4 ⟨⟨nn, rfl⟩, hp4, hk4⟩
      rw [HE.out] at hp4
      have HP4 := Lib.hid hp4
      have HK4 := Lib.hid (HK3.out.trans hk4)
      clear hp4 hk4
      go_wp2
      first | go_end0 | ((try simp only [Exit.inBlock, Exit.then]); refine bodyPost_ret (results_none rfl _ _ _) rfl ?_)
      exact ⟨rfl, HP4.out, HK.out.trans HK4.out⟩
    · subst hWB
      have he4 := HE.out
      rw [List.append_nil] at he4
      have hp4 := HP2.out
      rw [he4] at hp4
      have HP4 := Lib.hid hp4
      clear he4 hp4
      go_wp2
      first | go_end0 | ((try simp only [Exit.inBlock, Exit.then]); refine bodyPost_ret (results_none rfl _ _ _) rfl ?_)
      exact ⟨rfl, HP4.out, HK.out.trans HK2.out⟩
  · subst hMB
    subst hk0
    have f1 : ¬ mt.toList = [] := by
      rw [ByteArray.toList_eq]; intro e; exact hme (by cases mt with | mk d => cases d with | mk l => simp at e; rw [e])
    have f2 : mt.toList.isEmpty = false := by simpa using f1
    have f3 : (mt.toList == []) = false := by simp [f1]
    clear hme
    go_enter Tryz.func117, Tryz.ntmps117
    have HS1 := Lib.hid (fun S hS => strL_any S mt.data.toList hS HP.out HF1.out)
    go_wp2_with fail
    refine (HS1.out mt rfl).mono ?_
    rintro e w1 ⟨⟨nn, rfl⟩, hp1, hk1⟩
    have HP1 := Lib.hid hp1
    have HK1 := Lib.hid hk1
    obtain ⟨q0, q1, q2, q3, q4, q5, q6⟩ := HBX.out _ hk1
    clear hp1 hk1
    have HP2 := Lib.hid (show Pen W0 b (acc ++ mt.data.toList ++ []) w1 by rw [List.append_nil]; exact HP1.out)
    have HK2 := HK1
    have hws := HWS.out
    rcases hws with ⟨hn0, hWB⟩ | ⟨rfl, hWB⟩
    · subst hWB
      have i0 : (0 : Int) < (n : Nat) := by omega
      go_wp2_with fail
      refine (HIT.out w1 _ HP2.out).mono ?_
      rintro e w3 ⟨rfl, hp3, hk3⟩
      have HK3 := Lib.hid (HK2.out.trans hk3)
      have HS4 := Lib.hid (fun S hS => strL_any S (91 :: (decDigits n ++ [115, 93])) hS hp3 HF3.out)
      clear hp3 hk3 q0 q1 q2 q3 q4 q5 q6
      go_wp2_with fail
      refine (HS4.out _ (by simp only [ByteArray.data_append, Array.toList_append, HDL.out]; simp)).mono ?_
      rintro e w4 ⟨⟨nn, rfl⟩, hp4, hk4⟩
      rw [HE.out] at hp4
      have HP4 := Lib.hid hp4
      have HK4 := Lib.hid (HK3.out.trans hk4)
      clear hp4 hk4
      go_wp2
      first | go_end0 | ((try simp only [Exit.inBlock, Exit.then]); refine bodyPost_ret (results_none rfl _ _ _) rfl ?_)
      exact ⟨rfl, HP4.out, HK.out.trans HK4.out⟩
    · subst hWB
      have he4 := HE.out
      rw [List.append_nil] at he4
      have hp4 := HP2.out
      rw [he4] at hp4
      have HP4 := Lib.hid hp4
      clear he4 hp4
      go_wp2
      first | go_end0 | ((try simp only [Exit.inBlock, Exit.then]); refine bodyPost_ret (results_none rfl _ _ _) rfl ?_)
      exact ⟨rfl, HP4.out, HK.out.trans HK2.out⟩
end Go.Proofs.YtddglepimbfdkaaGreatDoor.Par
