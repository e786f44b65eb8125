/- The walk of the statement that tells all: the walk. -/
import Derived.Test.YtjeenanoboaaeaaGreatDoorBn
namespace Go.Proofs.YtjeenanoboaaeaaGreatDoor
open Go.RowKit

theorem count_spelt (s : ByteArray) (n : Nat) (hn : (spell s.data.toList).length = n) (hs : s.size ≤ maxLen) (w : World) : Calls Tryz.prog 13 #[.string s] w fun e w' => e = .returned (.int .i64 n) ∧ Below w.heap.size w w' := by
  have h : countOf s.data.toList = n := by rw [← hn]; simp [countOf, spell]
  rw [← h]; exact count_any s w hs
theorem heap_at_alloc (w : World) (o : Obj) : (w.alloc o).heap[w.heap.size]? = some o := by
  show (w.heap.push o)[w.heap.size]? = some o
  exact Array.getElem?_push_size
theorem booked_start (B : Nat) (w : World) (hB : B ≤ w.heap.size) : Booked B w.heap.size (w.alloc (.cells #[.slice none 0 0, .slice none 0 0, .slice none 0 0, .slice none 0 0, .slice none 0 0, .slice none 0 0, .slice none 0 0, .slice none 0 0, .slice none 0 0, .slice none 0 0, .slice none 0 0, .slice none 0 0, .slice none 0 0, .slice none 0 0, .slice none 0 0, .slice none 0 0, .slice none 0 0, .slice none 0 0, .slice none 0 0, .slice none 0 0] 39)) [] [] := by
  have hK : ∀ W : World, Kept B W (.slice none 0 0) [] := fun W => ⟨World.ownsRow_nil _ _ _ _, fun i v xs h => by simp at h, fun i j p q _ h => by simp at h, by simp⟩
  have hrep : (#[.slice none 0 0, .slice none 0 0, .slice none 0 0, .slice none 0 0, .slice none 0 0, .slice none 0 0, .slice none 0 0, .slice none 0 0, .slice none 0 0, .slice none 0 0, .slice none 0 0, .slice none 0 0, .slice none 0 0, .slice none 0 0, .slice none 0 0, .slice none 0 0, .slice none 0 0, .slice none 0 0, .slice none 0 0, .slice none 0 0] : Array Value) = Array.replicate 20 (.slice none 0 0) := rfl
  rw [hrep]
  have hat : ∀ i, i < 20 → (Array.replicate 20 (Value.slice none 0 0))[i]? = some (.slice none 0 0) := fun i hi => by rw [Array.getElem?_replicate, if_pos hi]
  exact ⟨⟨_, .slice none 0 0, .slice none 0 0, heap_at_alloc _ _, Array.size_replicate, hat 4 (by decide), hat 5 (by decide), fun i hi _ _ => hat i hi, hK _, hK _, .inl rfl⟩, rfl⟩
theorem Booked.below {B bk : Nat} {w w' : World} {L L' : List (Value × List Int)} (h : Booked B bk w L L') (hb : Below w.heap.size w w') : Booked B bk w' L L' := by
  obtain ⟨⟨cs, R, R', hbk, hcs, h4, h5, hno, hK, hK', hne⟩, hs⟩ := h
  exact ⟨⟨cs, R, R', (hb.block bk (Array.getElem?_eq_some_iff.1 hbk).1).trans hbk, hcs, h4, h5, hno, hK.below hb, hK'.below hb, hne⟩, hs⟩
theorem spell_len_le (s : ByteArray) : (spell s.data.toList).length ≤ s.size := by
  rw [spell_length, Lib.size_eq]
  exact sufs_len _
/-- What stands between two calls: the book, one list that was answered, the document's own, and what lay below. -/
structure Ready (B bk : Nat) (w0 w : World) (x l : Value) (xs : List Int) : Prop where
  book : ∃ L L', Booked B bk w L L'
  one : w.ownsRow B 21 1 x xs.length (xs.map (Value.int .i32))
  ref : w.ownsRow B 21 1 l xs.length (xs.map (Value.int .i32))
  low : Below B w0 w
theorem Ready.below {B bk : Nat} {w0 w w' : World} {x l : Value} {xs : List Int} (h : Ready B bk w0 w x l xs) (hb : Below w.heap.size w w') (hB : B ≤ w.heap.size) : Ready B bk w0 w' x l xs := by
  obtain ⟨⟨L, L', hk⟩, h1, h2, h3⟩ := h
  exact ⟨⟨L, L', hk.below hb⟩, own_grown h1 hb, own_grown h2 hb, h3.trans (hb.mono hB)⟩
theorem touch_below {B : Nat} {w0 w w' : World} {V : List Value} (h : Below B w0 w) (ht : Touch V w w') (hV : ∀ v ∈ V, v.ownBlock = none ∨ ∃ b, v.ownBlock = some b ∧ B ≤ b) (hB : B ≤ w0.heap.size) : Below B w0 w' :=
  ⟨ht.os.trans h.os, ht.tape.trans h.tape, ht.output.trans h.output, Nat.le_trans h.size ht.size, fun k hk => by
    rw [ht.block k (by have := h.size; omega) ?_]
    · exact h.block k hk
    · intro v hv
      rcases hV v hv with e | ⟨b, e, hb⟩
      · rw [e]; exact fun e => by cases e
      · rw [e]; intro e2; have := Option.some.inj e2; omega⟩
theorem apart_ready {B bk : Nat} {w0 w : World} {x l : Value} {xs : List Int} (h : Ready B bk w0 w x l xs) (hB : B ≤ w0.heap.size) :
    Calls Tryz.prog 15 #[.pointer (some ⟨bk, 0, none⟩)] w fun e w' => e = .returned (.bool true) ∧ Below B w0 w' := by
  obtain ⟨⟨L, L', ⟨cs, R, R', hbk, hcs, h4, h5, hno, hK, hK', hne⟩, hs⟩, h1, h2, h3⟩ := h
  refine (apart_any B bk cs R R' L L' hs w (by have := h3.size; omega) hK hK' hbk h4 h5 hno).mono ?_
  rintro e w' ⟨rfl, V, hV, ht⟩
  exact ⟨rfl, touch_below h3 ht hV hB⟩

set_option maxHeartbeats 16000000 in
set_option maxRecDepth 100000 in
theorem tells_any (s : ByteArray) (n r : Int) (ev : Value) (w : World) (h0 : 0 < w.heap.size) (hG : w.cell? ⟨0, 0, none⟩ = some ev) (hev : ev = .nilIface ∨ ∃ te pe, ev = .iface te pe) :
    Calls Tryz.prog 3 #[.string s, .int .i64 n, .int .i32 r] w fun e w' => e = .returned (.bool true) ∧ Below w.heap.size w w' := by
  have cA := Lib.hid (fun W (h : 0 < W.heap.size) (h2 : W.cell? ⟨0, 0, none⟩ = some ev) => alive_any ev W h h2 hev)
  clear hev
  by_cases hbig : 2000 < s.size
  · have i1 : (2000 : Int) < s.size := by omega
    have t1 : decide ((2000 : Int) < s.size) = true := by simpa using i1
    go_enter Tryz.func3, Tryz.ntmps3
    go_wp2_with fail
    refine (cA.out _ h0 hG).mono ?_
    rintro e w1 ⟨rfl, b1⟩
    go_wp2
    go_ret
    exact ⟨rfl, b1⟩
  · have i1 : (s.size : Int) ≤ 2000 := by omega
    have t1 : decide ((2000 : Int) < s.size) = false := by simp; omega
    go_enter Tryz.func3, Tryz.ntmps3
    go_wp2_with fail
    refine (cA.out _ h0 hG).mono ?_
    rintro e w1 ⟨rfl, b1⟩
    go_wp2_with fail
    refine (rspell_any s _ (by omega)).mono ?_
    rintro e w2 ⟨⟨l, rfl, hl⟩, b2⟩
    obtain ⟨xs, hxs⟩ : ∃ xs, xs = spell s.data.toList := ⟨_, rfl⟩
    rw [← hxs] at hl
    obtain ⟨ol, cl, rfl⟩ := spelt_form hl
    obtain ⟨nl, hnl⟩ : ∃ nl, xs.length = nl := ⟨_, rfl⟩
    have HL := Lib.hid hl
    have HXS := Lib.hid hxs
    have HNL := Lib.hid hnl
    rw [hnl]
    clear hl hxs hnl
    go_wp2_with fail
    refine (cut_any s n _ (by omega)).mono ?_
    rintro e w3 ⟨rfl, b3⟩
    unfold cutRes
    obtain ⟨cc, hcc⟩ : ∃ cc, cc = cutL n.toNat s.data.toList := ⟨_, rfl⟩
    have HCC := Lib.hid hcc
    rw [← hcc]
    clear hcc
    have hb03 : Below w.heap.size w w3 := b1.trans ((b2.mono b1.size).trans (b3.mono (Nat.le_trans b1.size b2.size)))
    have HL3 := Lib.hid (own_mono (own_grown HL.out b3) (show w.heap.size ≤ w1.heap.size + 1 by have := b1.size; omega))
    have HB3 := Lib.hid hb03
    have hz3 := hb03.size
    have hcle : cc ≤ s.size := by have := cutL_le n.toNat s.data.toList; rw [HCC.out, Lib.size_eq]; exact this
    have hnm : nl ≤ maxLen := by
      rcases own_open HL.out with ⟨_, h9, _⟩ | ⟨_, _, _, _, _, h9, h8, _⟩
      · rw [← HNL.out, h9]; exact Nat.zero_le _
      · rw [← HNL.out]; omega
    unfold maxLen at hnm
    clear b1 b2 b3 hb03 HL
    go_wp2
    go_loopw [10, 11] (fun vk va wr => ∃ (kk pos : Nat), vk = .int .i64 kk ∧ kk ≤ nl ∧ va = .int .i64 pos ∧ pos ≤ s.size ∧ wr.heap[w3.heap.size]? = some (.stringIter s pos) ∧ Hid (Below w3.heap.size w3 wr) ∧ Hid (pos + cutL kk (s.data.toList.drop pos) = cc)) (fun _ _ wr => s.size - wr.iterPos w3.heap.size)
    case atStart =>
      refine ⟨min n.toNat nl, 0, ?_, by omega, rfl, Nat.zero_le _, World.iter_heap w3 s 0, (Below.refl _ _).alloc (Nat.le_refl _) _, ?_⟩
      · congr 1; omega
      · show _ = _
        rw [List.drop_zero, ← HNL.out, HXS.out, spell_length, Nat.zero_add, cutL_min _ _ _ (Nat.le_refl _)]; exact HCC.out.symm
    case round =>
      obtain ⟨kk, pos, rfl, hkl, rfl, hps, hit, HB, HC⟩ := hrel
      have hpos0 := iterPos_of hit
      by_cases hgo : pos < s.size ∧ kk ≠ 0
      · obtain ⟨hp, hk0⟩ := hgo
        have hnx : ∀ ty, (Instr.next (.pointer (some ⟨w3.heap.size, 0, none⟩)) true ty).run Tryz.prog wr = _ := fun ty => Lib.run_next_any_at wr w3.heap.size s pos ty hit hp
        have hwd := width1 s pos
        have hwl := width_le hp
        obtain ⟨kk, rfl⟩ : ∃ k, kk = k + 1 := ⟨kk - 1, by omega⟩
        have H2 : Hid (pos + (Utf8.decode s pos).2 + cutL kk (s.data.toList.drop (pos + (Utf8.decode s pos).2)) = cc) := by
          show _ = _
          rw [← HC.out, cutL, if_neg (drop_ne hp), Lib.decodeL_drop, List.drop_drop]; omega
        have hit2 := Lib.iterAt_heap wr w3.heap.size s pos (pos + (Utf8.decode s pos).2) hit
        have hbw2 := Lib.below_iterAt HB.out (k := w3.heap.size) (Nat.le_refl _) s (pos + (Utf8.decode s pos).2)
        obtain ⟨W1, hW1⟩ : ∃ W1, W1 = wr.iterAt w3.heap.size s (pos + (Utf8.decode s pos).2) := ⟨_, rfl⟩
        rw [← hW1] at hnx hit2 hbw2
        have hz1 : w3.heap.size < W1.heap.size := (Array.getElem?_eq_some_iff.1 hit2).1
        have hqs : (s.extract pos s.size).size = s.size - pos := by rw [ByteArray.size_extract]; omega
        have hqd : Utf8.decode (s.extract pos s.size) 0 = Utf8.decode s pos := by
          have e1 := Lib.decodeL_drop (s.extract pos s.size) 0
          rw [List.drop_zero, Lib.extract_data] at e1
          have e2 : (s.data.toList.drop pos).take (s.size - pos) = s.data.toList.drop pos := List.take_of_length_le (by rw [List.length_drop, ← Lib.size_eq]; exact Nat.le_refl _)
          rw [e2, Lib.decodeL_drop] at e1
          exact e1.symm
        have HQS := Lib.hid hqs
        have HQD := Lib.hid hqd
        clear hqs hqd hW1 hit HB HC
        obtain ⟨wd, hw⟩ : ∃ wd, wd = (Utf8.decode s pos).2 := ⟨_, rfl⟩
        rw [← hw] at hwd hwl hit2 H2
        have HW := Lib.hid hw
        clear hw
        have hbw2 := Lib.hid hbw2
        go_wp2
        go_loopw [11, 13] (fun va vj wr2 => ∃ p2 : Nat, wr2.heap[W1.heap.size]? = some (.stringIter (s.extract pos s.size) p2) ∧ Hid (Below W1.heap.size W1 wr2) ∧ va = .int .i64 s.size ∧ (p2 = 0 ∨ p2 = wd)) (fun _ _ wr2 => s.size - wr2.iterPos W1.heap.size)
        case atStart => exact ⟨0, World.iter_heap W1 _ 0, (Below.refl _ _).alloc (Nat.le_refl _) _, rfl, .inl rfl⟩
        case round =>
          obtain ⟨p2, hi2, hb2, rfl, hp2⟩ := hrel
          rcases hp2 with rfl | hp2
          · have hq0 : 0 < (s.extract pos s.size).size := by rw [HQS.out]; omega
            have hnx2 : ∀ ty, (Instr.next (.pointer (some ⟨W1.heap.size, 0, none⟩)) true ty).run Tryz.prog wr = _ := fun ty => Lib.run_next_any_at wr W1.heap.size _ 0 ty hi2 hq0
            rw [HQD.out, Nat.zero_add, ← HW.out] at hnx2
            have hi3 := Lib.iterAt_heap wr W1.heap.size _ 0 wd hi2
            have hb3 := Lib.below_iterAt hb2.out (k := W1.heap.size) (Nat.le_refl _) (s.extract pos s.size) wd
            have hp20 := iterPos_of hi2
            go_wp2
            go_roundw
            case rel => exact ⟨wd, hi3, hb3, rfl, .inr rfl⟩
            case measure => rw [iterPos_of hi3, hp20]; omega
          · rw [hp2] at hi2
            clear hp2 p2
            have hitW : wr.heap[w3.heap.size]? = some (.stringIter s (pos + wd)) := (hb2.out.block _ hz1).trans hit2
            have hbW : Below w3.heap.size w3 wr := hbw2.out.trans (hb2.out.mono (by omega))
            by_cases hm : wd < (s.extract pos s.size).size
            · have hnx2 : ∀ ty, (Instr.next (.pointer (some ⟨W1.heap.size, 0, none⟩)) true ty).run Tryz.prog wr = _ := fun ty => Lib.run_next_any_at wr W1.heap.size _ wd ty hi2 hm
              have hitF : (wr.iterAt W1.heap.size (s.extract pos s.size) (wd + (Utf8.decode (s.extract pos s.size) wd).2)).heap[w3.heap.size]? = some (.stringIter s (pos + wd)) := (Lib.iterAt_other _ _ _ _ _ (by omega)).trans hitW
              have hbF := Lib.below_iterAt hbW (k := W1.heap.size) (by omega) (s.extract pos s.size) (wd + (Utf8.decode (s.extract pos s.size) wd).2)
              have HBF := Lib.hid hbF
              have iw : (0 : Int) < wd := by omega
              clear hi2 hb2 hit2 hbw2 hitW hbW hbF
              go_wp2
              go_roundw
              case rel => exact ⟨kk, pos + wd, by go_num, by omega, by go_num, hwl, hitF, HBF, H2⟩
              case measure => rw [iterPos_of hitF, hpos0]; omega
            · have hnx2 : ∀ ty, (Instr.next (.pointer (some ⟨W1.heap.size, 0, none⟩)) true ty).run Tryz.prog wr = _ := fun ty => Lib.run_next_end_at wr W1.heap.size _ wd ty hi2 hm
              have hsz : s.size = pos + wd := by rw [HQS.out] at hm; omega
              have HSZ := Lib.hid hsz
              have HBF := Lib.hid hbW
              clear hi2 hb2 hit2 hbw2 hbW hsz
              go_wp2
              go_roundw
              case rel => exact ⟨kk, pos + wd, by go_num, by omega, (by have := HSZ.out; congr 1; omega), hwl, hitW, HBF, H2⟩
              case measure => (try rw [iterPos_of hitW, hpos0]); omega
      · have hpc : pos = cc := by
          have := HC.out
          by_cases hp : pos < s.size
          · have hk0 : kk = 0 := by omega
            rw [hk0] at this; simpa [cutL] using this
          · rw [drop_end hp, cutL_nil] at this; simpa using this
        have hD : (∃ (WF : World) (r2 : Value), (∀ ty, (Instr.next (.pointer (some ⟨w3.heap.size, 0, none⟩)) true ty).run Tryz.prog wr = .ok (.tuple #[.bool true, .int .i64 (pos : Int), r2]) WF) ∧ Below w3.heap.size w3 WF ∧ kk = 0) ∨
            (∀ ty, (Instr.next (.pointer (some ⟨w3.heap.size, 0, none⟩)) true ty).run Tryz.prog wr = .ok (.tuple #[.bool false]) wr) := by
          by_cases hp : pos < s.size
          · exact .inl ⟨_, _, fun ty => Lib.run_next_any_at wr w3.heap.size s pos ty hit hp, Lib.below_iterAt HB.out (k := w3.heap.size) (Nat.le_refl _) s _, by omega⟩
          · exact .inr fun ty => Lib.run_next_end_at wr w3.heap.size s pos ty hit hp
        have HBW := HB
        subst hpc
        clear hgo HC hit hps hpos0
        rcases hD with ⟨WF, r2, hnx, hbF, rfl⟩ | hnx
        · clear HBW
          have HBW := Lib.hid hbF
          clear hbF
          go_wp2_with fail
          have hzF := HBW.out.size
          have HK0 := Lib.hid (booked_start w.heap.size WF (by omega))
          refine (spell_any s _ (by omega)).mono ?_
          rintro e w4 ⟨⟨x, rfl, hx⟩, b4⟩
          rw [← HXS.out] at hx
          obtain ⟨ox, cx, rfl⟩ := spelt_form hx
          have HX4 := Lib.hid hx
          have HB4 := Lib.hid b4
          rw [HNL.out]
          clear hx b4
          go_wp2_with fail
          refine (spell_any s _ (by omega)).mono ?_
          rintro e w5 ⟨⟨y, rfl, hy⟩, b5⟩
          rw [← HXS.out] at hy
          obtain ⟨oy, cy, rfl⟩ := spelt_form hy
          have z4 := HB4.out.size
          have z5 := b5.size
          simp only [World.size_alloc] at z4
          have HX5 := Lib.hid (show w5.ownsRow w.heap.size 21 1 (.slice ox nl cx) xs.length (xs.map (Value.int .i32)) by
            rw [← HNL.out]; exact own_mono (own_grown HX4.out b5) (by simp only [World.size_alloc]; omega))
          have HY5 := Lib.hid (show w5.ownsRow w.heap.size 21 1 (.slice oy nl cy) xs.length (xs.map (Value.int .i32)) by
            rw [← HNL.out]; exact own_mono hy (by omega))
          have HL5 := Lib.hid (show w5.ownsRow w.heap.size 21 1 (.slice ol nl cl) xs.length (xs.map (Value.int .i32)) by
            rw [← HNL.out]
            have q0 := own_grown HL3.out HBW.out
            have q1 := q0.alloc (.cells #[.slice none 0 0, .slice none 0 0, .slice none 0 0, .slice none 0 0, .slice none 0 0, .slice none 0 0, .slice none 0 0, .slice none 0 0, .slice none 0 0, .slice none 0 0, .slice none 0 0, .slice none 0 0, .slice none 0 0, .slice none 0 0, .slice none 0 0, .slice none 0 0, .slice none 0 0, .slice none 0 0, .slice none 0 0, .slice none 0 0] 39)
            exact own_grown (own_grown q1 HB4.out) b5)
          have HNEW := Lib.hid (show (∀ bx, (Value.slice ox nl cx).ownBlock = some bx → (Value.slice oy nl cy).ownBlock ≠ some bx) by
            intro bx e1 e2
            have q1 := (HX4.out.lt bx (by rw [HNL.out]; exact e1)).2
            have q2 := (hy.lt bx (by rw [HNL.out]; exact e2)).1
            omega)
          have HK5 := Lib.hid ((HK0.out.below HB4.out).below b5)
          have HB5 := Lib.hid (show Below w.heap.size w w5 from (((HB3.out.trans (HBW.out.mono hz3)).alloc (by omega) _).trans (HB4.out.mono (by simp only [World.size_alloc]; omega))).trans (b5.mono (by omega)))
          have HXL := Lib.hid (show xs.length ≤ 100000 by
            have := spell_len_le s
            rw [HXS.out]; omega)
          rw [HNL.out]
          clear hy b5 HX4 HB4 HK0 HL3 HBW HB3 HB
          go_wp2_with fail
          refine (keep_any w.heap.size WF.heap.size [] [] (.slice ox nl cx) xs w5 (by omega) (by omega) HK5.out HX5.out HXL.out (by simp) (fun i p hp => by simp at hp)).mono ?_
          rintro e w6 ⟨rfl, ⟨u, hk6⟩, b6, far6⟩
          have z6 := b6.size
          have HX6 := Lib.hid (far6 _ _ _ HX5.out)
          have HY6 := Lib.hid (far6 _ _ _ HY5.out)
          have HL6 := Lib.hid (far6 _ _ _ HL5.out)
          have HK6 := Lib.hid hk6
          have HB6 := Lib.hid (HB5.out.trans b6)
          clear hk6 b6 far6 HX5 HY5 HL5 HK5 HB5
          go_wp2_with fail
          refine (keep_any w.heap.size WF.heap.size [(.slice ox nl cx, xs)] [(u, xs)] (.slice oy nl cy) xs w6 (by omega) (by omega) HK6.out HY6.out HXL.out (by simp) (fun i p hp => by
            have hp2 : p = (.slice ox nl cx, xs) := by
              cases i with
              | zero => simpa using hp.symm
              | succ i => simp at hp
            subst hp2
            have h9 := HNEW.out
            cases hbx : (Value.slice ox nl cx).ownBlock with
            | none => exact ⟨.inl rfl, by
                cases hby : (Value.slice oy nl cy).ownBlock with
                | none => exact .inl rfl
                | some by_ => exact .inr (by simp [hbx])⟩
            | some bx =>
              refine ⟨.inr ?_, .inr ?_⟩
              · exact fun e => h9 bx hbx e.symm
              · exact h9 bx hbx)).mono ?_
          rintro e w7 ⟨rfl, ⟨u2, hk7⟩, b7, far7⟩
          have z7 := b7.size
          have HR7 := Lib.hid (show Ready w.heap.size WF.heap.size w w7 (.slice ox nl cx) (.slice ol nl cl) xs from ⟨⟨_, _, hk7⟩, far7 _ _ _ HX6.out, far7 _ _ _ HL6.out, HB6.out.trans b7⟩)
          clear hk7 b7 far7 HX6 HY6 HL6 HK6 HB6 HNEW
          go_wp2_with fail
          refine (kind_any r _).mono ?_
          rintro e w8 ⟨rfl, rfl⟩
          go_wp2_with fail
          refine (rkind_any r _).mono ?_
          rintro e w8 ⟨rfl, rfl⟩
          have t7 : (kindZ r == kindZ r) = true := beq_self_eq_true _
          generalize kindZ r = kr at t7
          go_wp2_with fail
          refine (name_any s _).mono ?_
          rintro e w8 ⟨rfl, b8⟩
          have z8 := b8.size
          have HR8 := Lib.hid (HR7.out.below b8 (by omega))
          clear b8 HR7
          go_wp2_with fail
          refine (rname_any s _ (by omega)).mono ?_
          rintro e w9 ⟨rfl, b9⟩
          have z9 := b9.size
          have HR9 := Lib.hid (HR8.out.below b9 (by omega))
          clear b9 HR8
          have t8 : (nameB s.data.toList == nameB s.data.toList) = true := beq_self_eq_true _
          generalize nameB s.data.toList = nb at t8
          go_wp2_with fail
          refine (count_spelt s nl (by rw [← HXS.out]; exact HNL.out) (by unfold maxLen; omega) _).mono ?_
          rintro e w10 ⟨rfl, b10⟩
          have z10 := b10.size
          have HR10 := Lib.hid (HR9.out.below b10 (by omega))
          clear b10 HR9
          have t9 : ((nl : Int) == (nl : Int)) = true := beq_self_eq_true _
          go_wp2_with fail
          refine (sameRunes_any (.slice ox nl cx) (.slice ol nl cl) w.heap.size w.heap.size xs (by have := HXL.out; omega) _ HR10.out.one HR10.out.ref).mono ?_
          rintro e w11 ⟨rfl, m, rfl⟩
          have HR11 := Lib.hid (show Ready w.heap.size WF.heap.size w (w10.drewN m) (.slice ox nl cx) (.slice ol nl cl) xs from HR10.out.below ⟨rfl, rfl, rfl, Nat.le_refl _, fun _ _ => rfl⟩ (by omega))
          clear HR10
          generalize w10.drewN m = wA at HR11
          go_wp2_with fail
          refine (apart_ready HR11.out (Nat.le_refl _)).mono ?_
          rintro e wZ ⟨rfl, bZ⟩
          go_wp2
          go_ret
          exact ⟨rfl, bZ⟩
        · go_wp2_with fail
          rename World => WF
          have hzF := HBW.out.size
          have HK0 := Lib.hid (booked_start w.heap.size WF (by omega))
          refine (spell_any s _ (by omega)).mono ?_
          rintro e w4 ⟨⟨x, rfl, hx⟩, b4⟩
          rw [← HXS.out] at hx
          obtain ⟨ox, cx, rfl⟩ := spelt_form hx
          have HX4 := Lib.hid hx
          have HB4 := Lib.hid b4
          rw [HNL.out]
          clear hx b4
          go_wp2_with fail
          refine (spell_any s _ (by omega)).mono ?_
          rintro e w5 ⟨⟨y, rfl, hy⟩, b5⟩
          rw [← HXS.out] at hy
          obtain ⟨oy, cy, rfl⟩ := spelt_form hy
          have z4 := HB4.out.size
          have z5 := b5.size
          simp only [World.size_alloc] at z4
          have HX5 := Lib.hid (show w5.ownsRow w.heap.size 21 1 (.slice ox nl cx) xs.length (xs.map (Value.int .i32)) by
            rw [← HNL.out]; exact own_mono (own_grown HX4.out b5) (by simp only [World.size_alloc]; omega))
          have HY5 := Lib.hid (show w5.ownsRow w.heap.size 21 1 (.slice oy nl cy) xs.length (xs.map (Value.int .i32)) by
            rw [← HNL.out]; exact own_mono hy (by omega))
          have HL5 := Lib.hid (show w5.ownsRow w.heap.size 21 1 (.slice ol nl cl) xs.length (xs.map (Value.int .i32)) by
            rw [← HNL.out]
            have q0 := own_grown HL3.out HBW.out
            have q1 := q0.alloc (.cells #[.slice none 0 0, .slice none 0 0, .slice none 0 0, .slice none 0 0, .slice none 0 0, .slice none 0 0, .slice none 0 0, .slice none 0 0, .slice none 0 0, .slice none 0 0, .slice none 0 0, .slice none 0 0, .slice none 0 0, .slice none 0 0, .slice none 0 0, .slice none 0 0, .slice none 0 0, .slice none 0 0, .slice none 0 0, .slice none 0 0] 39)
            exact own_grown (own_grown q1 HB4.out) b5)
          have HNEW := Lib.hid (show (∀ bx, (Value.slice ox nl cx).ownBlock = some bx → (Value.slice oy nl cy).ownBlock ≠ some bx) by
            intro bx e1 e2
            have q1 := (HX4.out.lt bx (by rw [HNL.out]; exact e1)).2
            have q2 := (hy.lt bx (by rw [HNL.out]; exact e2)).1
            omega)
          have HK5 := Lib.hid ((HK0.out.below HB4.out).below b5)
          have HB5 := Lib.hid (show Below w.heap.size w w5 from (((HB3.out.trans (HBW.out.mono hz3)).alloc (by omega) _).trans (HB4.out.mono (by simp only [World.size_alloc]; omega))).trans (b5.mono (by omega)))
          have HXL := Lib.hid (show xs.length ≤ 100000 by
            have := spell_len_le s
            rw [HXS.out]; omega)
          rw [HNL.out]
          clear hy b5 HX4 HB4 HK0 HL3 HBW HB3 HB
          go_wp2_with fail
          refine (keep_any w.heap.size WF.heap.size [] [] (.slice ox nl cx) xs w5 (by omega) (by omega) HK5.out HX5.out HXL.out (by simp) (fun i p hp => by simp at hp)).mono ?_
          rintro e w6 ⟨rfl, ⟨u, hk6⟩, b6, far6⟩
          have z6 := b6.size
          have HX6 := Lib.hid (far6 _ _ _ HX5.out)
          have HY6 := Lib.hid (far6 _ _ _ HY5.out)
          have HL6 := Lib.hid (far6 _ _ _ HL5.out)
          have HK6 := Lib.hid hk6
          have HB6 := Lib.hid (HB5.out.trans b6)
          clear hk6 b6 far6 HX5 HY5 HL5 HK5 HB5
          go_wp2_with fail
          refine (keep_any w.heap.size WF.heap.size [(.slice ox nl cx, xs)] [(u, xs)] (.slice oy nl cy) xs w6 (by omega) (by omega) HK6.out HY6.out HXL.out (by simp) (fun i p hp => by
            have hp2 : p = (.slice ox nl cx, xs) := by
              cases i with
              | zero => simpa using hp.symm
              | succ i => simp at hp
            subst hp2
            have h9 := HNEW.out
            cases hbx : (Value.slice ox nl cx).ownBlock with
            | none => exact ⟨.inl rfl, by
                cases hby : (Value.slice oy nl cy).ownBlock with
                | none => exact .inl rfl
                | some by_ => exact .inr (by simp [hbx])⟩
            | some bx =>
              refine ⟨.inr ?_, .inr ?_⟩
              · exact fun e => h9 bx hbx e.symm
              · exact h9 bx hbx)).mono ?_
          rintro e w7 ⟨rfl, ⟨u2, hk7⟩, b7, far7⟩
          have z7 := b7.size
          have HR7 := Lib.hid (show Ready w.heap.size WF.heap.size w w7 (.slice ox nl cx) (.slice ol nl cl) xs from ⟨⟨_, _, hk7⟩, far7 _ _ _ HX6.out, far7 _ _ _ HL6.out, HB6.out.trans b7⟩)
          clear hk7 b7 far7 HX6 HY6 HL6 HK6 HB6 HNEW
          go_wp2_with fail
          refine (kind_any r _).mono ?_
          rintro e w8 ⟨rfl, rfl⟩
          go_wp2_with fail
          refine (rkind_any r _).mono ?_
          rintro e w8 ⟨rfl, rfl⟩
          have t7 : (kindZ r == kindZ r) = true := beq_self_eq_true _
          generalize kindZ r = kr at t7
          go_wp2_with fail
          refine (name_any s _).mono ?_
          rintro e w8 ⟨rfl, b8⟩
          have z8 := b8.size
          have HR8 := Lib.hid (HR7.out.below b8 (by omega))
          clear b8 HR7
          go_wp2_with fail
          refine (rname_any s _ (by omega)).mono ?_
          rintro e w9 ⟨rfl, b9⟩
          have z9 := b9.size
          have HR9 := Lib.hid (HR8.out.below b9 (by omega))
          clear b9 HR8
          have t8 : (nameB s.data.toList == nameB s.data.toList) = true := beq_self_eq_true _
          generalize nameB s.data.toList = nb at t8
          go_wp2_with fail
          refine (count_spelt s nl (by rw [← HXS.out]; exact HNL.out) (by unfold maxLen; omega) _).mono ?_
          rintro e w10 ⟨rfl, b10⟩
          have z10 := b10.size
          have HR10 := Lib.hid (HR9.out.below b10 (by omega))
          clear b10 HR9
          have t9 : ((nl : Int) == (nl : Int)) = true := beq_self_eq_true _
          go_wp2_with fail
          refine (sameRunes_any (.slice ox nl cx) (.slice ol nl cl) w.heap.size w.heap.size xs (by have := HXL.out; omega) _ HR10.out.one HR10.out.ref).mono ?_
          rintro e w11 ⟨rfl, m, rfl⟩
          have HR11 := Lib.hid (show Ready w.heap.size WF.heap.size w (w10.drewN m) (.slice ox nl cx) (.slice ol nl cl) xs from HR10.out.below ⟨rfl, rfl, rfl, Nat.le_refl _, fun _ _ => rfl⟩ (by omega))
          clear HR10
          generalize w10.drewN m = wA at HR11
          go_wp2_with fail
          refine (apart_ready HR11.out (Nat.le_refl _)).mono ?_
          rintro e wZ ⟨rfl, bZ⟩
          go_wp2
          go_ret
          exact ⟨rfl, bZ⟩
end Go.Proofs.YtjeenanoboaaeaaGreatDoor
