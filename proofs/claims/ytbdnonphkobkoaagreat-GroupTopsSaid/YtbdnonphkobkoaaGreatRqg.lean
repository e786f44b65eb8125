/- A walk: the document's own way to quote a text. -/
import Derived.Test.YtbdnonphkobkoaaGreatGe
import Derived.WalkSpells
import Derived.Deep.LoopGhost
import Derived.BigQuiet
import Derived.Deep.QuietTactic
namespace Go.Proofs.YtbdnonphkobkoaaGreat
open Go.RowKit

theorem getD_at {s : ByteArray} {i : Nat} (h : i < s.size) : s.data.toList.getD i 0 = s[i] := by
  simp [List.getD, h]; rfl
theorem str_mk {b : ByteArray} {l : List UInt8} (h : b.data.toList = l) : Value.string b = .string ⟨l.toArray⟩ := by
  subst h; cases b; simp

theorem digit_ext (n : Nat) (h : n < 16) : ((⟨#[48, 49, 50, 51, 52, 53, 54, 55, 56, 57, 97, 98, 99, 100, 101, 102]⟩ : ByteArray).extract n (n + 1)).data.toList = [hexd n] := by
  have : n = 0 ∨ n = 1 ∨ n = 2 ∨ n = 3 ∨ n = 4 ∨ n = 5 ∨ n = 6 ∨ n = 7 ∨ n = 8 ∨ n = 9 ∨ n = 10 ∨ n = 11 ∨ n = 12 ∨ n = 13 ∨ n = 14 ∨ n = 15 := by omega
  rcases this with rfl | rfl | rfl | rfl | rfl | rfl | rfl | rfl | rfl | rfl | rfl | rfl | rfl | rfl | rfl | rfl <;> rfl
theorem below_drewN {B : Nat} {a w : World} (h : Below B a w) (n : Nat) : Below B a (w.drewN n) := h.trans ⟨rfl, rfl, rfl, Nat.le_refl _, fun _ _ => rfl⟩

set_option maxHeartbeats 4000000 in
set_option maxRecDepth 100000 in
theorem rquote_any (s : ByteArray) (w : World) (hs : s.size ≤ 1099511627776) :
    Calls Tryz.prog 142 #[.string s] w fun e w' => e = .returned (.string ⟨(quoteL s.data.toList).toArray⟩) ∧ Below w.heap.size w w' := by
  go_enter Tryz.func142, Tryz.ntmps142
  go_wp2
  go_loopw [3] (fun vo wr => ∃ (pos : Nat) (acc : List UInt8), wr.heap[w.heap.size]? = some (.stringIter s pos) ∧ Below w.heap.size w wr ∧ vo = .string ⟨acc.toArray⟩ ∧ Hid (acc ++ (bodyQ (s.data.toList.drop pos) ++ [34]) = quoteL s.data.toList) ∧ pos ≤ s.size ∧ acc.length ≤ 5 * pos + 1) (fun _ wr => s.size - wr.iterPos w.heap.size)
  case atStart =>
    refine ⟨0, [34], World.iter_heap w s 0, (Below.refl _ _).alloc (Nat.le_refl _) _, rfl, ?_, Nat.zero_le _, by simp⟩
    show _ = _
    simp [quoteL]
  case round =>
    obtain ⟨wo, rfl⟩ : ∃ wo : World, wo = wr := ⟨_, rfl⟩
    obtain ⟨pos, acc, hit, hbw, rfl, H, hps, hal⟩ := hrel
    have hpos0 := iterPos_of hit
    have hsz : w.heap.size < wo.heap.size := (Array.getElem?_eq_some_iff.1 hit).1
    by_cases hp : pos < s.size
    · have hnx : ∀ ty, (Instr.next (.pointer (some ⟨w.heap.size, 0, none⟩)) true ty).run Tryz.prog wo = _ := fun ty => Lib.run_next_any_at wo w.heap.size s pos ty hit hp
      have hwd := width1 s pos
      have hwl := width_le hp
      have hd1 := decode_le s pos
      have hit2 := Lib.iterAt_heap wo w.heap.size s pos (pos + (Utf8.decode s pos).2) hit
      have hbw2 := Lib.below_iterAt hbw (k := w.heap.size) (Nat.le_refl _) s (pos + (Utf8.decode s pos).2)
      have H2 : Hid ((acc ++ chunkQ (s.data.toList.drop pos)) ++ (bodyQ (s.data.toList.drop (pos + (Utf8.decode s pos).2)) ++ [34]) = quoteL s.data.toList) := by
        show _ = _
        rw [← H.out, sufs_at_flat hp]; simp
      clear H
      have hcl := chunkQ_len (s.data.toList.drop pos)
      obtain ⟨W1, hW1⟩ : ∃ W1, W1 = wo.iterAt w.heap.size s (pos + (Utf8.decode s pos).2) := ⟨_, rfl⟩
      have hz1 : w.heap.size < W1.heap.size := by rw [hW1, Lib.iterAt_size]; exact hsz
      rw [← hW1] at hnx hit2 hbw2
      clear hW1 hit hbw
      have ip : (pos : Int) ≤ s.size := by omega
      have hqs : (s.extract pos s.size).size = s.size - pos := by rw [ByteArray.size_extract]; omega
      have hql : (s.extract pos s.size).data.toList = s.data.toList.drop pos := by rw [Lib.extract_data, Lib.size_eq, List.take_of_length_le (by rw [List.length_drop]; omega)]
      have hqd : Utf8.decode (s.extract pos s.size) 0 = Utf8.decode s pos := by
        have := Lib.decodeL_drop (s.extract pos s.size) 0
        rw [List.drop_zero, hql, Lib.decodeL_drop] at this
        exact this.symm
      have hbl : (s.extract pos (pos + (Utf8.decode s pos).2)).data.toList = head (s.data.toList.drop pos) := by
        rw [Lib.extract_data]; unfold head; rw [Lib.decodeL_drop, show pos + (Utf8.decode s pos).2 - pos = (Utf8.decode s pos).2 by omega]
      have hkinds := Lib.hid (chunk_kinds (s.data.toList.drop pos) (drop_ne hp))
      have HQD := Lib.hid hqd
      have HBL := Lib.hid hbl
      have HQS := Lib.hid hqs
      clear hqs hql hqd hbl
      obtain ⟨r, hr⟩ : ∃ r, r = (Utf8.decode s pos).1 := ⟨_, rfl⟩
      obtain ⟨wd, hw⟩ : ∃ wd, wd = (Utf8.decode s pos).2 := ⟨_, rfl⟩
      rw [← hw] at hwd hwl hit2 H2 HBL
      rw [← hr] at hd1 hnx
      have HR := Lib.hid hr
      have HW := Lib.hid hw
      clear hr hw
      go_wp2
      go_loopw [6, 7] (fun va vj wr2 => ∃ p2 : Nat, wr2.heap[W1.heap.size]? = some (.stringIter (s.extract pos s.size) p2) ∧ Below W1.heap.size W1 wr2 ∧ ((p2 = 0 ∧ va = .int .i64 1) ∨ (p2 = wd ∧ va = .int .i64 ((s.size : Int) - pos)))) (fun _ _ wr2 => s.size - wr2.iterPos W1.heap.size)
      case atStart => exact ⟨0, World.iter_heap W1 _ 0, (Below.refl _ _).alloc (Nat.le_refl _) _, .inl ⟨rfl, rfl⟩⟩
      case round =>
        obtain ⟨p2, hi2, hb2, (⟨rfl, rfl⟩ | ⟨hp2, rfl⟩)⟩ := hrel
        · have hq0 : 0 < (s.extract pos s.size).size := by rw [HQS.out]; omega
          have hnx2 : ∀ ty, (Instr.next (.pointer (some ⟨W1.heap.size, 0, none⟩)) true ty).run Tryz.prog wr = _ := fun ty => Lib.run_next_any_at wr W1.heap.size _ 0 ty hi2 hq0
          rw [HQD.out, Nat.zero_add, ← HW.out] at hnx2
          have hi3 := Lib.iterAt_heap wr W1.heap.size _ 0 wd hi2
          have hb3 := Lib.below_iterAt hb2 (k := W1.heap.size) (Nat.le_refl _) (s.extract pos s.size) wd
          have hp20 := iterPos_of hi2
          go_wp2
          go_roundw
          case rel => exact ⟨wd, hi3, hb3, .inr ⟨rfl, rfl⟩⟩
          case measure => rw [iterPos_of hi3, hp20]; omega
        · rw [hp2] at hi2
          clear hp2 p2
          have hD : (∃ (WF : World) (r2 : Value), (∀ ty, (Instr.next (.pointer (some ⟨W1.heap.size, 0, none⟩)) true ty).run Tryz.prog wr = .ok (.tuple #[.bool true, .int .i64 (wd : Int), r2]) WF) ∧ WF.heap[w.heap.size]? = some (.stringIter s (pos + wd)) ∧ Below w.heap.size w WF) ∨
              ((∀ ty, (Instr.next (.pointer (some ⟨W1.heap.size, 0, none⟩)) true ty).run Tryz.prog wr = .ok (.tuple #[.bool false]) wr) ∧ (s.size : Int) - pos = wd ∧ wr.heap[w.heap.size]? = some (.stringIter s (pos + wd)) ∧ Below w.heap.size w wr) := by
            have hitW : wr.heap[w.heap.size]? = some (.stringIter s (pos + wd)) := (hb2.block _ hz1).trans hit2
            have hbW : Below w.heap.size w wr := hbw2.trans (hb2.mono (by omega))
            by_cases hm : wd < (s.extract pos s.size).size
            · exact .inl ⟨_, _, fun ty => Lib.run_next_any_at wr W1.heap.size _ wd ty hi2 hm, (Lib.iterAt_other _ _ _ _ _ (by omega)).trans hitW, Lib.below_iterAt hbW (by omega) _ _⟩
            · refine .inr ⟨fun ty => Lib.run_next_end_at wr W1.heap.size _ wd ty hi2 hm, ?_, hitW, hbW⟩
              rw [HQS.out] at hm; omega
          have iw0 : (0 : Int) < wd := by omega
          have iw1 : (pos : Int) + wd ≤ s.size := by omega
          have ial : acc.length ≤ 5497558138881 := by omega
          have hrd : (Lib.decodeL (s.data.toList.drop pos)).1 = r := by rw [Lib.decodeL_drop, HR.out]
          have hwd2 : (Lib.decodeL (s.data.toList.drop pos)).2 = wd := by rw [Lib.decodeL_drop, HW.out]
          have hK := hkinds.out
          rw [hrd, hwd2] at hK
          have ibs : (s.extract pos (pos + wd)).size ≤ 1099511627776 := by rw [ByteArray.size_extract]; omega
          clear hrd hwd2 hi2 hb2 hit2 hbw2 hkinds
          rcases hK with ⟨hk1, hk2, hk3⟩ | ⟨hk1, hk2, hk3⟩ | ⟨hk1, hk2, hk3⟩ | ⟨hk1, hkw, hk2, hk3⟩ | ⟨⟨hk1, hk2, hk3⟩, hk4, hk5, hk6⟩
          · have E : Hid ((({ data := acc.toArray } : ByteArray) ++ { data := #[92] } ++ s.extract pos (pos + wd)).data.toList = acc ++ chunkQ (s.data.toList.drop pos)) := by
              show _ = _
              rw [hk2, ByteArray.data_append, Array.toList_append, HBL.out, hk3]; simp
            have t1 : ((r : Int) == 65533) = false := by rw [beq_eq_false_iff_ne]; omega
            have t2 : ((r : Int) == 34) = true := by rw [beq_iff_eq]; omega
            clear hk1 hk2 hk3
            rcases hD with ⟨WF, r2, hnx2, hitF, hbF⟩ | ⟨hnx2, heq, hitF, hbF⟩
            all_goals
              go_wp2
              go_roundw
              case rel => exact ⟨pos + wd, acc ++ chunkQ (s.data.toList.drop pos), hitF, hbF, str_mk E.out, H2, hwl, by rw [List.length_append]; omega⟩
              case measure => rw [iterPos_of hitF, hpos0]; omega
          · have E : Hid ((({ data := acc.toArray } : ByteArray) ++ { data := #[92] } ++ s.extract pos (pos + wd)).data.toList = acc ++ chunkQ (s.data.toList.drop pos)) := by
              show _ = _
              rw [hk2, ByteArray.data_append, Array.toList_append, HBL.out, hk3]; simp
            have t1 : ((r : Int) == 65533) = false := by rw [beq_eq_false_iff_ne]; omega
            have t2 : ((r : Int) == 34) = false := by rw [beq_eq_false_iff_ne]; omega
            have t3 : ((r : Int) == 92) = true := by rw [beq_iff_eq]; omega
            clear hk1 hk2 hk3
            rcases hD with ⟨WF, r2, hnx2, hitF, hbF⟩ | ⟨hnx2, heq, hitF, hbF⟩
            all_goals
              go_wp2
              go_roundw
              case rel => exact ⟨pos + wd, acc ++ chunkQ (s.data.toList.drop pos), hitF, hbF, str_mk E.out, H2, hwl, by rw [List.length_append]; omega⟩
              case measure => rw [iterPos_of hitF, hpos0]; omega
          · have E : Hid ((({ data := acc.toArray } : ByteArray) ++ { data := #[92, 110] }).data.toList = acc ++ chunkQ (s.data.toList.drop pos)) := by
              show _ = _
              rw [hk2, ByteArray.data_append, Array.toList_append]
            have t1 : ((r : Int) == 65533) = false := by rw [beq_eq_false_iff_ne]; omega
            have t2 : ((r : Int) == 34) = false := by rw [beq_eq_false_iff_ne]; omega
            have t3 : ((r : Int) == 92) = false := by rw [beq_eq_false_iff_ne]; omega
            have t4 : ((r : Int) == 10) = true := by rw [beq_iff_eq]; omega
            clear hk1 hk2 hk3
            rcases hD with ⟨WF, r2, hnx2, hitF, hbF⟩ | ⟨hnx2, heq, hitF, hbF⟩
            all_goals
              go_wp2
              go_roundw
              case rel => exact ⟨pos + wd, acc ++ chunkQ (s.data.toList.drop pos), hitF, hbF, str_mk E.out, H2, hwl, by rw [List.length_append]; omega⟩
              case measure => rw [iterPos_of hitF, hpos0]; omega
          · have t1 : ((r : Int) == 65533) = true := by rw [beq_iff_eq]; omega
            have hbs : (s.extract pos (pos + wd)).toList = [s[pos]] := by
              rw [Lib.toList_data, HBL.out, hk3, Lib.getD_dropU, Nat.add_zero, getD_at hp]
            have hg0 : (s.data.toList.drop pos).getD 0 0 = s[pos] := by rw [Lib.getD_dropU, Nat.add_zero, getD_at hp]
            rw [hg0] at hk2
            have tb : ((s.extract pos (pos + wd)).toList == [239, 191, 189]) = false := by rw [hbs]; simp
            have ibz : (0 : Int) < (s.extract pos (pos + wd)).size := by rw [ByteArray.size_extract]; omega
            have ibn : 0 < (s.extract pos (pos + wd)).size := by omega
            have hx256 := (s.extract pos (pos + wd))[0].toNat_lt
            have HX0 : Hid ((s.extract pos (pos + wd))[0] = s[pos]) := by
              show _ = _
              have h := hbs
              rw [Lib.toList_data] at h
              have h1 := getD_at (s := s.extract pos (pos + wd)) (i := 0) ibn
              rw [h] at h1
              exact h1.symm
            have HKW := Lib.hid hkw
            have HK2 := Lib.hid hk2
            clear hbs hg0 hk3 hk1 hkw hk2
            rcases hD with ⟨WF, r2, hnx2, hitF, hbF⟩ | ⟨hnx2, heq, hitF, hbF⟩
            all_goals
              go_wp2_with fail
              try clear heq
              try clear hnx2
              have j0 : 0 < wd := by omega
              have j1 : acc.length + 2 ≤ 9223372036854775807 := by omega
              go_quiet (fail)
              go_wp2
              go_roundw
              case rel =>
                refine ⟨pos + wd, acc ++ chunkQ (s.data.toList.drop pos), hitF, below_drewN hbF _, str_mk ?_, H2, hwl, by rw [List.length_append]; omega⟩
                rw [HK2.out, HX0.out]
                have hx := s[pos].toNat_lt
                simp only [ByteArray.data_append, Array.toList_append]
                rw [digit_ext _ (by omega), digit_ext _ (by omega)]
                simp
              case measure =>
                have hi := iterPos_of hitF
                have hz : ∀ (W : World) (n : Nat), (W.drewN n).iterPos w.heap.size = W.iterPos w.heap.size := fun _ _ => rfl
                rw [hz, hi, hpos0]; omega
          · have E : Hid ((({ data := acc.toArray } : ByteArray) ++ s.extract pos (pos + wd)).data.toList = acc ++ chunkQ (s.data.toList.drop pos)) := by
              show _ = _
              rw [hk5, ByteArray.data_append, Array.toList_append, HBL.out, hk6]
            have t2 : ((r : Int) == 34) = false := by rw [beq_eq_false_iff_ne]; omega
            have t3 : ((r : Int) == 92) = false := by rw [beq_eq_false_iff_ne]; omega
            have t4 : ((r : Int) == 10) = false := by rw [beq_eq_false_iff_ne]; omega
            have t1 : ((r : Int) == 65533) = false ∨ (((r : Int) == 65533) = true ∧ (s.extract pos (pos + wd)).toList = [239, 191, 189]) := by
              by_cases h : r = 65533
              · right
                refine ⟨by rw [beq_iff_eq]; omega, ?_⟩
                rw [Lib.toList_data, HBL.out, hk6, h]; decide
              · left; rw [beq_eq_false_iff_ne]; omega
            clear hk1 hk2 hk3 hk4 hk5 hk6
            rcases t1 with t1 | ⟨t1, t1'⟩
            all_goals
              rcases hD with ⟨WF, r2, hnx2, hitF, hbF⟩ | ⟨hnx2, heq, hitF, hbF⟩
              all_goals
                go_wp2
                go_roundw
                case rel => exact ⟨pos + wd, acc ++ chunkQ (s.data.toList.drop pos), hitF, hbF, str_mk E.out, H2, hwl, by rw [List.length_append]; omega⟩
                case measure => rw [iterPos_of hitF, hpos0]; omega
    · have hnx : ∀ ty, (Instr.next (.pointer (some ⟨w.heap.size, 0, none⟩)) true ty).run Tryz.prog wo = _ := fun ty => Lib.run_next_end_at wo w.heap.size s pos ty hit hp
      have E : Hid ((({ data := acc.toArray } : ByteArray) ++ { data := #[34] }).data.toList = quoteL s.data.toList) := by
        show _ = _
        rw [← H.out, drop_end hp, ByteArray.data_append, Array.toList_append]; rfl
      have ial : acc.length ≤ 5497558138881 := by omega
      clear H
      go_wp2
      go_ret
      refine ⟨?_, hbw⟩
      rw [str_mk E.out]
      rfl
end Go.Proofs.YtbdnonphkobkoaaGreat
