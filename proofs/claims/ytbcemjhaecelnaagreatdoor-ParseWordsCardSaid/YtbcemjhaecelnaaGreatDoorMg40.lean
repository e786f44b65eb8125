import Derived.Test.YtbcemjhaecelnaaGreatDoorMg07
import Derived.Laws.StructEq
import Derived.Test.YtbcemjhaecelnaaGreatDoorMg04
import Derived.WalkSpells
import Derived.Deep.LoopGhost
import Derived.BigQuiet
import Derived.Deep.QuietTactic
import Derived.Laws.BytesString
import Derived.Laws.OwnMore
import Derived.StillTailTactics
import Derived.Deep.RegionLaw
import Derived.Deep.AppendLies
section
namespace Go.Proofs.YtbcemjhaecelnaaGreatDoor
open Go.RowKit
theorem size_arr (l : List UInt8) : (⟨l.toArray⟩ : ByteArray).size = l.length := by simp [ByteArray.size]
def zh3 (w : World) (o : Option Addr) (ws : List Wd) : Prop := ws = [] \/ ∃ b off, o = some ⟨b, off, none⟩ /\ b < w.heap.size /\ ∀ (j : Nat) (x : Wd), ws[j]? = some x ->
 w.cell? ⟨b, off + j * 3, none⟩ = some (.int .i64 (x.1 : Nat)) /\ w.cell? ⟨b, off + j * 3 + 1, none⟩ = some (.int .i64 (x.2.1 : Nat)) /\ w.cell? ⟨b, off + j * 3 + 2, none⟩ = some (.string ⟨x.2.2.toArray⟩)
theorem zh3.below {w w' : World} {o : Option Addr} {ws : List Wd} (h : zh3 w o ws) (hb : Below w.heap.size w w') : zh3 w' o ws :=
 h.imp id fun ⟨b, off, e, h1, h2⟩ => ⟨b, off, e, Nat.lt_of_lt_of_le h1 hb.size, fun j x hx => by
  obtain ⟨a, b', c⟩ := h2 j x hx
  exact ⟨(hb.cell (p := ⟨b, off + j * 3, none⟩) h1).trans a, (hb.cell (p := ⟨b, off + j * 3 + 1, none⟩) h1).trans b', (hb.cell (p := ⟨b, off + j * 3 + 2, none⟩) h1).trans c⟩⟩
end Go.Proofs.YtbcemjhaecelnaaGreatDoor
end

section
namespace Go.Proofs.YtbcemjhaecelnaaGreatDoor
open Go.RowKit
theorem words_none (s : ByteArray) (hl : lexL s.data.toList = none) (hs : s.size <= 600) (w : World) (h : Env w) :
 Calls Tryz.prog 18 #[.string s] w fun e w' => e = .returned (.tuple #[.slice none 0 0, .int .i64 2]) /\ Below w.heap.size w w' := by
 refine (zdr s w h (by unfold maxLen; omega)).mono fun e w' ⟨he, hb⟩ => ⟨?_, hb⟩
 unfold zaU at he
 rw [if_neg (by rw [<- Lib.size_eq]; omega), hl] at he
 exact he
theorem zh3.open {w : World} {o : Option Addr} {ws : List Wd} (h : zh3 w o ws) (hne : ws ≠ []) : ∃ b off, o = some ⟨b, off, none⟩ /\ b < w.heap.size /\ ∀ (j : Nat) (x : Wd), ws[j]? = some x ->
 w.cell? ⟨b, off + j * 3, none⟩ = some (.int .i64 (x.1 : Nat)) /\ w.cell? ⟨b, off + j * 3 + 1, none⟩ = some (.int .i64 (x.2.1 : Nat)) /\ w.cell? ⟨b, off + j * 3 + 2, none⟩ = some (.string ⟨x.2.2.toArray⟩) :=
 h.elim (fun e => absurd e hne) id
end Go.Proofs.YtbcemjhaecelnaaGreatDoor
end

section
set_option maxHeartbeats 4000000
set_option maxRecDepth 100000
namespace Go.Proofs.YtbcemjhaecelnaaGreatDoor
open Go.RowKit
theorem zfq {b : ByteArray} {l : List UInt8} (h : b.data.toList = l) : Value.string b = .string ⟨l.toArray⟩ := by
 subst h; cases b; simp
theorem zgt (n : Nat) (h : n < 16) : ((⟨#[48, 49, 50, 51, 52, 53, 54, 55, 56, 57, 97, 98, 99, 100, 101, 102]⟩ : ByteArray).extract n (n + 1)).data.toList = [hexd n] := by
 have : n = 0 \/ n = 1 \/ n = 2 \/ n = 3 \/ n = 4 \/ n = 5 \/ n = 6 \/ n = 7 \/ n = 8 \/ n = 9 \/ n = 10 \/ n = 11 \/ n = 12 \/ n = 13 \/ n = 14 \/ n = 15 := by omega
 rcases this with rfl | rfl | rfl | rfl | rfl | rfl | rfl | rfl | rfl | rfl | rfl | rfl | rfl | rfl | rfl | rfl <;> rfl
theorem below_drewN {B : Nat} {a w : World} (h : Below B a w) (n : Nat) : Below B a (w.drewN n) := h.trans ⟨rfl, rfl, rfl, Nat.le_refl _, fun _ _ => rfl⟩
theorem rquote_any (s : ByteArray) (w : World) (hs : s.size <= 1099511627776) :
 Calls Tryz.prog 39 #[.string s] w fun e w' => e = .returned (.string ⟨(zau s.data.toList).toArray⟩) /\ Below w.heap.size w w' := by
 go_enter Tryz.func39, Tryz.ntmps39
 go_wp2
 go_loopw [3] (fun vo wr => ∃ (pos : Nat) (acc : List UInt8), wr.heap[w.heap.size]? = some (.stringIter s pos) /\ Below w.heap.size w wr /\ vo = .string ⟨acc.toArray⟩ /\ Hid (acc ++ (zbA (s.data.toList.drop pos) ++ [34]) = zau s.data.toList) /\ pos <= s.size /\ acc.length <= 5 * pos + 1) (fun _ wr => s.size - wr.iterPos w.heap.size)
 case atStart =>
  refine ⟨0, [34], World.iter_heap w s 0, (Below.refl _ _).alloc (Nat.le_refl _) _, rfl, ?_, Nat.zero_le _, by simp⟩
  show _ = _
  simp [zau]
 case round =>
  obtain ⟨wo, rfl⟩ : ∃ wo : World, wo = wr := ⟨_, rfl⟩
  obtain ⟨pos, acc, hit, hbw, rfl, H, hps, hal⟩ := hrel
  have hpos0 := zac hit
  have hsz : w.heap.size < wo.heap.size := (Array.getElem?_eq_some_iff.1 hit).1
  by_cases hp : pos < s.size
  ·have hnx : ∀ ty, (Instr.next (.pointer (some ⟨w.heap.size, 0, none⟩)) true ty).run Tryz.prog wo = _ := fun ty => Lib.run_next_any_at wo w.heap.size s pos ty hit hp
   have hwd := zbT s pos
   have hwl := zbm hp
   have hd1 := decode_le s pos
   have hit2 := Lib.iterAt_heap wo w.heap.size s pos (pos + (Utf8.decode s pos).2) hit
   have hbw2 := Lib.below_iterAt hbw (k := w.heap.size) (Nat.le_refl _) s (pos + (Utf8.decode s pos).2)
   have H2 : Hid ((acc ++ zar (s.data.toList.drop pos)) ++ (zbA (s.data.toList.drop (pos + (Utf8.decode s pos).2)) ++ [34]) = zau s.data.toList) := by
    show _ = _
    rw [<- H.out, zdO hp]; simp
   clear H
   have hcl := zeN (s.data.toList.drop pos)
   obtain ⟨W1, hW1⟩ : ∃ W1, W1 = wo.iterAt w.heap.size s (pos + (Utf8.decode s pos).2) := ⟨_, rfl⟩
   have hz1 : w.heap.size < W1.heap.size := by rw [hW1, Lib.iterAt_size]; exact hsz
   rw [<- hW1] at hnx hit2 hbw2
   clear hW1 hit hbw
   have ip : (pos : Int) <= s.size := by omega
   have hqs : (s.extract pos s.size).size = s.size - pos := by rw [ByteArray.size_extract]; omega
   have hql : (s.extract pos s.size).data.toList = s.data.toList.drop pos := by rw [Lib.extract_data, Lib.size_eq, List.take_of_length_le (by rw [List.length_drop]; omega)]
   have hqd : Utf8.decode (s.extract pos s.size) 0 = Utf8.decode s pos := by
    have := Lib.decodeL_drop (s.extract pos s.size) 0
    rw [List.drop_zero, hql, Lib.decodeL_drop] at this
    exact this.symm
   have hbl : (s.extract pos (pos + (Utf8.decode s pos).2)).data.toList = head (s.data.toList.drop pos) := by
    rw [Lib.extract_data]; unfold head; rw [Lib.decodeL_drop, show pos + (Utf8.decode s pos).2 - pos = (Utf8.decode s pos).2 by omega]
   have hkinds := zh (zbK (s.data.toList.drop pos) (za6 hp))
   have HQD := zh hqd
   have HBL := zh hbl
   have HQS := zh hqs
   clear hqs hql hqd hbl
   obtain ⟨r, hr⟩ : ∃ r, r = (Utf8.decode s pos).1 := ⟨_, rfl⟩
   obtain ⟨wd, hw⟩ : ∃ wd, wd = (Utf8.decode s pos).2 := ⟨_, rfl⟩
   rw [<- hw] at hwd hwl hit2 H2 HBL
   rw [<- hr] at hd1 hnx
   have HR := zh hr
   have HW := zh hw
   clear hr hw
   go_wp2
   go_loopw [6, 7] (fun va vj wr2 => ∃ p2 : Nat, wr2.heap[W1.heap.size]? = some (.stringIter (s.extract pos s.size) p2) /\ Below W1.heap.size W1 wr2 /\ ((p2 = 0 /\ va = .int .i64 1) \/ (p2 = wd /\ va = .int .i64 ((s.size : Int) - pos)))) (fun _ _ wr2 => s.size - wr2.iterPos W1.heap.size)
   case atStart => exact ⟨0, World.iter_heap W1 _ 0, (Below.refl _ _).alloc (Nat.le_refl _) _, .inl ⟨rfl, rfl⟩⟩
   case round =>
    obtain ⟨p2, hi2, hb2, (⟨rfl, rfl⟩ | ⟨hp2, rfl⟩)⟩ := hrel
    ·have hq0 : 0 < (s.extract pos s.size).size := by rw [HQS.out]; omega
     have hnx2 : ∀ ty, (Instr.next (.pointer (some ⟨W1.heap.size, 0, none⟩)) true ty).run Tryz.prog wr = _ := fun ty => Lib.run_next_any_at wr W1.heap.size _ 0 ty hi2 hq0
     rw [HQD.out, Nat.zero_add, <- HW.out] at hnx2
     have hi3 := Lib.iterAt_heap wr W1.heap.size _ 0 wd hi2
     have hb3 := Lib.below_iterAt hb2 (k := W1.heap.size) (Nat.le_refl _) (s.extract pos s.size) wd
     have hp20 := zac hi2
     go_wp2
     go_roundw
     case rel => exact ⟨wd, hi3, hb3, .inr ⟨rfl, rfl⟩⟩
     case measure => rw [zac hi3, hp20]; omega
    ·rw [hp2] at hi2
     clear hp2 p2
     have hD : (∃ (WF : World) (r2 : Value), (∀ ty, (Instr.next (.pointer (some ⟨W1.heap.size, 0, none⟩)) true ty).run Tryz.prog wr = .ok (.tuple #[.bool true, .int .i64 (wd : Int), r2]) WF) /\ WF.heap[w.heap.size]? = some (.stringIter s (pos + wd)) /\ Below w.heap.size w WF) \/
      ((∀ ty, (Instr.next (.pointer (some ⟨W1.heap.size, 0, none⟩)) true ty).run Tryz.prog wr = .ok (.tuple #[.bool false]) wr) /\ (s.size : Int) - pos = wd /\ wr.heap[w.heap.size]? = some (.stringIter s (pos + wd)) /\ Below w.heap.size w wr) := by
      have hitW : wr.heap[w.heap.size]? = some (.stringIter s (pos + wd)) := (hb2.block _ hz1).trans hit2
      have hbW : Below w.heap.size w wr := hbw2.trans (hb2.mono (by omega))
      by_cases hm : wd < (s.extract pos s.size).size
      ·exact .inl ⟨_, _, fun ty => Lib.run_next_any_at wr W1.heap.size _ wd ty hi2 hm, (Lib.iterAt_other _ _ _ _ _ (by omega)).trans hitW, Lib.below_iterAt hbW (by omega) _ _⟩
      ·refine .inr ⟨fun ty => Lib.run_next_end_at wr W1.heap.size _ wd ty hi2 hm, ?_, hitW, hbW⟩
       rw [HQS.out] at hm; omega
     have iw0 : (0 : Int) < wd := by omega
     have iw1 : (pos : Int) + wd <= s.size := by omega
     have ial : acc.length <= 5497558138881 := by omega
     have hrd : (Lib.decodeL (s.data.toList.drop pos)).1 = r := by rw [Lib.decodeL_drop, HR.out]
     have hwd2 : (Lib.decodeL (s.data.toList.drop pos)).2 = wd := by rw [Lib.decodeL_drop, HW.out]
     have hK := hkinds.out
     rw [hrd, hwd2] at hK
     have ibs : (s.extract pos (pos + wd)).size <= 1099511627776 := by rw [ByteArray.size_extract]; omega
     clear hrd hwd2 hi2 hb2 hit2 hbw2 hkinds
     rcases hK with ⟨hk1, hk2, hk3⟩ | ⟨hk1, hk2, hk3⟩ | ⟨hk1, hk2, hk3⟩ | ⟨hk1, hkw, hk2, hk3⟩ | ⟨⟨hk1, hk2, hk3⟩, hk4, hk5, hk6⟩
     ·have E : Hid ((({ data := acc.toArray } : ByteArray) ++ { data := #[92] } ++ s.extract pos (pos + wd)).data.toList = acc ++ zar (s.data.toList.drop pos)) := by
       show _ = _
       rw [hk2, ByteArray.data_append, Array.toList_append, HBL.out, hk3]; simp
      have t1 : ((r : Int) == 65533) = false := by rw [beq_eq_false_iff_ne]; omega
      have t2 : ((r : Int) == 34) = true := by rw [beq_iff_eq]; omega
      clear hk1 hk2 hk3
      rcases hD with ⟨WF, r2, hnx2, hitF, hbF⟩ | ⟨hnx2, heq, hitF, hbF⟩
      all_goals
       go_wp2
       go_roundw
       case rel => exact ⟨pos + wd, acc ++ zar (s.data.toList.drop pos), hitF, hbF, zfq E.out, H2, hwl, by rw [List.length_append]; omega⟩
       case measure => rw [zac hitF, hpos0]; omega
     ·have E : Hid ((({ data := acc.toArray } : ByteArray) ++ { data := #[92] } ++ s.extract pos (pos + wd)).data.toList = acc ++ zar (s.data.toList.drop pos)) := by
       show _ = _
       rw [hk2, ByteArray.data_append, Array.toList_append, HBL.out, hk3]; simp
      have t1 : ((r : Int) == 65533) = false := by rw [beq_eq_false_iff_ne]; omega
      have t2 : ((r : Int) == 34) = false := by rw [beq_eq_false_iff_ne]; omega
      have t3 : ((r : Int) == 92) = true := by rw [beq_iff_eq]; omega
      clear hk1 hk2 hk3
      rcases hD with ⟨WF, r2, hnx2, hitF, hbF⟩ | ⟨hnx2, heq, hitF, hbF⟩
      all_goals
       go_wp2
       go_roundw
       case rel => exact ⟨pos + wd, acc ++ zar (s.data.toList.drop pos), hitF, hbF, zfq E.out, H2, hwl, by rw [List.length_append]; omega⟩
       case measure => rw [zac hitF, hpos0]; omega
     ·have E : Hid ((({ data := acc.toArray } : ByteArray) ++ { data := #[92, 110] }).data.toList = acc ++ zar (s.data.toList.drop pos)) := by
       show _ = _
       rw [hk2, ByteArray.data_append, Array.toList_append]
      have t1 : ((r : Int) == 65533) = false := by rw [beq_eq_false_iff_ne]; omega
      have t2 : ((r : Int) == 34) = false := by rw [beq_eq_false_iff_ne]; omega
      have t3 : ((r : Int) == 92) = false := by rw [beq_eq_false_iff_ne]; omega
      have t4 : ((r : Int) == 10) = true := by rw [beq_iff_eq]; omega
      clear hk1 hk2 hk3
      rcases hD with ⟨WF, r2, hnx2, hitF, hbF⟩ | ⟨hnx2, heq, hitF, hbF⟩
      all_goals
       go_wp2
       go_roundw
       case rel => exact ⟨pos + wd, acc ++ zar (s.data.toList.drop pos), hitF, hbF, zfq E.out, H2, hwl, by rw [List.length_append]; omega⟩
       case measure => rw [zac hitF, hpos0]; omega
     ·have t1 : ((r : Int) == 65533) = true := by rw [beq_iff_eq]; omega
      have hbs : (s.extract pos (pos + wd)).toList = [s[pos]] := by
       rw [Lib.toList_data, HBL.out, hk3, Lib.getD_dropU, Nat.add_zero, zc3 hp]
      have hg0 : (s.data.toList.drop pos).getD 0 0 = s[pos] := by rw [Lib.getD_dropU, Nat.add_zero, zc3 hp]
      rw [hg0] at hk2
      have tb : ((s.extract pos (pos + wd)).toList == [239, 191, 189]) = false := by rw [hbs]; simp
      have ibz : (0 : Int) < (s.extract pos (pos + wd)).size := by rw [ByteArray.size_extract]; omega
      have ibn : 0 < (s.extract pos (pos + wd)).size := by omega
      have hx256 := (s.extract pos (pos + wd))[0].toNat_lt
      have HX0 : Hid ((s.extract pos (pos + wd))[0] = s[pos]) := by
       show _ = _
       have h := hbs
       rw [Lib.toList_data] at h
       have h1 := zc3 (s := s.extract pos (pos + wd)) (i := 0) ibn
       rw [h] at h1
       exact h1.symm
      have HKW := zh hkw
      have HK2 := zh hk2
      clear hbs hg0 hk3 hk1 hkw hk2
      rcases hD with ⟨WF, r2, hnx2, hitF, hbF⟩ | ⟨hnx2, heq, hitF, hbF⟩
      all_goals
       go_wp2_with fail
       try clear heq
       try clear hnx2
       have j0 : 0 < wd := by omega
       have j1 : acc.length + 2 <= 9223372036854775807 := by omega
       go_quiet (fail)
       go_wp2
       go_roundw
       case rel =>
        refine ⟨pos + wd, acc ++ zar (s.data.toList.drop pos), hitF, below_drewN hbF _, zfq ?_, H2, hwl, by rw [List.length_append]; omega⟩
        rw [HK2.out, HX0.out]
        have hx := s[pos].toNat_lt
        simp only [ByteArray.data_append, Array.toList_append]
        rw [zgt _ (by omega), zgt _ (by omega)]
        simp
       case measure =>
        have hi := zac hitF
        have hz : ∀ (W : World) (n : Nat), (W.drewN n).iterPos w.heap.size = W.iterPos w.heap.size := fun _ _ => rfl
        rw [hz, hi, hpos0]; omega
     ·have E : Hid ((({ data := acc.toArray } : ByteArray) ++ s.extract pos (pos + wd)).data.toList = acc ++ zar (s.data.toList.drop pos)) := by
       show _ = _
       rw [hk5, ByteArray.data_append, Array.toList_append, HBL.out, hk6]
      have t2 : ((r : Int) == 34) = false := by rw [beq_eq_false_iff_ne]; omega
      have t3 : ((r : Int) == 92) = false := by rw [beq_eq_false_iff_ne]; omega
      have t4 : ((r : Int) == 10) = false := by rw [beq_eq_false_iff_ne]; omega
      have t1 : ((r : Int) == 65533) = false \/ (((r : Int) == 65533) = true /\ (s.extract pos (pos + wd)).toList = [239, 191, 189]) := by
       by_cases h : r = 65533
       ·right
        refine ⟨by rw [beq_iff_eq]; omega, ?_⟩
        rw [Lib.toList_data, HBL.out, hk6, h]; decide
       ·left; rw [beq_eq_false_iff_ne]; omega
      clear hk1 hk2 hk3 hk4 hk5 hk6
      rcases t1 with t1 | ⟨t1, t1'⟩
      all_goals
       rcases hD with ⟨WF, r2, hnx2, hitF, hbF⟩ | ⟨hnx2, heq, hitF, hbF⟩
       all_goals
        go_wp2
        go_roundw
        case rel => exact ⟨pos + wd, acc ++ zar (s.data.toList.drop pos), hitF, hbF, zfq E.out, H2, hwl, by rw [List.length_append]; omega⟩
        case measure => rw [zac hitF, hpos0]; omega
  ·have hnx : ∀ ty, (Instr.next (.pointer (some ⟨w.heap.size, 0, none⟩)) true ty).run Tryz.prog wo = _ := fun ty => Lib.run_next_end_at wo w.heap.size s pos ty hit hp
   have E : Hid ((({ data := acc.toArray } : ByteArray) ++ { data := #[34] }).data.toList = zau s.data.toList) := by
    show _ = _
    rw [<- H.out, zaH hp, ByteArray.data_append, Array.toList_append]; rfl
   have ial : acc.length <= 5497558138881 := by omega
   clear H
   go_wp2
   go_ret
   refine ⟨?_, hbw⟩
   rw [zfq E.out]
   rfl
end Go.Proofs.YtbcemjhaecelnaaGreatDoor
end

section
set_option maxHeartbeats 1000000
set_option maxRecDepth 100000
namespace Go.Proofs.YtbcemjhaecelnaaGreatDoor
open Go.RowKit
def hexI (c : Nat) : Int := if 48 <= c /\ c <= 57 then (c : Int) - 48 else if 97 <= c /\ c <= 102 then (c : Int) - 87 else -1
theorem zgu {c n : Nat} (h : hexR c = some n) : hexI c = n /\ n < 16 := by
 unfold hexR at h
 unfold hexI
 by_cases h1 : 48 <= c /\ c <= 57
 ·rw [if_pos h1] at h ⊢; cases h; omega
 ·rw [if_neg h1] at h ⊢
  by_cases h2 : 97 <= c /\ c <= 102
  ·rw [if_pos h2] at h ⊢; cases h; omega
  ·rw [if_neg h2] at h; cases h
theorem zgv {c : Nat} (h : hexR c = none) : hexI c = -1 := by
 unfold hexR at h
 unfold hexI
 by_cases h1 : 48 <= c /\ c <= 57
 ·rw [if_pos h1] at h; cases h
 ·rw [if_neg h1] at h ⊢
  by_cases h2 : 97 <= c /\ c <= 102
  ·rw [if_pos h2] at h; cases h
  ·rw [if_neg h2]
theorem zgI (c : Nat) (hc : c < 256) (w : World) : Calls Tryz.prog 96 #[.int .u8 c] w fun e w' => e = .returned (.int .i64 (hexI c)) /\ w = w' := by
 go_enter Tryz.func96, Tryz.ntmps96
 go_wp2
 all_goals (go_ret; refine ⟨zb9 ?_, rfl⟩)
 all_goals (unfold hexI; repeat' split)
 all_goals omega
theorem tryd_info5 : (Tryz.prog.info? 5).map (fun i => (i.zero, i.size, i.bytes)) = some (some (.int .u8 0), 1, 1) := by kernel_rfl
theorem own_text {B : Nat} {v : Value} {l : List UInt8} {w : World} (h : w.ownsRow B 5 1 v l.length (Lib.byteCells l)) : (convert 61 9 v).run Tryz.prog w = .ok (.string ⟨l.toArray⟩) w := by
 have hfold : ∀ (l : List UInt8) (b : ByteArray), (l.map fun x => (x.toNat : Int)).foldl (fun r n => r.push (UInt8.ofNat n.toNat)) b = ⟨b.data ++ l.toArray⟩ := by
  intro l
  induction l with
  | nil => intro b; simp
  | cons x l ih =>
    intro b
    rw [List.map_cons, List.foldl_cons, ih]
    simp [ByteArray.push]
 rcases h.2 with ⟨rfl, h0⟩ | ⟨g, cap, cur, rfl, hg, hh, hn, hcap, hsz, htake⟩
 ·have hl : l = [] := by simpa [Lib.byteCells] using h0
  subst hl
  rw [run_convert_bytes_string w 61 9 5 _ _ _ Tryz.underlying61 Tryz.underlying5 Tryz.underlying9]
  rfl
 ·rw [run_convert_bytes_string w 61 9 5 _ _ _ Tryz.underlying61 Tryz.underlying5 Tryz.underlying9]
  have := run_bytesToString (P := Tryz.prog) w ⟨g, 0, none⟩ l.length cap (l.map fun x => (x.toNat : Int)) (by
   rw [run_loadCells w ⟨g, 0, none⟩ l.length (fun j => .int .u8 ((l.getD j 0).toNat : Int)) (fun j hj => by
    have hc := h.cellAt j (by omega)
    have e : ((⟨g, 0, none⟩ : Addr).add j) = ⟨g, j, none⟩ := by simp [Addr.add]; intro h; exact h.symm
    rw [e, hc]
    simp [Lib.byteCells, List.getD, hj])]
   congr 1
   apply Array.ext'
   simp
   apply List.ext_getElem
   ·simp
   ·intro i h1 h2; simp at h1 h2; simp [h2])
  rw [this, hfold]
  simp
end Go.Proofs.YtbcemjhaecelnaaGreatDoor
end

section
set_option maxHeartbeats 8000000
set_option maxRecDepth 100000
namespace Go.Proofs.YtbcemjhaecelnaaGreatDoor
open Go.RowKit
def zaA (l : List UInt8) : Option (List UInt8) :=
 if l.length < 2 \/ l.getD 0 0 ≠ 34 \/ l.getD (l.length - 1) 0 ≠ 34 then none
 else match rd false ((l.drop 1).take (l.length - 1 - 1)).length ((l.drop 1).take (l.length - 1 - 1)) with
  | none => none
  | some (t, _) => if zau t = l then some t else none
theorem drop_at {b : ByteArray} {i : Nat} (h : i < b.size) : b.data.toList.drop i = b[i] :: b.data.toList.drop (i + 1) := by
 have hl : i < b.data.toList.length := by rw [<- Lib.size_eq]; exact h
 rw [List.drop_eq_getElem_cons hl]; rfl
theorem zej (w : World) (v : Value) (t : TypeId) : ∀ j u, [v][j]? = some u -> (w.alloc (.cells #[v] t)).cell? ((⟨w.heap.size, 0, none⟩ : Addr).add j) = some u := by
 intro j u hj
 match j, hj with
 | 0, hj => simp at hj; subst hj; simp [Addr.add]
 | j + 1, hj => simp at hj
def Rd (bb : ByteArray) (acc : List UInt8) (f i : Nat) : Prop := pre2 acc (rd false f (bb.data.toList.drop i)) = rd false bb.data.toList.length bb.data.toList
theorem zho (x : Int) : ∀ v ∈ [Value.int .u8 x], v.oneCell' = true := by
 intro v hv; simp at hv; subst hv; rfl
theorem own_step {P : Program} {ops : Array Oper} {o : Oper} {a : Act} {w : World} {K : Act -> World -> Prop} {Q : Exit -> Act -> World -> Prop} {E : Prop} (hg : o.guard = none) (s x : Operand) (t : TypeId)
 (ho : o.op = .call { callee := .builtin .append, args := #[s, x], argTypes := #[t, t] })
 (base : Nat) (e : TypeId) (i : TypeInfo) (z : Value) (size bytes : Nat) (ht : P.underlying t = some (.slice e)) (hi : P.info? e = some i) (hz : i.zero = some z)
 (hsize : i.size = size) (hby : i.bytes = bytes) (hzs : z.cells.size = size) (hsz : 0 < size)
 (v : Value) (n : Nat) (xs : List Value) (hs : a.eval s = v) (hown : w.ownsRow base e size v n xs)
 (ad : Addr) (m c : Nat) (news : List Value) (hx : a.eval x = .slice (some ad) m c) (hl : news.length = m * size) (hnews : ∀ j u, news[j]? = some u -> w.cell? (ad.add j) = some u) (h1 : ∀ u ∈ news, u.oneCell' = true)
 (h63 : n + m <= maxLen) (hbytes : (n + m) * bytes <= 140737488355328) (hbase : base <= w.heap.size)
 (h : ∀ v' w', w'.ownsRow base e size v' (n + m) (xs ++ news) -> w.grownBy w' v.ownBlock -> K (a.put o.dst v') w') :
 if Region.wanted o (yielded ops a.tmps) = true then Oper.wp P o a w K Q else E := by
 rw [if_pos (by simp [Region.wanted, hg])]
 exact wp_append_own w s x t ho base e i z size bytes ht hi hz hsize hby hzs hsz v n xs hs hown ad m c news hx hl hnews h1 h63 hbytes hbase fun v' w' h2 h3 _ => h v' w' h2 h3
theorem zek {B : Nat} {v : Value} {acc : List UInt8} {x : UInt8} {w : World} (h : w.ownsRow B 5 1 v (acc.length + 1) (Lib.byteCells acc ++ [.int .u8 (x.toNat : Int)])) : w.ownsRow B 5 1 v (acc ++ [x]).length (Lib.byteCells (acc ++ [x])) := by
 rw [Lib.byteCells_append, List.length_append]; exact h
theorem zcu {B : Nat} {w wr w3 : World} {v : Value} {n : Nat} {xs : List Value} {o : Obj} (hbw : Below B w wr) (hB : B <= wr.heap.size) (hown : wr.ownsRow B 5 1 v n xs) (hg : (wr.alloc o).grownBy w3 v.ownBlock) : Below B w w3 :=
 Below.grown (hbw.alloc hB _) hg (by simp; omega) (fun j hj => (hown.lt _ hj).1)
theorem runquote_any (s : ByteArray) (hs : s.size <= 274877906944) (w : World) :
 Calls Tryz.prog 71 #[.string s] w fun e w' => UEnd (zaA s.data.toList) e /\ Below w.heap.size w w' := by
 have HSZ := zh (Lib.size_eq s)
 by_cases h2 : s.size < 2
 ·have HN : Hid (none = zaA s.data.toList) := by have := HSZ.out; show _ = _; unfold zaA; rw [if_pos (.inl (by omega))]
  have i2 : (s.size : Int) < 2 := by omega
  have t2 : decide ((s.size : Int) < 2) = true := by simpa using i2
  go_enter Tryz.func71, Tryz.ntmps71
  go_wp2
  go_ret2
  exact ⟨zaJ HN.out, Below.refl _ _⟩
 ·have i2 : (2 : Int) <= s.size := by omega
  have t2 : decide ((s.size : Int) < 2) = false := by simp; omega
  have i3 : (1 : Int) <= (s.size : Int) - 1 := by omega
  have g0 := zc3 (s := s) (i := 0) (by omega)
  have g1 := zc3 (s := s) (i := s.size - 1) (by omega)
  have n1 : ∀ b : UInt8, b ≠ 34 ↔ b.toNat ≠ 34 := fun b => ⟨fun h h' => h (UInt8.toNat_inj.1 h'), fun h h' => h (by rw [h']; rfl)⟩
  by_cases q : s[0].toNat = 34 /\ s[s.size - 1].toNat = 34
  ·have t0 : ((s[0].toNat : Int) != 34) = false := by rw [bne_eq_false_iff_eq]; omega
   have t1 : ((s[s.size - 1].toNat : Int) != 34) = false := by rw [bne_eq_false_iff_eq]; omega
   obtain ⟨bb, hbb⟩ : ∃ bb, bb = s.extract 1 (s.size - 1) := ⟨_, rfl⟩
   have hx : bb.data.toList = (s.data.toList.drop 1).take (s.size - 1 - 1) := by rw [hbb]; exact Lib.extract_data s 1 (s.size - 1)
   have hbs : bb.size <= s.size := by rw [hbb, ByteArray.size_extract]; omega
   have hU : zaA s.data.toList = match rd false bb.data.toList.length bb.data.toList with
    | none => none
    | some (t, _) => if zau t = s.data.toList then some t else none := by
    unfold zaA
    rw [if_neg, <- HSZ.out, hx]
    rw [<- HSZ.out, g0, g1, n1, n1]; omega
   have HU := zh hU
   have hbb' := hbb.symm
   have HBL := zh (Lib.size_eq bb)
   clear g0 g1 n1 q hx hbb hU
   obtain ⟨i0, hi, hz0, hz1, hz2⟩ := info_parts tryd_info5
   go_enter Tryz.func71, Tryz.ntmps71
   go_wp2
   clear hbb' t0 t1 t2
   go_loopw [5, 6] (fun vo vi wr => ∃ (i f : Nat) (acc : List UInt8), wr.ownsRow w.heap.size 5 1 vo acc.length (Lib.byteCells acc) /\ Below w.heap.size w wr /\ vi = .int .i64 i /\ Hid (Rd bb acc f i) /\ bb.size <= i + f /\ i <= bb.size /\ acc.length <= i) (fun _ vi _ => bb.size - (intOf vi).toNat)
   case atStart => exact ⟨0, bb.data.toList.length, [], World.ownsRow_nil _ _ _ _, Below.refl _ _, rfl, (by show Rd _ _ _ _; unfold Rd; rw [zfy, List.drop_zero]), by rw [<- HBL.out]; omega, by omega, by simp⟩
   case round =>
    obtain ⟨i, f, acc, hown, hbw, rfl, H, hf, hile, hal⟩ := hrel
    by_cases hib : i < bb.size
    ·obtain ⟨f, rfl⟩ : ∃ g, f = g + 1 := ⟨f - 1, by omega⟩
     have ii : (i : Int) < bb.size := by omega
     have h1 : pre2 acc (rd false (f + 1) (bb[i] :: bb.data.toList.drop (i + 1))) = rd false bb.data.toList.length bb.data.toList := by rw [<- drop_at hib]; exact H.out
     rw [zg4, if_neg (fun h => by cases h.1)] at h1
     clear H
     have hcl : (Lib.byteCells acc).length = acc.length := Lib.byteCells_length _
     have hzw := hbw.size
     by_cases hc : bb[i] = 92
     ·rw [if_neg (fun h => h hc)] at h1
      have tc : ((bb[i].toNat : Int) != 92) = false := by rw [bne_eq_false_iff_eq, hc]; rfl
      clear hc
      by_cases hi1 : i + 1 < bb.size
      ·rw [drop_at hi1] at h1
       dsimp only at h1
       have j1 : (i : Int) + 1 < bb.size := by omega
       have hd8 := bb[i + 1].toNat_lt
       have e34 : bb[i + 1] = 34 ↔ bb[i + 1].toNat = 34 := ⟨fun h => by rw [h]; rfl, fun h => UInt8.toNat_inj.1 h⟩
       have e92 : bb[i + 1] = 92 ↔ bb[i + 1].toNat = 92 := ⟨fun h => by rw [h]; rfl, fun h => UInt8.toNat_inj.1 h⟩
       have e110 : bb[i + 1] = 110 ↔ bb[i + 1].toNat = 110 := ⟨fun h => by rw [h]; rfl, fun h => UInt8.toNat_inj.1 h⟩
       have e120 : bb[i + 1] = 120 ↔ bb[i + 1].toNat = 120 := ⟨fun h => by rw [h]; rfl, fun h => UInt8.toNat_inj.1 h⟩
       by_cases h34 : bb[i + 1] = 34 \/ bb[i + 1] = 92
       ·rw [if_pos h34, zcd] at h1
        have H2 : Hid (Rd bb (acc ++ [bb[i + 1]]) f (i + 1 + 1)) := h1
        have td : (((bb[i + 1].toNat : Int) == 34) = true) \/ (((bb[i + 1].toNat : Int) == 34) = false /\ ((bb[i + 1].toNat : Int) == 92) = true) := by
         simp only [beq_iff_eq, beq_eq_false_iff_ne]; rw [e34, e92] at h34; omega
        clear h1 h34 e34 e92 e110 e120 hcl
        rcases td with td | ⟨td, td'⟩
        all_goals
         go_wp2_with (at_builtin; go_must (refine wpList_append_own _ rfl _ _ 61 rfl w.heap.size 5 i0 (.int .u8 0) 1 1 Tryz.underlying61 hi hz0 hz1 hz2 rfl (by decide) _ _ _ rfl (hown.alloc _) ⟨wr.heap.size, 0, none⟩ 1 1 [.int .u8 (bb[i + 1].toNat : Int)] rfl rfl (zej _ _ _) (zho _) (by unfold maxLen; omega) (by omega) (by simp; omega) ?_); intro v' w3 hown' hgrow3 hnil3)
         go_roundw
         case rel => exact ⟨i + 2, f, acc ++ [bb[i + 1]], zek hown', zcu hbw hzw hown hgrow3, by go_num, H2, by omega, by omega, by rw [List.length_append]; simp; omega⟩
         case measure => simp [intOf]; omega
       ·rw [if_neg h34] at h1
        have t34 : ((bb[i + 1].toNat : Int) == 34) = false := by rw [beq_eq_false_iff_ne]; rw [e34, e92] at h34; omega
        have t92 : ((bb[i + 1].toNat : Int) == 92) = false := by rw [beq_eq_false_iff_ne]; rw [e34, e92] at h34; omega
        by_cases h110 : bb[i + 1] = 110
        ·rw [if_pos h110, zcd] at h1
         have H2 : Hid (Rd bb (acc ++ [10]) f (i + 1 + 1)) := h1
         have t110 : ((bb[i + 1].toNat : Int) == 110) = true := by rw [beq_iff_eq]; rw [e110] at h110; omega
         clear h1 h34 h110 e34 e92 e110 e120 hcl
         go_wp2_with (at_builtin; go_must (refine wpList_append_own _ rfl _ _ 61 rfl w.heap.size 5 i0 (.int .u8 0) 1 1 Tryz.underlying61 hi hz0 hz1 hz2 rfl (by decide) _ _ _ rfl (hown.alloc _) ⟨wr.heap.size, 0, none⟩ 1 1 [.int .u8 (10 : Int)] rfl rfl (zej _ _ _) (zho _) (by unfold maxLen; omega) (by omega) (by simp; omega) ?_); intro v' w3 hown' hgrow3 hnil3)
         go_roundw
         case rel => exact ⟨i + 2, f, acc ++ [10], zek hown', zcu hbw hzw hown hgrow3, by go_num, H2, by omega, by omega, by rw [List.length_append]; simp; omega⟩
         case measure => simp [intOf]; omega
        ·rw [if_neg h110] at h1
         have t110 : ((bb[i + 1].toNat : Int) == 110) = false := by rw [beq_eq_false_iff_ne]; rw [e110] at h110; omega
         by_cases h120 : bb[i + 1] = 120
         ·rw [if_pos h120] at h1
          have t120 : ((bb[i + 1].toNat : Int) == 120) = true := by rw [beq_iff_eq]; rw [e120] at h120; omega
          clear h34 h110 h120 e34 e92 e110 e120 hcl
          by_cases hi3 : i + 3 < bb.size
          ·have j3 : (i : Int) + 3 < bb.size := by omega
           have j2 : (i : Int) + 2 < bb.size := by omega
           have hn2 : i + 2 < bb.size := by omega
           have hh8 := bb[i + 2].toNat_lt
           have hl8 := bb[i + 3].toNat_lt
           rw [drop_at (show i + 1 + 1 < bb.size by omega), drop_at (show i + 1 + 1 + 1 < bb.size by omega)] at h1
           have h1' : pre2 acc (rdX (rd false f) (bb[i + 2] :: bb[i + 3] :: bb.data.toList.drop (i + 4))) = rd false bb.data.toList.length bb.data.toList := h1
           clear h1
           have C1 := zh (fun W => zgI bb[i + 2].toNat (by omega) W)
           have C2 := zh (fun W => zgI bb[i + 3].toNat (by omega) W)
           cases ha : hexR bb[i + 2].toNat with
           | none =>
             have HN : Hid (none = zaA s.data.toList) := by
              show _ = _
              rw [rdX, ha] at h1'
              rw [HU.out, <- h1']; rfl
             rw [zgv ha] at C1
             clear ha h1' C2
             go_wp2_with fail
             refine (C1.out _).mono ?_
             rintro e w' ⟨rfl, rfl⟩
             go_wp2_with fail
             go_ret2
             exact ⟨zaJ HN.out, hbw⟩
           | some a =>
             obtain ⟨hea, ha16⟩ := zgu ha
             rw [hea] at C1
             cases hb : hexR bb[i + 3].toNat with
             | none =>
               have HN : Hid (none = zaA s.data.toList) := by
                show _ = _
                rw [rdX, ha] at h1'
                dsimp only at h1'
                rw [hb] at h1'
                rw [HU.out, <- h1']; rfl
               rw [zgv hb] at C2
               clear ha hb hea h1'
               go_wp2_with fail
               refine (C1.out _).mono ?_
               rintro e w' ⟨rfl, rfl⟩
               go_wp2_with fail
               refine (C2.out _).mono ?_
               rintro e w' ⟨rfl, rfl⟩
               go_wp2_with fail
               go_ret2
               exact ⟨zaJ HN.out, hbw⟩
             | some b =>
               obtain ⟨heb, hb16⟩ := zgu hb
               rw [heb] at C2
               rw [rdX, ha] at h1'
               dsimp only at h1'
               rw [hb] at h1'
               dsimp only at h1'
               rw [zcd] at h1'
               have H2 : Hid (Rd bb (acc ++ [(16 * a + b).toUInt8]) f (i + 4)) := h1'
               clear ha hb h1'
               have HEA := zh hea
               have HEB := zh heb
               clear hea heb
               go_wp2_with fail
               refine (C1.out _).mono ?_
               rintro e w' ⟨rfl, rfl⟩
               go_wp2_with fail
               refine (C2.out _).mono ?_
               rintro e w' ⟨rfl, rfl⟩
               go_wp2_with fail
               have HX : Hid (16 * (a : Int) + b = (((16 * a + b).toUInt8).toNat : Int)) := by
                show _ = _
                simp; omega
               have hea := HEA.out
               have heb := HEB.out
               have s1 : IntKind.i64.wrap ((i : Int) + 2) = (i : Int) + 2 := by rw [IntKind.wrap_i64]; omega
               have s2 : IntKind.i64.wrap ((i : Int) + 3) = (i : Int) + 3 := by rw [IntKind.wrap_i64]; omega
               have s3 : ((i : Int) + 2).toNat = i + 2 := by omega
               have s4 : ((i : Int) + 3).toNat = i + 3 := by omega
               have s5 : IntKind.i64.wrap (16 * (a : Int)) = 16 * (a : Int) := by rw [IntKind.wrap_i64]; omega
               have s6 : IntKind.i64.wrap (16 * (a : Int) + b) = 16 * (a : Int) + b := by rw [IntKind.wrap_i64]; omega
               have s7 : IntKind.u8.wrap (16 * (a : Int) + b) = 16 * (a : Int) + b := by rw [IntKind.wrap_u8]; omega
               have s8 : 0 <= (i : Int) + 2 := by omega
               have s9 : 0 <= (i : Int) + 3 := by omega
               go_region_law (first
                | (refine own_step rfl _ _ 61 rfl w.heap.size 5 i0 (.int .u8 0) 1 1 Tryz.underlying61 hi hz0 hz1 hz2 rfl (by decide) _ _ _ rfl (World.ownsRow.alloc (w := wr.drew) hown _) ⟨wr.heap.size, 0, none⟩ 1 1 [.int .u8 (16 * (a : Int) + b)] rfl rfl (zej _ _ _) (zho _) (by unfold maxLen; omega) (by omega) (by simp; omega) ?_; intro v' w3 hown' hgrow3)
                | (go_simp; refine (zgI _ (UInt8.toNat_lt _) _).mono ?_; rintro e w' ⟨rfl, rfl⟩))
               all_goals
                rw [HX.out] at hown'
                have ho3 := zek hown'
                have hb3 := zcu hbw.drew hzw hown hgrow3
                clear hgrow3 hown'
                try clear s1
                try clear s2
                try clear s5
                try clear s6
                try clear s7
                try clear hea
                try clear heb
                go_wp2
                go_roundw
                case rel => exact ⟨i + 4, f, acc ++ [(16 * a + b).toUInt8], ho3, hb3, by go_num, H2, by omega, by omega, by rw [List.length_append]; simp; omega⟩
                case measure => simp [intOf]; omega
          ·have HN : Hid (none = zaA s.data.toList) := by
            show _ = _
            have hlen : (bb.data.toList.drop (i + 1 + 1)).length < 2 := by rw [List.length_drop, <- HBL.out]; omega
            have hX : rdX (rd false f) (bb.data.toList.drop (i + 1 + 1)) = none := by
             match hq : bb.data.toList.drop (i + 1 + 1), hlen with
             | [], _ => rfl
             | [_], _ => rfl
            rw [hX] at h1
            rw [HU.out, <- h1]; rfl
           have j3 : (bb.size : Int) <= (i : Int) + 3 := by omega
           clear h1
           go_wp2
           go_ret2
           exact ⟨zaJ HN.out, hbw⟩
         ·rw [if_neg h120] at h1
          have HN : Hid (none = zaA s.data.toList) := by
           show _ = _
           rw [HU.out, <- h1]; rfl
          have t120 : ((bb[i + 1].toNat : Int) == 120) = false := by rw [beq_eq_false_iff_ne]; rw [e120] at h120; omega
          clear h1 h34 h110 h120 e34 e92 e110 e120 hcl
          go_wp2
          all_goals
           go_ret2
           exact ⟨zaJ HN.out, hbw⟩
      ·have HN : Hid (none = zaA s.data.toList) := by
        show _ = _
        rw [List.drop_eq_nil_of_le (by rw [<- HBL.out]; omega)] at h1
        rw [HU.out, <- h1]; rfl
       have j1 : (bb.size : Int) <= (i : Int) + 1 := by omega
       clear h1 hcl
       go_wp2
       go_ret2
       exact ⟨zaJ HN.out, hbw⟩
     ·rw [if_pos hc, zcd] at h1
      have H2 : Hid (Rd bb (acc ++ [bb[i]]) f (i + 1)) := h1
      have tc : ((bb[i].toNat : Int) != 92) = true := by
       rw [bne_iff_ne]; intro h; exact hc (UInt8.toNat_inj.1 (by show bb[i].toNat = 92; omega))
      clear h1 hc hcl
      go_wp2_with (at_builtin; go_must (refine wpList_append_own _ rfl _ _ 61 rfl w.heap.size 5 i0 (.int .u8 0) 1 1 Tryz.underlying61 hi hz0 hz1 hz2 rfl (by decide) _ _ _ rfl (hown.alloc _) ⟨wr.heap.size, 0, none⟩ 1 1 [.int .u8 (bb[i].toNat : Int)] rfl rfl (zej _ _ _) (zho _) (by unfold maxLen; omega) (by omega) (by simp; omega) ?_); intro v' w3 hown' hgrow3 hnil3)
      go_roundw
      case rel => exact ⟨i + 1, f, acc ++ [bb[i]], zek hown', zcu hbw hzw hown hgrow3, by go_num, H2, by omega, by omega, by rw [List.length_append]; simp; omega⟩
      case measure => simp [intOf]; omega
    ·have ii : (bb.size : Int) <= i := by omega
     have h1 : rd false bb.data.toList.length bb.data.toList = some (acc, []) := by
      rw [<- H.out, List.drop_eq_nil_of_le (by rw [<- HBL.out]; omega)]
      cases f <;> simp [rd, pre2]
     have hT := own_text hown
     have hq : zaA s.data.toList = if zau acc = s.data.toList then some acc else none := by rw [HU.out, h1]
     have CQ := zh (fun W => rquote_any ⟨acc.toArray⟩ W (by rw [Lib.size_eq]; show acc.length <= _; omega))
     clear h1 H
     by_cases hqe : zau acc = s.data.toList
     ·rw [if_pos hqe] at hq
      have HN := zh hq.symm
      have tq : (zau acc == s.toList) = true := by rw [beq_iff_eq, Lib.toList_data]; exact hqe
      clear hq hqe
      go_wp2_with fail
      refine (CQ.out _).mono ?_
      rintro e w2 ⟨rfl, b2⟩
      go_wp2_with fail
      go_ret2
      exact ⟨zet HN.out, hbw.trans (b2.mono hbw.size)⟩
     ·rw [if_neg hqe] at hq
      have HN := zh hq.symm
      have tq : (zau acc == s.toList) = false := by rw [beq_eq_false_iff_ne, Lib.toList_data]; exact hqe
      clear hq hqe
      go_wp2_with fail
      refine (CQ.out _).mono ?_
      rintro e w2 ⟨rfl, b2⟩
      go_wp2_with fail
      go_ret2
      exact ⟨zaJ HN.out, hbw.trans (b2.mono hbw.size)⟩
  ·have HN : Hid (none = zaA s.data.toList) := by
    show _ = _
    unfold zaA
    rw [if_pos]
    rw [<- HSZ.out, g0, g1, n1, n1]; omega
   have t0 : ((s[0].toNat : Int) != 34) = true \/ (((s[0].toNat : Int) != 34) = false /\ ((s[s.size - 1].toNat : Int) != 34) = true) := by
    simp only [bne_iff_ne, bne_eq_false_iff_eq]; omega
   clear g0 g1 n1 q
   go_enter Tryz.func71, Tryz.ntmps71
   rcases t0 with t | ⟨t, t'⟩
   all_goals
    go_wp2
    go_ret2
    exact ⟨zaJ HN.out, Below.refl _ _⟩
end Go.Proofs.YtbcemjhaecelnaaGreatDoor
end

section
namespace Go.Proofs.YtbcemjhaecelnaaGreatDoor
open Go.RowKit
theorem unquoteR_quote (t : List UInt8) : zaA (zau t) = some t := by
 unfold zaA
 rw [if_neg (zgV t), zgU]
 obtain ⟨f', _, e⟩ := rd_body false t [] (zbA t).length (by simp)
 rw [List.append_nil] at e
 rw [e]
 cases f' <;> simp [rd, pre2]
theorem unquoteR_some {q t : List UInt8} (h : zaA q = some t) : zau t = q := by
 unfold zaA at h
 split at h
 ·cases h
 ·split at h
  ·cases h
  ·split at h
   ·cases h; assumption
   ·cases h
theorem unquote_same (q : List UInt8) : zap q = zaA q := by
 cases h : zap q with
 | some t => rw [<- zcn h, unquoteR_quote]
 | none =>
   cases h2 : zaA q with
   | some t => rw [<- unquoteR_some h2, zcW] at h; cases h
   | none => rfl
end Go.Proofs.YtbcemjhaecelnaaGreatDoor
end
