import Derived.Test.YtbcemjhaecelnaaGreatDoorMg08
import Derived.Laws.OwnMore
import Derived.Deep.DeepMust
import Derived.BigQuiet
import Derived.Deep.QuietTactic
import Derived.Test.YtbcemjhaecelnaaGreatDoorMg30
import Derived.Test.YtbcemjhaecelnaaGreatDoorMg31
section
set_option maxHeartbeats 4000000
set_option maxRecDepth 100000
namespace Go.Proofs.YtbcemjhaecelnaaGreatDoor.Drd
open Go.RowKit
theorem zhr {B e n : Nat} {v : Value} {xs : List Value} {w : World} (h : w.ownsRow B e 1 v n xs) : (v = .slice none 0 0 /\ n = 0 /\ xs = []) \/ ∃ g cap, v = .slice (some ⟨g, 0, none⟩) n cap /\ B <= g /\ g < w.heap.size /\ n <= cap /\ cap <= maxLen /\ ∀ j u, xs[j]? = some u -> w.cell? ⟨g, j, none⟩ = some u := by
 have hl := h.1
 rcases h.2 with ⟨rfl, h0⟩ | ⟨g, cap, cur, rfl, hg, hh, hn, hcap, hsz, htake⟩
 ·subst h0
  exact .inl ⟨rfl, rfl, List.eq_nil_of_length_eq_zero (by simpa using hl)⟩
 ·refine .inr ⟨g, cap, rfl, hg, (Array.getElem?_eq_some_iff.1 hh).1, hn, hcap, fun j u hu => ?_⟩
  have hj : j < xs.length := (List.getElem?_eq_some_iff.1 hu).1
  rw [h.cellAt j (by omega), hu]
theorem zft (s : ByteArray) (w : World) (hs : s.size <= 1099511627776) :
 Calls Tryz.prog 40 #[.string s] w fun e w' => ziE (w.heap.size + 1) (zai s.data.toList) e w' /\ Below w.heap.size w w' := by
 obtain ⟨i0, hi, hz0, hz1, hz2⟩ := info_parts zex
 go_enter Tryz.func40, Tryz.ntmps40
 go_wp2
 go_loopw [3] (fun v wr => ∃ (pos : Nat) (xs : List Int), wr.heap[w.heap.size]? = some (.stringIter s pos) /\ wr.ownsRow (w.heap.size + 1) 21 1 v xs.length (xs.map (Value.int .i32)) /\ Below w.heap.size w wr /\ Hid (xs ++ zai (s.data.toList.drop pos) = zai s.data.toList) /\ xs.length <= pos /\ pos <= s.size) (fun _ wr => s.size - wr.iterPos w.heap.size)
 case atStart => exact ⟨0, [], World.iter_heap w s 0, World.ownsRow_nil _ _ _ _, (Below.refl _ _).alloc (Nat.le_refl _) _, (by show _ = _; simp), by simp, Nat.zero_le _⟩
 case round =>
  obtain ⟨pos, xs, hit, hown, hbw, H, hk, hps⟩ := hrel
  have hpos0 := zac hit
  by_cases hp : pos < s.size
  ·have hnx : ∀ ty, (Instr.next (.pointer (some ⟨w.heap.size, 0, none⟩)) true ty).run Tryz.prog wr = _ := fun ty => Lib.run_next_any_at wr w.heap.size s pos ty hit hp
   have hwd := zbT s pos
   have hwl := zbm hp
   have hit2 := Lib.iterAt_heap wr w.heap.size s pos (pos + (Utf8.decode s pos).2) hit
   have hbw2 := Lib.below_iterAt hbw (k := w.heap.size) (Nat.le_refl _) s (pos + (Utf8.decode s pos).2)
   have hown2 := zcc hown (k := w.heap.size) (by omega) s (pos + (Utf8.decode s pos).2)
   have H2 : Hid ((xs ++ [((Utf8.decode s pos).1 : Int)]) ++ zai (s.data.toList.drop (pos + (Utf8.decode s pos).2)) = zai s.data.toList) := by
    show _ = _
    rw [<- H.out, zdm hp]; simp
   obtain ⟨W1, hW1⟩ : ∃ W1, W1 = wr.iterAt w.heap.size s (pos + (Utf8.decode s pos).2) := ⟨_, rfl⟩
   rw [<- hW1] at hnx hit2 hbw2 hown2
   have hBlt : w.heap.size < W1.heap.size := (Array.getElem?_eq_some_iff.1 hit2).1
   clear hW1 hit hown hbw H
   go_wp2_with (at_builtin; go_must (refine wpList_append_own _ rfl _ _ 74 rfl (w.heap.size + 1) 21 i0 (.int .i32 0) 1 4 Tryz.underlying74 hi hz0 hz1 hz2 rfl (by decide) _ _ _ rfl (hown2.alloc _) ⟨W1.heap.size, 0, none⟩ 1 1 [.int .i32 ((Utf8.decode s pos).1 : Int)] rfl rfl (zi3 _ _ _) (zh9 _) (by unfold maxLen; omega) (by omega) (by simp; omega) ?_); intro v' w3 hown' hgrow3 hnil3)
   have hit3 : w3.heap[w.heap.size]? = some (.stringIter s (pos + (Utf8.decode s pos).2)) := by
    rw [hgrow3.block w.heap.size (by simp; omega) (fun h => by have := (hown2.lt _ h.symm).1; omega), Below.heap_alloc _ _ _ hBlt]; exact hit2
   have hbw3 : Below w.heap.size w w3 := Below.grown (hbw2.alloc (by omega) _) hgrow3 (by simp; omega) (fun j hj => by have := (hown2.lt _ hj).1; omega)
   have ho3 : w3.ownsRow (w.heap.size + 1) 21 1 v' (xs ++ [((Utf8.decode s pos).1 : Int)]).length ((xs ++ [((Utf8.decode s pos).1 : Int)]).map (Value.int .i32)) := by
    rw [List.length_append, List.map_append]; exact hown'
   clear hown' hgrow3 hnil3
   go_roundw
   case rel => exact ⟨pos + (Utf8.decode s pos).2, xs ++ [((Utf8.decode s pos).1 : Int)], hit3, ho3, hbw3, H2, by rw [List.length_append]; simp; omega, hwl⟩
   case measure => rw [zac hit3, hpos0]; omega
  ·have hnx : ∀ ty, (Instr.next (.pointer (some ⟨w.heap.size, 0, none⟩)) true ty).run Tryz.prog wr = _ := fun ty => Lib.run_next_end_at wr w.heap.size s pos ty hit hp
   have H2 : Hid (xs = zai s.data.toList) := by
    show _ = _
    rw [<- H.out, zc1 hp]; simp
   clear H
   go_wp2
   go_ret
   refine ⟨?_, hbw⟩
   rw [<- H2.out]
   exact ⟨_, rfl, hown⟩
theorem rkind_any (r : Int) (w : World) : Calls Tryz.prog 41 #[.int .i32 r] w fun e w' => e = .returned (.int .i64 (zaj r)) /\ w = w' := by
 go_enter Tryz.func41, Tryz.ntmps41
 go_wp2
 all_goals (go_ret; refine ⟨zb9 ?_, rfl⟩; first | rfl | skip)
 all_goals ((try simp only [beq_iff_eq, beq_eq_false_iff_ne] at *); unfold zaj; repeat' split)
 all_goals omega
theorem zeI : ∀ (xs : List Int) (n : Nat), n <= 30 -> 30 < n + xs.length -> zbw n xs = false
 | [], n, h, h2 => by simp at h2; omega
 | x :: xs, n, h, h2 => by
   unfold zbw
   split
   ·rfl
   ·next hn =>
    have : n ≠ 30 := fun e => hn (.inl e)
    exact zeI xs (n + 1) (by omega) (by simp at h2; omega)
theorem rname_any (s : ByteArray) (w : World) (hs : s.size <= 1099511627776) : Calls Tryz.prog 17 #[.string s] w fun e w' => e = .returned (.bool (zbz s.data.toList)) /\ Below w.heap.size w w' := by
 have CK := zh (fun r W => rkind_any r W)
 go_enter Tryz.func17, Tryz.ntmps17
 go_wp2_with fail
 refine (zft s _ hs).mono ?_
 rintro e w1 ⟨⟨v, rfl, hown⟩, hb1⟩
 obtain ⟨xs, hxs⟩ : ∃ xs, xs = zai s.data.toList := ⟨_, rfl⟩
 have HX := zh (show zbw 0 xs = zbz s.data.toList by rw [hxs]; rfl)
 rw [<- hxs] at hown
 clear hxs
 have HB := zh hb1
 obtain ⟨n, hn⟩ : ∃ n, xs.length = n := ⟨_, rfl⟩
 have HN := zh hn
 rw [hn] at hown
 clear hn hb1
 rcases zhr hown with ⟨rfl, h0, _⟩ | ⟨g, cap, rfl, _, _, hcap, hmax, hcell⟩
 ·subst h0
  have h0 : xs = [] := List.eq_nil_of_length_eq_zero HN.out
  have HR := zh (show false = zbz s.data.toList by rw [<- HX.out, h0]; rfl)
  clear h0 hown
  go_wp2
  go_ret
  exact ⟨zaY HR.out, HB.out⟩
 ·unfold maxLen at hmax
  by_cases hlo : n < 1
  ·have h0 : xs = [] := List.eq_nil_of_length_eq_zero (by rw [HN.out]; omega)
   have HR := zh (show false = zbz s.data.toList by rw [<- HX.out, h0]; rfl)
   have i1 : (n : Int) < 1 := by omega
   have t1 : decide ((n : Int) < 1) = true := by simpa using i1
   clear h0 hown hcell
   go_wp2
   go_ret
   exact ⟨zaY HR.out, HB.out⟩
  ·have i1 : (1 : Int) <= n := by omega
   have t1 : decide ((n : Int) < 1) = false := by simp; omega
   by_cases hhi : 30 < n
   ·have HR := zh (show false = zbz s.data.toList by rw [<- HX.out, zeI xs 0 (by omega) (by rw [HN.out]; omega)])
    have i2 : (30 : Int) < n := by omega
    have t2 : decide ((30 : Int) < n) = true := by simpa using i2
    clear hown hcell
    go_wp2
    go_ret
    exact ⟨zaY HR.out, HB.out⟩
   ·have i2 : (n : Int) <= 30 := by omega
    have t2 : decide ((30 : Int) < n) = false := by simp; omega
    have hx0 : ∀ k, k < n -> xs[k]? = some (xs.getD k 0) := fun k hk => by have := HN.out; simp [List.getD, show k < xs.length by omega]
    have hcx : ∀ k, k < n -> w1.cell? ⟨g, k, none⟩ = some (.int .i32 (xs.getD k 0)) := fun k hk => hcell k _ (by rw [List.getElem?_map, hx0 k hk]; rfl)
    have HCX := zh hcx
    have HX0 := zh hx0
    have c0 := hcx 0 (by omega)
    have hdrop : ∀ k, k < n -> xs.drop k = xs.getD k 0 :: xs.drop (k + 1) := fun k hk => by
     have := HN.out
     rw [List.drop_eq_getElem_cons (by omega)]; simp [List.getD, show k < xs.length by omega]
    have HD := zh hdrop
    clear hown hcell hx0 hcx hdrop
    by_cases hk1 : zaj (xs.getD 0 0) = 1
    ·have HK1 := zh hk1
     have t3 : (zaj (xs.getD 0 0) != 1) = false := by rw [hk1]; rfl
     obtain ⟨x0, hx0⟩ : ∃ x0, x0 = xs.getD 0 0 := ⟨_, rfl⟩
     rw [<- hx0] at c0 t3
     clear hk1 hx0
     go_wp2_with fail
     refine (CK.out _ _).mono ?_
     rintro e w2 ⟨rfl, rfl⟩
     go_wp2
     go_loopw [4] (fun vi wr => ∃ k : Nat, vi = .int .i64 k /\ wr = w1 /\ k <= n /\ Hid (zbw k (xs.drop k) = zbz s.data.toList)) (fun vi _ => n - (intOf vi).toNat)
     case atStart => exact ⟨0, rfl, rfl, Nat.zero_le _, by show _ = _; rw [List.drop_zero]; exact HX.out⟩
     case round =>
      obtain ⟨k, rfl, rfl, hk, H⟩ := hrel
      by_cases hkn : k < n
      ·have j1 : (k : Int) < n := by omega
       have ck := HCX.out k hkn
       have hd := HD.out k hkn
       have h0 := H.out
       rw [hd] at h0
       have hz0 : k = 0 -> zaj (xs.getD k 0) = 1 := fun e => by rw [e]; exact HK1.out
       generalize xs.getD k 0 = x at ck h0 hz0
       by_cases hx1 : zaj x = 1
       ·have H2 : Hid (zbw (k + 1) (xs.drop (k + 1)) = zbz s.data.toList) := by
         show _ = _
         rw [<- h0, zc2 _ _ _ (by omega)]
        have t4 : (zaj x != 1) = false := by rw [hx1]; rfl
        clear hx1 h0 hz0 hd
        go_wp2_with fail
        refine (CK.out _ _).mono ?_
        rintro e w2 ⟨rfl, rfl⟩
        go_wp2
        go_roundw
        case rel => exact ⟨k + 1, by go_num, (by first | trivial | rfl), by omega, H2⟩
        case measure => simp [intOf]; omega
       ·have t4 : (zaj x != 1) = true := by rw [bne_iff_ne]; exact hx1
        by_cases hx2 : zaj x = 2
        ·have H2 : Hid (zbw (k + 1) (xs.drop (k + 1)) = zbz s.data.toList) := by
          show _ = _
          rw [<- h0, zc2 _ _ _ (by omega)]
         have t5 : (zaj x != 2) = false := by rw [hx2]; rfl
         clear hx1 hx2 h0 hz0 hd
         go_wp2_with fail
         refine (CK.out _ _).mono ?_
         rintro e w2 ⟨rfl, rfl⟩
         go_wp2_with fail
         refine (CK.out _ _).mono ?_
         rintro e w2 ⟨rfl, rfl⟩
         go_wp2
         go_roundw
         case rel => exact ⟨k + 1, by go_num, (by first | trivial | rfl), by omega, H2⟩
         case measure => simp [intOf]; omega
        ·have HR := zh (show false = zbz s.data.toList by rw [<- h0, zea _ _ _ (by omega)])
         have t5 : (zaj x != 2) = true := by rw [bne_iff_ne]; exact hx2
         clear hx1 hx2 h0 hz0 hd
         go_wp2_with fail
         refine (CK.out _ _).mono ?_
         rintro e w2 ⟨rfl, rfl⟩
         go_wp2_with fail
         refine (CK.out _ _).mono ?_
         rintro e w2 ⟨rfl, rfl⟩
         go_wp2
         go_ret
         exact ⟨zaY HR.out, HB.out⟩
      ·have j1 : (n : Int) <= k := by omega
       have HR := zh (show true = zbz s.data.toList by
        rw [<- H.out, List.drop_eq_nil_of_le (by rw [HN.out]; omega)]
        unfold zbw; simp; omega)
       go_wp2
       go_ret
       exact ⟨zaY HR.out, HB.out⟩
    ·have HR := zh (show false = zbz s.data.toList by
      have hd := HD.out 0 (by omega)
      rw [List.drop_zero] at hd
      rw [<- HX.out, hd, zea _ _ _ (by omega)])
     have t3 : (zaj (xs.getD 0 0) != 1) = true := by rw [bne_iff_ne]; exact hk1
     obtain ⟨x0, hx0⟩ : ∃ x0, x0 = xs.getD 0 0 := ⟨_, rfl⟩
     rw [<- hx0] at c0 t3
     clear hk1 hx0
     go_wp2_with fail
     refine (CK.out _ _).mono ?_
     rintro e w2 ⟨rfl, rfl⟩
     go_wp2
     go_ret
     exact ⟨zaY HR.out, HB.out⟩
end Go.Proofs.YtbcemjhaecelnaaGreatDoor.Drd
end

section
set_option maxHeartbeats 4000000
set_option maxRecDepth 100000
namespace Go.Proofs.YtbcemjhaecelnaaGreatDoor.Drd
open Go.RowKit Go.Lib Par Sto
theorem spell_pos' (l : List UInt8) : ∀ r ∈ zai l, 0 <= r := fun r hr => by have := Pat.spell_ok l r hr; unfold Pat.okR at this; omega
theorem rcomp_any (s : ByteArray) (w : World) (hs : s.size <= 1000000) (hl : (zai s.data.toList).length <= 1000) :
 Calls Tryz.prog 158 #[.string s] w fun e w' => (∃ o : Option Addr, e = .returned (.pointer o) /\ (o = none ↔ Pat.readP (zai s.data.toList) = none)) /\ Below w.heap.size w w' := by
 refine (Dpt.compile_d s w hs hl (fun bp => Dpt.class_ok bp _ hl (spell_pos' _))).mono fun e w' q => ⟨?_, q.2⟩
 rw [<- Pat.raw_read]; exact q.1
theorem rspelt (s : ByteArray) (w : World) (hs : s.size <= 1000000) :
 Calls Tryz.prog 40 #[.string s] w fun e w' => (∃ o c, e = .returned (.slice o (zai s.data.toList).length c)) /\ Below w.heap.size w w' :=
 (zft s w (by omega)).mono fun e w' ⟨⟨v, he, h⟩, hb⟩ => ⟨by
  rcases zhr h with ⟨rfl, h0, _⟩ | ⟨g, cap, rfl, _⟩
  ·exact ⟨_, _, by rw [he, h0]⟩
  ·exact ⟨_, _, he⟩, hb⟩
theorem rmatcher_any (nm vl : ByteArray) (op : Int) (w : World) (h1 : nm.size <= 1000000) (h2 : vl.size <= 1000000) :
 Calls Tryz.prog 139 #[.agg #[.string nm, .int .i64 op, .string vl]] w fun e w' => e = .returned (.bool (matB (nm, op, vl))) /\ Below w.heap.size w w' := by
 have HB := zh ((Below.refl w.heap.size w).alloc (Nat.le_refl _) (Obj.cells #[.string nm, .int .i64 op, .string vl] 40))
 have HRD := zh (fun W (h : Below (w.heap.size + 1) (w.alloc (Obj.cells #[.string nm, .int .i64 op, .string vl] 40)) W) => (zav (show W.heap[w.heap.size]? = some (.cells #[.string nm, .int .i64 op, .string vl] 40 (0, 0)) from (h.block _ (by omega)).trans Array.getElem?_push_size)).1)
 have CN := zh (fun W => rname_any nm W (by omega))
 obtain ⟨r, hr⟩ : ∃ r, matB (nm, op, vl) = r := ⟨_, rfl⟩
 rw [hr]
 unfold matB at hr
 dsimp only at hr
 obtain ⟨b, hb⟩ : ∃ b, zbz nm.data.toList = b := ⟨_, rfl⟩
 rw [hb] at CN hr
 clear hb
 cases b with
 | false =>
   obtain rfl : false = r := by rw [<- hr]; rfl
   clear hr h1 h2
   go_enter Tryz.func139, Tryz.ntmps139
   go_wp2_with fail
   refine (CN.out _).mono ?_
   rintro e w1 ⟨rfl, b1⟩
   have B1 := zh (HB.out.trans (b1.mono HB.out.size))
   clear b1
   go_wp2
   go_ret
   exact ⟨rfl, B1.out⟩
 | true =>
 rw [Bool.true_and] at hr
 by_cases hlo : op < 1
 ·obtain rfl : false = r := by rw [<- hr]; simp; omega
  clear hr h1 h2
  go_enter Tryz.func139, Tryz.ntmps139
  go_wp2_with fail
  refine (CN.out _).mono ?_
  rintro e w1 ⟨rfl, b1⟩
  have B1 := zh (HB.out.trans (b1.mono HB.out.size))
  obtain ⟨p0, p1, p2⟩ := HRD.out w1 (b1.mono (by simp))
  clear b1
  go_wp2
  go_ret
  exact ⟨rfl, B1.out⟩
 by_cases hhi : op > 4
 ·obtain rfl : false = r := by rw [<- hr]; simp; omega
  clear hr h1 h2
  go_enter Tryz.func139, Tryz.ntmps139
  go_wp2_with fail
  refine (CN.out _).mono ?_
  rintro e w1 ⟨rfl, b1⟩
  have B1 := zh (HB.out.trans (b1.mono HB.out.size))
  obtain ⟨p0, p1, p2⟩ := HRD.out w1 (b1.mono (by simp))
  clear b1
  go_wp2
  go_ret
  exact ⟨rfl, B1.out⟩
 by_cases h3 : op < 3
 ·obtain rfl : true = r := by rw [<- hr]; simp; omega
  clear hr h1 h2
  go_enter Tryz.func139, Tryz.ntmps139
  go_wp2_with fail
  refine (CN.out _).mono ?_
  rintro e w1 ⟨rfl, b1⟩
  have B1 := zh (HB.out.trans (b1.mono HB.out.size))
  obtain ⟨p0, p1, p2⟩ := HRD.out w1 (b1.mono (by simp))
  clear b1
  go_wp2
  go_ret
  exact ⟨rfl, B1.out⟩
 have CSP := zh (fun W => rspelt vl W h2)
 have hr2 : (patO vl).isSome = r := by
  rw [<- hr]
  rcases (show op = 3 \/ op = 4 by omega) with e | e <;> simp [e]
 unfold patO at hr2
 obtain ⟨k, hk⟩ : ∃ k, (zai vl.data.toList).length = k := ⟨_, rfl⟩
 rw [hk] at CSP hr2
 by_cases h40 : 40 < k
 ·rw [if_pos h40] at hr2
  obtain rfl : false = r := hr2
  have i1 : ¬ (k : Int) <= 40 := by omega
  clear hr h1 h2 hk
  go_enter Tryz.func139, Tryz.ntmps139
  go_wp2_with fail
  refine (CN.out _).mono ?_
  rintro e w1 ⟨rfl, b1⟩
  have B1 := zh (HB.out.trans (b1.mono HB.out.size))
  obtain ⟨p0, p1, p2⟩ := HRD.out w1 (b1.mono (by simp))
  clear b1
  go_wp2_with fail
  refine (CSP.out _).mono ?_
  rintro e w2 ⟨⟨o, c, rfl⟩, b2⟩
  have B2 := zh (B1.out.trans (b2.mono B1.out.size))
  clear b2
  go_wp2
  go_ret
  exact ⟨by show Ending.returned (Value.bool (decide (op < 3))) = _; rw [decide_eq_false (by omega : ¬ op < 3)], B2.out⟩
 ·rw [if_neg h40] at hr2
  have i1 : (k : Int) <= 40 := by omega
  have CC := zh (fun W => rcomp_any vl W h2 (by rw [hk]; omega))
  have HR2 := zh hr2
  clear hr h1 h2 hk hr2
  go_enter Tryz.func139, Tryz.ntmps139
  go_wp2_with fail
  refine (CN.out _).mono ?_
  rintro e w1 ⟨rfl, b1⟩
  have B1 := zh (HB.out.trans (b1.mono HB.out.size))
  have HX1 := zh (show Below (w.heap.size + 1) (w.alloc (Obj.cells #[.string nm, .int .i64 op, .string vl] 40)) w1 from b1.mono (by simp))
  obtain ⟨p0, p1, p2⟩ := HRD.out w1 HX1.out
  clear b1
  go_wp2_with fail
  refine (CSP.out _).mono ?_
  rintro e w2 ⟨⟨o, c, rfl⟩, b2⟩
  have B2 := zh (B1.out.trans (b2.mono B1.out.size))
  clear p0 p1 p2
  obtain ⟨p0, p1, p2⟩ := HRD.out w2 (HX1.out.trans (b2.mono (by have := HX1.out.size; simp at this; exact this)))
  clear b2
  go_wp2_with fail
  refine (CC.out _).mono ?_
  rintro e w3 ⟨⟨o2, rfl, ho⟩, b3⟩
  have B3 := zh (B2.out.trans (b3.mono B2.out.size))
  clear b3
  cases o2 with
  | none =>
    have hn := ho.1 rfl
    obtain rfl : false = r := by rw [<- HR2.out, hn]; rfl
    clear ho hn
    go_wp2
    go_ret
    exact ⟨by show Ending.returned (Value.bool (decide (op < 3))) = _; rw [decide_eq_false (by omega : ¬ op < 3)], B3.out⟩
  | some ad =>
    obtain rfl : true = r := by
     rw [<- HR2.out]
     cases hq : Pat.readP (zai vl.data.toList) with
     | none => exact absurd (ho.2 hq) (by simp)
     | some _ => rfl
    clear ho
    go_wp2
    go_ret
    exact ⟨rfl, B3.out⟩
theorem seesR_at {w : World} {P : Nat -> Prop} {o : Option Addr} {k : Nat} {rows : List (List Value)} (h : za2 w P o k rows) {j : Nat} {cs : List Value} (hj : rows[j]? = some cs) : ∃ b off, o = some ⟨b, off, none⟩ /\ b < w.heap.size /\ ∀ (i : Nat) v, cs[i]? = some v -> w.cell? ⟨b, off + j * k + i, none⟩ = some v := by
 rcases h with h | ⟨b, off, rfl, _, hl, hs⟩
 ·rw [h] at hj; simp at hj
 ·exact ⟨b, off, rfl, hl, hs j cs hj⟩
theorem rmatchers_any (o : Option Addr) (n c : Nat) (ms : List Mat) (P : Nat -> Prop) (w : World) (hn : ms.length = n) (hm : n <= 1000000) (hok : ∀ m ∈ ms, m.1.size <= 1000000 /\ m.2.2.size <= 1000000) (S : za2 w P o 3 (ms.map encM)) :
 Calls Tryz.prog 116 #[.slice o n c] w fun e w' => e = .returned (.bool (zbt ms)) /\ Below w.heap.size w w' := by
 have HN := zh hn
 have HS := zh S
 have HOK := zh hok
 obtain ⟨R, hR⟩ : ∃ R, zbt ms = R := ⟨_, rfl⟩
 rw [hR]
 have HRR := zh hR
 clear hn S hok hR
 go_enter Tryz.func116, Tryz.ntmps116
 go_wp2
 go_loopw [3] (fun v wr => ∃ k : Nat, v = .int .i64 k /\ k <= n /\ Hid ((ms.take k).all matB = true) /\ Hid (Below w.heap.size w wr)) (fun v _ => n - (Go.RowKit.intOf v).toNat)
 case atStart => exact ⟨0, rfl, Nat.zero_le _, rfl, Below.refl _ _⟩
 case round =>
  obtain ⟨k, rfl, hkk, HA, HB⟩ := hrel
  by_cases hlt : k < n
  ·have j1 : (k : Int) < n := by omega
   obtain ⟨x, hx⟩ : ∃ x, ms[k]? = some x := ⟨_, List.getElem?_eq_getElem (by rw [HN.out]; exact hlt)⟩
   obtain ⟨bb, off, rfl, hl1, hc1⟩ := seesR_at HS.out (j := k) (cs := encM x) (by rw [List.getElem?_map, hx]; rfl)
   have c0 := (HB.out.cell (p := ⟨bb, off + k * 3 + 0, none⟩) hl1).trans (hc1 0 _ rfl)
   have c1 := (HB.out.cell (p := ⟨bb, off + k * 3 + 1, none⟩) hl1).trans (hc1 1 _ rfl)
   have c2 := (HB.out.cell (p := ⟨bb, off + k * 3 + 2, none⟩) hl1).trans (hc1 2 _ rfl)
   simp only [Nat.add_zero] at c0
   obtain ⟨nm, op, vl⟩ := x
   have hxx := HOK.out _ (List.mem_of_getElem? hx)
   have HM := zh (rmatcher_any nm vl op wr hxx.1 hxx.2)
   have HX := zh hx
   obtain ⟨r, hr⟩ : ∃ r, matB (nm, op, vl) = r := ⟨_, rfl⟩
   rw [hr] at HM
   have HR := zh hr
   clear hc1 hx hxx hr
   go_wp2_with fail
   refine HM.out.mono ?_
   rintro e w2 ⟨rfl, b2⟩
   have HB2 := zh (HB.out.trans (b2.mono HB.out.size))
   clear b2
   cases r with
   | true =>
     have HA2 := zh (show (ms.take (k + 1)).all matB = true by
      rw [List.take_add_one, HX.out, Option.toList_some, List.all_append, HA.out]
      simp [HR.out])
     go_wp2
     go_roundw
     case rel => exact ⟨k + 1, by go_num, by omega, HA2, HB2⟩
     case measure => simp [Go.RowKit.intOf]; omega
   | false =>
     have HF := zh (show zbt ms = false by
      unfold zbt
      rw [Bool.and_eq_false_iff]
      refine .inr ?_
      rw [List.all_eq_false]
      exact ⟨_, List.mem_of_getElem? HX.out, by rw [HR.out]; simp⟩)
     go_wp2
     go_ret
     rw [<- HRR.out, HF.out]
     exact ⟨rfl, HB2.out⟩
  ·have j1 : ¬ (k : Int) < n := by omega
   have HF := zh (show zbt ms = decide (n <= 10) by
    unfold zbt
    have h := HA.out
    rw [List.take_of_length_le (by rw [HN.out]; omega)] at h
    rw [h, HN.out, Bool.and_true])
   by_cases h10 : n <= 10
   ·have j2 : (n : Int) <= 10 := by omega
    obtain rfl : true = R := by rw [<- HRR.out, HF.out, decide_eq_true h10]
    clear h10
    go_wp2
    go_ret
    exact ⟨rfl, HB.out⟩
   ·have j2 : ¬ (n : Int) <= 10 := by omega
    obtain rfl : false = R := by rw [<- HRR.out, HF.out, decide_eq_false h10]
    clear h10
    go_wp2
    go_ret
    exact ⟨rfl, HB.out⟩
end Go.Proofs.YtbcemjhaecelnaaGreatDoor.Drd
end
