import Derived.Test.YtbcemjhaecelnaaGreatDoorMg19
section
set_option maxHeartbeats 4000000
set_option maxRecDepth 100000
section
namespace Go.Proofs.YtbcemjhaecelnaaGreatDoor.Par
open Go.RowKit Go.Lib
open Go.Proofs.YtbcemjhaecelnaaGreatDoor.Sto
theorem za2.grown {w w' : World} {P : Nat -> Prop} {o : Option Addr} {k bd : Nat} {rows : List (List Value)} (h : za2 w P o k rows) (hg : w.grownBy w' (some bd)) (hP : ∀ b, P b -> b ≠ bd) : za2 w' P o k rows :=
 h.keep fun b hb hl => ⟨hg.block b hl (by simpa using hP b hb), hb⟩
theorem number_any (bd : Nat) (l : List Tq) (k : Nat) (hk : k = 2 \/ k = 4) (w : World) (h : Rd w bd l) :
 Calls Tryz.prog 68 #[.pointer (some ⟨bd, 0, none⟩), .int .i64 (k : Nat)] w (zi8 w bd (numP k l)) := by
 cases hi : isK k l with
 | true =>
   obtain ⟨x, m, rfl, hx⟩ := zaN hi
   rw [show numP k (x :: m) = some (valL x.2, m) by show (if x.1 = k then _ else none) = _; rw [if_pos hx]]
   exact (zcN bd x m k hx hk w h).mono fun e w' q => q
 | false =>
   rw [show numP k l = none by
    cases l with
    | nil => rfl
    | cons x m => show (if x.1 = k then _ else none) = _; rw [if_neg]; simpa [isK] using hi]
   exact (zdx bd l k hi w h).mono fun e w' q => ⟨⟨0, q.1⟩, q.2.2⟩
theorem agg_plain (n : Nat) (hC : zdg n) (s : ByteArray) (hs : zdv s.data.toList = false) (l m : List Tq) (mode : Nat) (names : List ByteArray) (hm : zbu wBy za0 l = some ((mode, names), m)) (hp : isT 5 [40] m = true) (hl : 9 * m.tail.length + 8 <= n) (w : World) (bd : Nat) (h : Rd w bd l) (T : Option (Ex × List Tq))
 (hT : T = (zan n m.tail).map fun p => (.agg s 0 mode names p.1, p.2)) :
 Calls Tryz.prog 131 #[.pointer (some ⟨bd, 0, none⟩), .string s] w (Res w bd T) := by
 have hfar := h.lt
 have HB := zh (zal w (.string ⟨#[]⟩) (.string ⟨#[]⟩) (.int .i64 0) (.int .i64 0) (.slice none 0 0) (.slice none 0 0) (.slice none 0 0))
 have HG := zh (grown_alloc (grown_refl w (some bd)) (Obj.cells #[.string ⟨#[]⟩, .string ⟨#[]⟩, .int .i64 0, .int .i64 0, .slice none 0 0, .slice none 0 0, .slice none 0 0] 27))
 have HM := zh (zeh bd l ⟨#[98, 121]⟩ ⟨#[119, 105, 116, 104, 111, 117, 116]⟩ _ (h.alloc (Obj.cells #[.string ⟨#[]⟩, .string ⟨#[]⟩, .int .i64 0, .int .i64 0, .slice none 0 0, .slice none 0 0, .slice none 0 0] 27)))
 rw [show (⟨#[98, 121]⟩ : ByteArray).data.toList = wBy from rfl, show (⟨#[119, 105, 116, 104, 111, 117, 116]⟩ : ByteArray).data.toList = za0 from rfl, hm] at HM
 have HP := zh (fun W (hr : Rd W bd m) => za9 bd m ⟨#[40]⟩ hp W hr)
 have HNB := zh (fun W => zeg s W)
 rw [hs] at HNB
 have HCC := zh (hC m.tail hl)
 have HTT := zh hT
 generalize zan n m.tail = r at HCC HTT
 generalize m.tail = l1 at HP HCC
 clear h hC hs hm hp hl hT
 go_enter Tryz.func131, Tryz.ntmps131
 go_wp2_with fail
 refine HM.out.mono ?_
 rintro e w1 ⟨⟨on, kn, cn, rfl, hkn, hsn⟩, hr1, hg1⟩
 have HB1 := zh (zaa HB.out hg1 (by omega))
 have HG1 := zh (grown_trans HG.out hg1)
 have HS1 := zh (hsn.keep (w' := w1) (Q := fun b => w.heap.size < b) (fun b hb _ => ⟨rfl, by simp at hb; omega⟩))
 have HKN := zh hkn
 have hsz1 : w.heap.size < w1.heap.size := Nat.lt_of_lt_of_le (by simp) hg1.size
 have HPP := zh (HP.out w1 hr1)
 clear hr1 hg1 hsn hkn
 go_wp2_with fail
 refine HPP.out.mono ?_
 rintro e w2 ⟨rfl, hr2, hg2⟩
 have HB2 := zh (zaa HB1.out hg2 (by omega))
 have HG2 := zh (grown_trans HG1.out hg2)
 have HS2 := zh (HS1.out.grown hg2 (fun b hb => by omega))
 have HR2 := zh hr2
 have hsz2 : w.heap.size < w2.heap.size := Nat.lt_of_lt_of_le hsz1 hg2.size
 clear hr2 hg2
 go_wp2_with fail
 refine (HNB.out w2).mono ?_
 rintro e w2' ⟨rfl, rfl⟩
 have HCW := zh (HCC.out w2 bd HR2.out)
 go_wp2_with fail
 refine HCW.out.mono ?_
 intro e w3 hres
 have HRES := zh hres
 have HB3 := zh (show Box7 w3 w.heap.size (.string ⟨#[]⟩) (.string ⟨#[]⟩) (.int .i64 0) (.int .i64 0) (.slice none 0 0) (.slice none 0 0) (.slice none 0 0) from zaa HB2.out hres.wide (by omega))
 have HS3 := zh (HS2.out.grown hres.wide (fun b hb => by omega))
 have hsz3 := hres.wide.size
 obtain ⟨a, b, z, zm, o1, k1, c1, o2, k2, c2, o3, k3, c3, rfl⟩ := hres.shape
 clear hres
 obtain ⟨⟨q0, q1, q2, q3, q4, q5, q6⟩, f0, f1, f2, f3, f4, f5, f6⟩ := HB3.out.reads
 have hrb : w.heap.size < w3.heap.size := by omega
 go_wp2
 refine bodyPost_ret (v := .tuple #[.agg #[.string ⟨#[97, 103, 103]⟩, .string s, .int .i64 ((0 : Nat) : Int), .int .i64 (mode : Nat), .slice on kn cn, .slice none 0 0, .slice (some ⟨w3.heap.size + 1, 0, none⟩) 1 1], .bool r.isSome]) (by simp [results, Tryz.results131, go_sem, q0, q1, q2, q3, q4, q5, q6, hrb]) rfl ?_
 rw [HTT.out]
 exact zfJ HRES.out HG2.out rfl hsz2 hfar (Ex.agg s 0 mode names) ⟨#[97, 103, 103]⟩ s 0 mode names on kn cn (fun _ => ⟨rfl, rfl, rfl, rfl, rfl, rfl, rfl⟩) HKN.out HS3.out _ _ _ _ _ _ _
theorem agg_numb (n : Nat) (hC : zdg n) (s : ByteArray) (hs : zdv s.data.toList = true) (l m m2 : List Tq) (mode kk : Nat) (names : List ByteArray) (hm : zbu wBy za0 l = some ((mode, names), m)) (hp : isT 5 [40] m = true) (hk : numP 2 m.tail = some (kk, m2)) (hc : isT 5 [44] m2 = true) (hl : 9 * m2.tail.length + 8 <= n) (w : World) (bd : Nat) (h : Rd w bd l) (T : Option (Ex × List Tq))
 (hT : T = (zan n m2.tail).map fun p => (.agg s kk mode names p.1, p.2)) :
 Calls Tryz.prog 131 #[.pointer (some ⟨bd, 0, none⟩), .string s] w (Res w bd T) := by
 have hfar := h.lt
 have HB := zh (zal w (.string ⟨#[]⟩) (.string ⟨#[]⟩) (.int .i64 0) (.int .i64 0) (.slice none 0 0) (.slice none 0 0) (.slice none 0 0))
 have HG := zh (grown_alloc (grown_refl w (some bd)) (Obj.cells #[.string ⟨#[]⟩, .string ⟨#[]⟩, .int .i64 0, .int .i64 0, .slice none 0 0, .slice none 0 0, .slice none 0 0] 27))
 have HM := zh (zeh bd l ⟨#[98, 121]⟩ ⟨#[119, 105, 116, 104, 111, 117, 116]⟩ _ (h.alloc (Obj.cells #[.string ⟨#[]⟩, .string ⟨#[]⟩, .int .i64 0, .int .i64 0, .slice none 0 0, .slice none 0 0, .slice none 0 0] 27)))
 rw [show (⟨#[98, 121]⟩ : ByteArray).data.toList = wBy from rfl, show (⟨#[119, 105, 116, 104, 111, 117, 116]⟩ : ByteArray).data.toList = za0 from rfl, hm] at HM
 have HP := zh (fun W (hr : Rd W bd m) => za9 bd m ⟨#[40]⟩ hp W hr)
 have HNB := zh (fun W => zeg s W)
 rw [hs] at HNB
 have HK := zh (fun W (hr : Rd W bd m.tail) => number_any bd m.tail 2 (.inl rfl) W hr)
 rw [hk] at HK
 have HCM := zh (fun W (hr : Rd W bd m2) => za9 bd m2 ⟨#[44]⟩ hc W hr)
 have HCC := zh (hC m2.tail hl)
 have HTT := zh hT
 generalize zan n m2.tail = r at HCC HTT
 generalize m2.tail = l2 at HCM HCC
 generalize m.tail = l1 at HP HK
 clear h hC hs hm hp hl hT hk hc
 go_enter Tryz.func131, Tryz.ntmps131
 go_wp2_with fail
 refine HM.out.mono ?_
 rintro e w1 ⟨⟨on, kn, cn, rfl, hkn, hsn⟩, hr1, hg1⟩
 have HB1 := zh (zaa HB.out hg1 (by omega))
 have HG1 := zh (grown_trans HG.out hg1)
 have HS1 := zh (hsn.keep (w' := w1) (Q := fun b => w.heap.size < b) (fun b hb _ => ⟨rfl, by simp at hb; omega⟩))
 have HKN := zh hkn
 have hsz1 : w.heap.size < w1.heap.size := Nat.lt_of_lt_of_le (by simp) hg1.size
 have HPP := zh (HP.out w1 hr1)
 clear hr1 hg1 hsn hkn
 go_wp2_with fail
 refine HPP.out.mono ?_
 rintro e w2 ⟨rfl, hr2, hg2⟩
 have HB2 := zh (zaa HB1.out hg2 (by omega))
 have HG2 := zh (grown_trans HG1.out hg2)
 have HS2 := zh (HS1.out.grown hg2 (fun b hb => by omega))
 have HKW := zh (HK.out w2 hr2)
 have hsz2 : w.heap.size < w2.heap.size := Nat.lt_of_lt_of_le hsz1 hg2.size
 clear hr2 hg2
 go_wp2_with fail
 refine (HNB.out w2).mono ?_
 rintro e w2' ⟨rfl, rfl⟩
 go_wp2_with fail
 refine HKW.out.mono ?_
 rintro e w4 ⟨rfl, hr4, hg4⟩
 have HB4 := zh (zaa HB2.out hg4 (by omega))
 have HG4 := zh (grown_trans HG2.out hg4)
 have HS4 := zh (HS2.out.grown hg4 (fun b hb => by omega))
 have HCMW := zh (HCM.out w4 hr4)
 have hsz4 : w.heap.size < w4.heap.size := Nat.lt_of_lt_of_le hsz2 hg4.size
 clear hr4 hg4
 go_wp2_with fail
 refine HCMW.out.mono ?_
 rintro e w5 ⟨rfl, hr5, hg5⟩
 have HB5 := zh (zaa HB4.out hg5 (by omega))
 have HG5 := zh (grown_trans HG4.out hg5)
 have HS5 := zh (HS4.out.grown hg5 (fun b hb => by omega))
 have HCW := zh (HCC.out w5 bd hr5)
 have hsz5 : w.heap.size < w5.heap.size := Nat.lt_of_lt_of_le hsz4 hg5.size
 clear hr5 hg5
 go_wp2_with fail
 refine HCW.out.mono ?_
 intro e w3 hres
 have HRES := zh hres
 have HB3 := zh (show Box7 w3 w.heap.size (.string ⟨#[]⟩) (.string ⟨#[]⟩) (.int .i64 0) (.int .i64 0) (.slice none 0 0) (.slice none 0 0) (.slice none 0 0) from zaa HB5.out hres.wide (by omega))
 have HS3 := zh (HS5.out.grown hres.wide (fun b hb => by omega))
 have hsz3 := hres.wide.size
 obtain ⟨a, b, z, zm, o1, k1, c1, o2, k2, c2, o3, k3, c3, rfl⟩ := hres.shape
 clear hres
 obtain ⟨⟨q0, q1, q2, q3, q4, q5, q6⟩, f0, f1, f2, f3, f4, f5, f6⟩ := HB3.out.reads
 have hrb : w.heap.size < w3.heap.size := by omega
 go_wp2
 refine bodyPost_ret (v := .tuple #[.agg #[.string ⟨#[97, 103, 103]⟩, .string s, .int .i64 (kk : Nat), .int .i64 (mode : Nat), .slice on kn cn, .slice none 0 0, .slice (some ⟨w3.heap.size + 1, 0, none⟩) 1 1], .bool r.isSome]) (by simp [results, Tryz.results131, go_sem, q0, q1, q2, q3, q4, q5, q6, hrb]) rfl ?_
 rw [HTT.out]
 exact zfJ HRES.out HG5.out rfl hsz5 hfar (Ex.agg s kk mode names) ⟨#[97, 103, 103]⟩ s kk mode names on kn cn (fun _ => ⟨rfl, rfl, rfl, rfl, rfl, rfl, rfl⟩) HKN.out HS3.out _ _ _ _ _ _ _
theorem ze9 (s : ByteArray) (l : List Tq) (w : World) (bd : Nat) (h : Rd w bd l)
 (hb : zbu wBy za0 l = none \/ ∃ mode names m, zbu wBy za0 l = some ((mode, names), m) /\ (isT 5 [40] m = false \/ (isT 5 [40] m = true /\ zdv s.data.toList = true /\ (numP 2 m.tail = none \/ ∃ kk m2, numP 2 m.tail = some (kk, m2) /\ isT 5 [44] m2 = false)))) :
 Calls Tryz.prog 131 #[.pointer (some ⟨bd, 0, none⟩), .string s] w (Res w bd none) := by
 have hfar := h.lt
 have HB := zh (zal w (.string ⟨#[]⟩) (.string ⟨#[]⟩) (.int .i64 0) (.int .i64 0) (.slice none 0 0) (.slice none 0 0) (.slice none 0 0))
 have HG := zh (grown_alloc (grown_refl w (some bd)) (Obj.cells #[.string ⟨#[]⟩, .string ⟨#[]⟩, .int .i64 0, .int .i64 0, .slice none 0 0, .slice none 0 0, .slice none 0 0] 27))
 have HM := zh (zeh bd l ⟨#[98, 121]⟩ ⟨#[119, 105, 116, 104, 111, 117, 116]⟩ _ (h.alloc (Obj.cells #[.string ⟨#[]⟩, .string ⟨#[]⟩, .int .i64 0, .int .i64 0, .slice none 0 0, .slice none 0 0, .slice none 0 0] 27)))
 rw [show (⟨#[98, 121]⟩ : ByteArray).data.toList = wBy from rfl, show (⟨#[119, 105, 116, 104, 111, 117, 116]⟩ : ByteArray).data.toList = za0 from rfl] at HM
 have HEND := zh (fun (W : World) (hW : w.grownBy W (some bd)) (a b c d e f g : Value) => (show Res w bd none (.returned (.tuple #[.agg #[.string ⟨#[]⟩, .string ⟨#[]⟩, .int .i64 0, .int .i64 0, .slice none 0 0, .slice none 0 0, .slice none 0 0], .bool false])) (put7 W w.heap.size a b c d e f g) from ⟨_, rfl, zbX, zaf hW (Nat.le_refl _) _ _ _ _ _ _ _⟩))
 rcases hb with hm | ⟨mode, names, m, hm, hb⟩
 ·rw [hm] at HM
  clear h hm
  go_enter Tryz.func131, Tryz.ntmps131
  go_wp2_with fail
  refine HM.out.mono ?_
  rintro e w1 ⟨⟨zm, on, kn, cn, rfl⟩, hg1⟩
  have HB1 := zh (show Box7 w1 w.heap.size (.string ⟨#[]⟩) (.string ⟨#[]⟩) (.int .i64 0) (.int .i64 0) (.slice none 0 0) (.slice none 0 0) (.slice none 0 0) from zaa HB.out hg1 (by omega))
  have HG1 := zh (grown_trans HG.out hg1)
  clear hg1
  obtain ⟨⟨q0, q1, q2, q3, q4, q5, q6⟩, f0, f1, f2, f3, f4, f5, f6⟩ := HB1.out.reads
  go_wp2
  refine bodyPost_ret (v := .tuple #[.agg #[.string ⟨#[]⟩, .string ⟨#[]⟩, .int .i64 0, .int .i64 0, .slice none 0 0, .slice none 0 0, .slice none 0 0], .bool false]) (by simp [results, Tryz.results131, go_sem, q0, q1, q2, q3, q4, q5, q6]) rfl ?_
  exact HEND.out _ HG1.out _ _ _ _ _ _ _
 ·rw [hm] at HM
  rcases hb with hp | ⟨hp, hs, hb⟩
  ·have HP := zh (fun W (hr : Rd W bd m) => zbY bd m ⟨#[40]⟩ hp W hr)
   clear h hm hp
   go_enter Tryz.func131, Tryz.ntmps131
   go_wp2_with fail
   refine HM.out.mono ?_
   rintro e w1 ⟨⟨on, kn, cn, rfl, hkn, hsn⟩, hr1, hg1⟩
   have HB1 := zh (zaa HB.out hg1 (by omega))
   have HG1 := zh (grown_trans HG.out hg1)
   have HPP := zh (HP.out w1 hr1)
   clear hr1 hg1 hsn hkn
   go_wp2_with fail
   refine HPP.out.mono ?_
   rintro e w2 ⟨rfl, _, hg2⟩
   have HB2 := zh (show Box7 w2 w.heap.size (.string ⟨#[]⟩) (.string ⟨#[]⟩) (.int .i64 0) (.int .i64 0) (.slice none 0 0) (.slice none 0 0) (.slice none 0 0) from zaa HB1.out hg2 (by omega))
   have HG2 := zh (grown_trans HG1.out hg2)
   clear hg2
   obtain ⟨⟨q0, q1, q2, q3, q4, q5, q6⟩, f0, f1, f2, f3, f4, f5, f6⟩ := HB2.out.reads
   go_wp2
   refine bodyPost_ret (v := .tuple #[.agg #[.string ⟨#[]⟩, .string ⟨#[]⟩, .int .i64 0, .int .i64 0, .slice none 0 0, .slice none 0 0, .slice none 0 0], .bool false]) (by simp [results, Tryz.results131, go_sem, q0, q1, q2, q3, q4, q5, q6]) rfl ?_
   exact HEND.out _ HG2.out _ _ _ _ _ _ _
  ·have HP := zh (fun W (hr : Rd W bd m) => za9 bd m ⟨#[40]⟩ hp W hr)
   have HNB := zh (fun W => zeg s W)
   rw [hs] at HNB
   have HK := zh (fun W (hr : Rd W bd m.tail) => number_any bd m.tail 2 (.inl rfl) W hr)
   rcases hb with hk | ⟨kk, m2, hk, hc⟩
   ·rw [hk] at HK
    generalize m.tail = l1 at HP HK
    clear h hm hp hk hs
    go_enter Tryz.func131, Tryz.ntmps131
    go_wp2_with fail
    refine HM.out.mono ?_
    rintro e w1 ⟨⟨on, kn, cn, rfl, hkn, hsn⟩, hr1, hg1⟩
    have HB1 := zh (zaa HB.out hg1 (by omega))
    have HG1 := zh (grown_trans HG.out hg1)
    have HPP := zh (HP.out w1 hr1)
    clear hr1 hg1 hsn hkn
    go_wp2_with fail
    refine HPP.out.mono ?_
    rintro e w2 ⟨rfl, hr2, hg2⟩
    have HB2 := zh (zaa HB1.out hg2 (by omega))
    have HG2 := zh (grown_trans HG1.out hg2)
    have HKW := zh (HK.out w2 hr2)
    clear hr2 hg2
    go_wp2_with fail
    refine (HNB.out w2).mono ?_
    rintro e w2' ⟨rfl, rfl⟩
    go_wp2_with fail
    refine HKW.out.mono ?_
    rintro e w4 ⟨⟨z, rfl⟩, hg4⟩
    have HB4 := zh (show Box7 w4 w.heap.size (.string ⟨#[]⟩) (.string ⟨#[]⟩) (.int .i64 0) (.int .i64 0) (.slice none 0 0) (.slice none 0 0) (.slice none 0 0) from zaa HB2.out hg4 (by omega))
    have HG4 := zh (grown_trans HG2.out hg4)
    clear hg4
    obtain ⟨⟨q0, q1, q2, q3, q4, q5, q6⟩, f0, f1, f2, f3, f4, f5, f6⟩ := HB4.out.reads
    go_wp2
    refine bodyPost_ret (v := .tuple #[.agg #[.string ⟨#[]⟩, .string ⟨#[]⟩, .int .i64 0, .int .i64 0, .slice none 0 0, .slice none 0 0, .slice none 0 0], .bool false]) (by simp [results, Tryz.results131, go_sem, q0, q1, q2, q3, q4, q5, q6]) rfl ?_
    exact HEND.out _ HG4.out _ _ _ _ _ _ _
   ·rw [hk] at HK
    have HCM := zh (fun W (hr : Rd W bd m2) => zbY bd m2 ⟨#[44]⟩ hc W hr)
    generalize m.tail = l1 at HP HK
    clear h hm hp hk hs hc
    go_enter Tryz.func131, Tryz.ntmps131
    go_wp2_with fail
    refine HM.out.mono ?_
    rintro e w1 ⟨⟨on, kn, cn, rfl, hkn, hsn⟩, hr1, hg1⟩
    have HB1 := zh (zaa HB.out hg1 (by omega))
    have HG1 := zh (grown_trans HG.out hg1)
    have HPP := zh (HP.out w1 hr1)
    clear hr1 hg1 hsn hkn
    go_wp2_with fail
    refine HPP.out.mono ?_
    rintro e w2 ⟨rfl, hr2, hg2⟩
    have HB2 := zh (zaa HB1.out hg2 (by omega))
    have HG2 := zh (grown_trans HG1.out hg2)
    have HKW := zh (HK.out w2 hr2)
    clear hr2 hg2
    go_wp2_with fail
    refine (HNB.out w2).mono ?_
    rintro e w2' ⟨rfl, rfl⟩
    go_wp2_with fail
    refine HKW.out.mono ?_
    rintro e w4 ⟨rfl, hr4, hg4⟩
    have HB4 := zh (zaa HB2.out hg4 (by omega))
    have HG4 := zh (grown_trans HG2.out hg4)
    have HCMW := zh (HCM.out w4 hr4)
    clear hg4 hr4
    go_wp2_with fail
    refine HCMW.out.mono ?_
    rintro e w5 ⟨rfl, _, hg5⟩
    have HB5 := zh (show Box7 w5 w.heap.size (.string ⟨#[]⟩) (.string ⟨#[]⟩) (.int .i64 0) (.int .i64 0) (.slice none 0 0) (.slice none 0 0) (.slice none 0 0) from zaa HB4.out hg5 (by omega))
    have HG5 := zh (grown_trans HG4.out hg5)
    clear hg5
    obtain ⟨⟨q0, q1, q2, q3, q4, q5, q6⟩, f0, f1, f2, f3, f4, f5, f6⟩ := HB5.out.reads
    go_wp2
    refine bodyPost_ret (v := .tuple #[.agg #[.string ⟨#[]⟩, .string ⟨#[]⟩, .int .i64 0, .int .i64 0, .slice none 0 0, .slice none 0 0, .slice none 0 0], .bool false]) (by simp [results, Tryz.results131, go_sem, q0, q1, q2, q3, q4, q5, q6]) rfl ?_
    exact HEND.out _ HG5.out _ _ _ _ _ _ _
theorem agg_of (n : Nat) (hC : zdg n) : AggC (n + 1) := by
 intro s l hl w bd h
 obtain ⟨T, hT⟩ : ∃ T, zbj (n + 1) s.data.toList l = T := ⟨_, rfl⟩
 rw [hT]
 rw [zbj, show bz s.data.toList = s from zdq s] at hT
 cases hm : zbu wBy za0 l with
 | none =>
   rw [hm] at hT
   have hT : none = T := hT
   rw [<- hT]; exact ze9 s l w bd h (.inl hm)
 | some p =>
   obtain ⟨⟨mode, names⟩, m⟩ := p
   have hml := zbW hm
   rw [hm] at hT
   dsimp only at hT
   cases hp : isT 5 [40] m with
   | false =>
     rw [if_neg (by rw [hp]; simp)] at hT
     rw [<- hT]; exact ze9 s l w bd h (.inr ⟨_, _, _, hm, .inl hp⟩)
   | true =>
     rw [if_pos hp] at hT
     have hpl := zaw hp
     unfold zdD at hT
     cases hs : zdv s.data.toList with
     | false =>
       rw [if_neg (by rw [hs]; simp)] at hT
       refine agg_plain n hC s hs l m mode names hm hp (by omega) w bd h T ?_
       rw [<- hT]; dsimp only; cases zan n m.tail <;> rfl
     | true =>
       rw [if_pos hs] at hT
       cases hk : numP 2 m.tail with
       | none =>
         rw [hk] at hT
         have hT : none = T := hT
         rw [<- hT]; exact ze9 s l w bd h (.inr ⟨_, _, _, hm, .inr ⟨hp, hs, .inl hk⟩⟩)
       | some q =>
         obtain ⟨kk, m2⟩ := q
         have hkl := zgC hk
         rw [hk] at hT
         dsimp only at hT
         cases hc : isT 5 [44] m2 with
         | false =>
           rw [if_neg (by rw [hc]; simp)] at hT
           have hT : none = T := hT
           rw [<- hT]; exact ze9 s l w bd h (.inr ⟨_, _, _, hm, .inr ⟨hp, hs, .inr ⟨_, _, hk, hc⟩⟩⟩)
         | true =>
           rw [if_pos hc] at hT
           have hcl := zaw hc
           refine agg_numb n hC s hs l m m2 mode kk names hm hp hk hc (by omega) w bd h T ?_
           rw [<- hT]; dsimp only; cases zan n m2.tail <;> rfl
end Go.Proofs.YtbcemjhaecelnaaGreatDoor.Par
end
section
namespace Go.Proofs.YtbcemjhaecelnaaGreatDoor.Par
open Go.RowKit Go.Lib
open Go.Proofs.YtbcemjhaecelnaaGreatDoor.Sto
theorem name_off (bd : Nat) (l : List Tq) (hk : isK 1 l = false) (w : World) (h : Rd w bd l) :
 Calls Tryz.prog 130 #[.pointer (some ⟨bd, 0, none⟩)] w fun e w' => e = .returned (.tuple #[.string ⟨#[]⟩, .bool false]) /\ Rd w' bd l /\ w.grownBy w' (some bd) :=
 (zgE bd l hk w h).mono fun _e _w' q => ⟨q.1, q.2 ▸ h, q.2 ▸ grown_refl _ _⟩
theorem prim_of (n : Nat) (hC : zdg n) (hA : AggC n) (hF : FnC n) : ziG (n + 1) := by
 intro l hl w bd h
 have hfar := h.lt
 have HB := zh (zal w (.string ⟨#[]⟩) (.string ⟨#[]⟩) (.int .i64 0) (.int .i64 0) (.slice none 0 0) (.slice none 0 0) (.slice none 0 0))
 have HG := zh (grown_alloc (grown_refl w (some bd)) (Obj.cells #[.string ⟨#[]⟩, .string ⟨#[]⟩, .int .i64 0, .int .i64 0, .slice none 0 0, .slice none 0 0, .slice none 0 0] 27))
 have HR0 := zh (h.alloc (Obj.cells #[.string ⟨#[]⟩, .string ⟨#[]⟩, .int .i64 0, .int .i64 0, .slice none 0 0, .slice none 0 0, .slice none 0 0] 27))
 cases h1 : isT 5 [40] l with
 | true =>
   have hT : zaz (n + 1) l = zan n l.tail := by
    cases l with
    | nil => simp [isT] at h1
    | cons x t => rw [zaz, if_pos h1]; rfl
   have HS := zh (za9 bd l ⟨#[40]⟩ h1 _ HR0.out)
   have hlt := zaw h1
   have HPP := zh (hC l.tail (by omega))
   rw [hT]
   generalize zan n l.tail = r at HPP ⊢
   generalize l.tail = l1 at HS HPP
   clear h h1 hC hA hF hl HR0 hlt hT
   go_enter Tryz.func112, Tryz.ntmps112
   go_wp2_with fail
   refine HS.out.mono ?_
   rintro e w1 ⟨rfl, hr1, hg1⟩
   have HB1 := zh (zaa HB.out hg1 (by omega))
   have HG1 := zh (grown_trans HG.out hg1)
   have hsz1 : w.heap.size < w1.heap.size := Nat.lt_of_lt_of_le (by simp) hg1.size
   have HPW := zh (HPP.out w1 bd hr1)
   clear hr1 hg1
   go_wp2_with fail
   refine HPW.out.mono ?_
   intro e w2 hres
   have HRES := zh hres
   have HB2 := zh (show Box7 w2 w.heap.size (.string ⟨#[]⟩) (.string ⟨#[]⟩) (.int .i64 0) (.int .i64 0) (.slice none 0 0) (.slice none 0 0) (.slice none 0 0) from zaa HB1.out hres.wide (by omega))
   obtain ⟨a, b, z, m, o1, k1, c1, o2, k2, c2, o3, k3, c3, rfl⟩ := hres.shape
   clear hres
   obtain ⟨⟨q0, q1, q2, q3, q4, q5, q6⟩, f0, f1, f2, f3, f4, f5, f6⟩ := HB2.out.reads
   go_wp2
   refine bodyPost_ret (v := .tuple #[.agg #[.string a, .string b, .int .i64 z, .int .i64 m, .slice o1 k1 c1, .slice o2 k2 c2, .slice o3 k3 c3], .bool r.isSome]) (by simp [results, Tryz.results112, go_sem, q0, q1, q2, q3, q4, q5, q6]) rfl ?_
   exact HRES.out.through HG1.out rfl hsz1 hfar (raw7 _ _ _ _ _ _ _ _ _ _ _ _ _) _ _ _ _ _ _ _
 | false =>
   have HS := zh (zbY bd l ⟨#[40]⟩ h1 _ HR0.out)
   cases h2 : isK 2 l with
   | true =>
     obtain ⟨x, t, rfl, hx⟩ := zaN h2
     have HT := zh (show zaz (n + 1) (x :: t) = some (.num (valL x.2), t) by rw [zaz, if_neg (by rw [h1]; simp), if_pos hx])
     have HN := zh (fun W (hr : Rd W bd (x :: t)) => zcN bd x t 2 hx (.inl rfl) W hr)
     rw [HT.out]
     generalize valL x.2 = v at HN
     clear h h1 hC hA hF hl HR0 h2 hx HT
     go_enter Tryz.func112, Tryz.ntmps112
     go_wp2_with fail
     refine HS.out.mono ?_
     rintro e w1 ⟨rfl, hr1, hg1⟩
     have HB1 := zh (zaa HB.out hg1 (by omega))
     have HG1 := zh (grown_trans HG.out hg1)
     have HNW := zh (HN.out w1 hr1)
     clear hr1 hg1
     go_wp2_with fail
     refine HNW.out.mono ?_
     rintro e w2 ⟨rfl, hr2, hg2⟩
     have HB2 := zh (show Box7 w2 w.heap.size (.string ⟨#[]⟩) (.string ⟨#[]⟩) (.int .i64 0) (.int .i64 0) (.slice none 0 0) (.slice none 0 0) (.slice none 0 0) from zaa HB1.out hg2 (by omega))
     have HG2 := zh (grown_trans HG1.out hg2)
     have HR2 := zh hr2
     clear hg2 hr2
     obtain ⟨⟨q0, q1, q2, q3, q4, q5, q6⟩, f0, f1, f2, f3, f4, f5, f6⟩ := HB2.out.reads
     go_wp2
     refine bodyPost_ret (v := .tuple #[.agg #[.string ⟨#[110, 117, 109]⟩, .string ⟨#[]⟩, .int .i64 (v : Nat), .int .i64 0, .slice none 0 0, .slice none 0 0, .slice none 0 0], .bool true]) (by simp [results, Tryz.results112, go_sem, q0, q1, q2, q3, q4, q5, q6]) rfl ?_
     exact ⟨_, rfl, .mk (.num v) _ _ none none none 0 0 0 0 0 0 [] rfl rfl ⟨rfl, Nat.le_refl _⟩ rfl rfl rfl (.inl rfl) (.inl rfl) (.inl rfl) (fun j cs y h => by simp at h), zcs HR2.out hfar _ _ _ _ _ _ _, zaf HG2.out (Nat.le_refl _) _ _ _ _ _ _ _⟩
   | false =>
     have HN := zh (fun W (hr : Rd W bd l) => zdx bd l 2 h2 W hr)
     cases h3 : isK 1 l with
     | false =>
       have HT := zh (show zaz (n + 1) l = selP [] false l by
        cases l with
        | nil => rfl
        | cons x t =>
          rw [zaz, if_neg (by rw [h1]; simp), if_neg (by simpa [isK] using h2), if_neg (by simpa [isK] using h3)])
       have HNM := zh (fun W (hr : Rd W bd l) => name_off bd l h3 W hr)
       have HA := zh (fun W => zgF ⟨#[]⟩ W)
       have HF := zh (fun W => zhT ⟨#[]⟩ W)
       have HV := zh (fun W => zhS ⟨#[]⟩ W)
       have HSL := zh (fun W (hr : Rd W bd l) => zhW bd ⟨#[]⟩ false l W hr)
       rw [show aggB (⟨#[]⟩ : ByteArray).data.toList = false from rfl] at HA
       rw [show fnS (⟨#[]⟩ : ByteArray).data.toList = false from rfl] at HF
       rw [show resB (⟨#[]⟩ : ByteArray).data.toList = false from rfl] at HV
       rw [HT.out]
       rw [show (⟨#[]⟩ : ByteArray).data.toList = [] from rfl] at HSL
       generalize selP [] false l = r at HSL ⊢
       clear h h1 hC hA hF hl HR0 h2 h3 HT
       go_enter Tryz.func112, Tryz.ntmps112
       go_wp2_with fail
       refine HS.out.mono ?_
       rintro e w1 ⟨rfl, hr1, hg1⟩
       have HB1 := zh (zaa HB.out hg1 (by omega))
       have HG1 := zh (grown_trans HG.out hg1)
       have HNW := zh (HN.out w1 hr1)
       clear hr1 hg1
       go_wp2_with fail
       refine HNW.out.mono ?_
       rintro e w2 ⟨rfl, hr2, hg2⟩
       have HB2 := zh (zaa HB1.out hg2 (by omega))
       have HG2 := zh (grown_trans HG1.out hg2)
       have HNN := zh (HNM.out w2 hr2)
       clear hg2 hr2
       go_wp2_with fail
       refine HNN.out.mono ?_
       rintro e w3 ⟨rfl, hr3, hg3⟩
       have HB3 := zh (zaa HB2.out hg3 (by omega))
       have HG3 := zh (grown_trans HG2.out hg3)
       have HSW := zh (HSL.out w3 hr3)
       have hsz3 : w.heap.size < w3.heap.size := Nat.lt_of_lt_of_le (Array.getElem?_eq_some_iff.1 HB2.out).1 hg3.size
       clear hg3 hr3
       go_wp2_with fail
       refine (HA.out w3).mono ?_
       rintro e w4 ⟨rfl, rfl⟩
       go_wp2_with fail
       refine (HF.out w3).mono ?_
       rintro e w4 ⟨rfl, rfl⟩
       go_wp2_with fail
       refine (HV.out w3).mono ?_
       rintro e w4 ⟨rfl, rfl⟩
       go_wp2_with fail
       refine HSW.out.mono ?_
       intro e w5 hres
       have HRES := zh hres
       have HB5 := zh (show Box7 w5 w.heap.size (.string ⟨#[]⟩) (.string ⟨#[]⟩) (.int .i64 0) (.int .i64 0) (.slice none 0 0) (.slice none 0 0) (.slice none 0 0) from zaa HB3.out hres.wide (by omega))
       obtain ⟨a, b, z, m, o1, k1, c1, o2, k2, c2, o3, k3, c3, rfl⟩ := hres.shape
       clear hres
       obtain ⟨⟨q0, q1, q2, q3, q4, q5, q6⟩, f0, f1, f2, f3, f4, f5, f6⟩ := HB5.out.reads
       go_wp2
       refine bodyPost_ret (v := .tuple #[.agg #[.string a, .string b, .int .i64 z, .int .i64 m, .slice o1 k1 c1, .slice o2 k2 c2, .slice o3 k3 c3], .bool r.isSome]) (by simp [results, Tryz.results112, go_sem, q0, q1, q2, q3, q4, q5, q6]) rfl ?_
       exact HRES.out.through HG3.out rfl hsz3 hfar (raw7 _ _ _ _ _ _ _ _ _ _ _ _ _) _ _ _ _ _ _ _
     | true =>
       obtain ⟨x, t, rfl, hx⟩ := zaN h3
       have HNM := zh (fun W (hr : Rd W bd (x :: t)) => zfE bd x t hx W hr)
       obtain ⟨tx, htx⟩ : ∃ tx : ByteArray, tx = ⟨x.2.toArray⟩ := ⟨_, rfl⟩
       have htl : tx.data.toList = x.2 := by rw [htx]
       rw [<- htx] at HNM
       have hlen : 9 * t.length <= n := by simp at hl; omega
       have HAA := zh (hA tx t hlen)
       have HFF := zh (hF tx t hlen)
       have HA := zh (fun W => zgF tx W)
       have HF := zh (fun W => zhT tx W)
       have HV := zh (fun W => zhS tx W)
       have HSL := zh (fun W (hr : Rd W bd t) => zhW bd tx true t W hr)
       have hT : zaz (n + 1) (x :: t) = if aggB tx.data.toList then zbj n tx.data.toList t else if fnS tx.data.toList then fnGo n tx.data.toList t else if resB tx.data.toList then none else selP tx.data.toList true t := by
        rw [zaz, if_neg (by rw [h1]; simp), if_neg (by simpa [isK] using h2), if_pos hx, htl]
       obtain ⟨T, hTT⟩ : ∃ T, zaz (n + 1) (x :: t) = T := ⟨_, rfl⟩
       rw [hTT] at hT ⊢
       obtain ⟨pa, hpa⟩ : ∃ p, aggB tx.data.toList = p := ⟨_, rfl⟩
       obtain ⟨pf, hpf⟩ : ∃ p, fnS tx.data.toList = p := ⟨_, rfl⟩
       obtain ⟨pv, hpv⟩ : ∃ p, resB tx.data.toList = p := ⟨_, rfl⟩
       rw [hpa] at HA hT
       rw [hpf] at HF hT
       rw [hpv] at HV hT
       generalize zbj n tx.data.toList t = ra at HAA hT
       generalize fnGo n tx.data.toList t = rf at HFF hT
       generalize selP tx.data.toList true t = rs at HSL hT
       have HT := zh hT
       clear h h1 hC hA hF hl HR0 h2 h3 hT hTT hpa hpf hpv htx htl hlen hx
       have HEND := zh (fun (W : World) (hW : w.grownBy W (some bd)) (a b c d e f g : Value) => (show Res w bd none (.returned (.tuple #[.agg #[.string ⟨#[]⟩, .string ⟨#[]⟩, .int .i64 0, .int .i64 0, .slice none 0 0, .slice none 0 0, .slice none 0 0], .bool false])) (put7 W w.heap.size a b c d e f g) from ⟨_, rfl, zbX, zaf hW (Nat.le_refl _) _ _ _ _ _ _ _⟩))
       go_enter Tryz.func112, Tryz.ntmps112
       go_wp2_with fail
       refine HS.out.mono ?_
       rintro e w1 ⟨rfl, hr1, hg1⟩
       have HB1 := zh (zaa HB.out hg1 (by omega))
       have HG1 := zh (grown_trans HG.out hg1)
       have HNW := zh (HN.out w1 hr1)
       clear hr1 hg1
       go_wp2_with fail
       refine HNW.out.mono ?_
       rintro e w2 ⟨rfl, hr2, hg2⟩
       have HB2 := zh (zaa HB1.out hg2 (by omega))
       have HG2 := zh (grown_trans HG1.out hg2)
       have HNN := zh (HNM.out w2 hr2)
       clear hg2 hr2
       go_wp2_with fail
       refine HNN.out.mono ?_
       rintro e w3 ⟨rfl, hr3, hg3⟩
       have HB3 := zh (show Box7 w3 w.heap.size (.string ⟨#[]⟩) (.string ⟨#[]⟩) (.int .i64 0) (.int .i64 0) (.slice none 0 0) (.slice none 0 0) (.slice none 0 0) from zaa HB2.out hg3 (by omega))
       have HG3 := zh (grown_trans HG2.out hg3)
       have HR3 := zh hr3
       have hsz3 : w.heap.size < w3.heap.size := Nat.lt_of_lt_of_le (Array.getElem?_eq_some_iff.1 HB2.out).1 hg3.size
       clear hg3 hr3
       go_wp2_with fail
       refine (HA.out w3).mono ?_
       rintro e w4 ⟨rfl, rfl⟩
       cases pa with
       | true =>
         have HSW := zh (HAA.out w3 bd HR3.out)
         go_wp2_with fail
         refine HSW.out.mono ?_
         intro e w5 hres
         have HRES := zh hres
         have HB5 := zh (show Box7 w5 w.heap.size (.string ⟨#[]⟩) (.string ⟨#[]⟩) (.int .i64 0) (.int .i64 0) (.slice none 0 0) (.slice none 0 0) (.slice none 0 0) from zaa HB3.out hres.wide (by omega))
         obtain ⟨a, b, z, m, o1, k1, c1, o2, k2, c2, o3, k3, c3, rfl⟩ := hres.shape
         clear hres
         obtain ⟨⟨q0, q1, q2, q3, q4, q5, q6⟩, f0, f1, f2, f3, f4, f5, f6⟩ := HB5.out.reads
         go_wp2
         refine bodyPost_ret (v := .tuple #[.agg #[.string a, .string b, .int .i64 z, .int .i64 m, .slice o1 k1 c1, .slice o2 k2 c2, .slice o3 k3 c3], .bool ra.isSome]) (by simp [results, Tryz.results112, go_sem, q0, q1, q2, q3, q4, q5, q6]) rfl ?_
         rw [show T = ra from HT.out]
         exact HRES.out.through HG3.out rfl hsz3 hfar (raw7 _ _ _ _ _ _ _ _ _ _ _ _ _) _ _ _ _ _ _ _
       | false =>
         go_wp2_with fail
         refine (HF.out w3).mono ?_
         rintro e w4 ⟨rfl, rfl⟩
         cases pf with
         | true =>
           have HSW := zh (HFF.out w3 bd HR3.out)
           go_wp2_with fail
           refine HSW.out.mono ?_
           intro e w5 hres
           have HRES := zh hres
           have HB5 := zh (show Box7 w5 w.heap.size (.string ⟨#[]⟩) (.string ⟨#[]⟩) (.int .i64 0) (.int .i64 0) (.slice none 0 0) (.slice none 0 0) (.slice none 0 0) from zaa HB3.out hres.wide (by omega))
           obtain ⟨a, b, z, m, o1, k1, c1, o2, k2, c2, o3, k3, c3, rfl⟩ := hres.shape
           clear hres
           obtain ⟨⟨q0, q1, q2, q3, q4, q5, q6⟩, f0, f1, f2, f3, f4, f5, f6⟩ := HB5.out.reads
           go_wp2
           refine bodyPost_ret (v := .tuple #[.agg #[.string a, .string b, .int .i64 z, .int .i64 m, .slice o1 k1 c1, .slice o2 k2 c2, .slice o3 k3 c3], .bool rf.isSome]) (by simp [results, Tryz.results112, go_sem, q0, q1, q2, q3, q4, q5, q6]) rfl ?_
           rw [show T = rf from HT.out]
           exact HRES.out.through HG3.out rfl hsz3 hfar (raw7 _ _ _ _ _ _ _ _ _ _ _ _ _) _ _ _ _ _ _ _
         | false =>
           go_wp2_with fail
           refine (HV.out w3).mono ?_
           rintro e w4 ⟨rfl, rfl⟩
           cases pv with
           | true =>
             obtain ⟨⟨q0, q1, q2, q3, q4, q5, q6⟩, f0, f1, f2, f3, f4, f5, f6⟩ := HB3.out.reads
             go_wp2
             refine bodyPost_ret (v := .tuple #[.agg #[.string ⟨#[]⟩, .string ⟨#[]⟩, .int .i64 0, .int .i64 0, .slice none 0 0, .slice none 0 0, .slice none 0 0], .bool false]) (by simp [results, Tryz.results112, go_sem, q0, q1, q2, q3, q4, q5, q6]) rfl ?_
             rw [show T = none from HT.out]
             exact HEND.out _ HG3.out _ _ _ _ _ _ _
           | false =>
             have HSW := zh (HSL.out w3 HR3.out)
             go_wp2_with fail
             refine HSW.out.mono ?_
             intro e w5 hres
             have HRES := zh hres
             have HB5 := zh (show Box7 w5 w.heap.size (.string ⟨#[]⟩) (.string ⟨#[]⟩) (.int .i64 0) (.int .i64 0) (.slice none 0 0) (.slice none 0 0) (.slice none 0 0) from zaa HB3.out hres.wide (by omega))
             obtain ⟨a, b, z, m, o1, k1, c1, o2, k2, c2, o3, k3, c3, rfl⟩ := hres.shape
             clear hres
             obtain ⟨⟨q0, q1, q2, q3, q4, q5, q6⟩, f0, f1, f2, f3, f4, f5, f6⟩ := HB5.out.reads
             go_wp2
             refine bodyPost_ret (v := .tuple #[.agg #[.string a, .string b, .int .i64 z, .int .i64 m, .slice o1 k1 c1, .slice o2 k2 c2, .slice o3 k3 c3], .bool rs.isSome]) (by simp [results, Tryz.results112, go_sem, q0, q1, q2, q3, q4, q5, q6]) rfl ?_
             rw [show T = rs from HT.out]
             exact HRES.out.through HG3.out rfl hsz3 hfar (raw7 _ _ _ _ _ _ _ _ _ _ _ _ _) _ _ _ _ _ _ _
end Go.Proofs.YtbcemjhaecelnaaGreatDoor.Par
end
end
