import Derived.Test.YtbcemjhaecelnaaGreatDoorMg12
import Derived.Test.YtbcemjhaecelnaaGreatDoorMg03
import Derived.Test.YtbcemjhaecelnaaGreatDoorMg01
import Derived.Test.YtbcemjhaecelnaaGreatDoorMg08
import Derived.Deep.RegionHeld3
import Derived.Laws.OwnMore
section
set_option maxHeartbeats 4000000
set_option maxRecDepth 100000
section
namespace Go.Proofs.YtbcemjhaecelnaaGreatDoor.Pat
open Go.RowKit
def zix (w : World) (bp : Nat) (s : ByteArray) (p : Eg × Gr) : Prop := GrAt w bp (.string s) (.bool p.1.none) (.int .u64 (p.1.first : Int)) (.int .u64 (p.1.last : Int)) p.2
theorem zix.below {w w' : World} {bp : Nat} {s : ByteArray} {p : Eg × Gr} (h : zix w bp s p) (hb : Below w.heap.size w w') : zix w' bp s p := GrAt.below h hb
theorem zcr (l : List UInt8) : zbZ l = (zai l).length := by unfold zbZ zai; rw [List.length_map]
theorem clone_any (s : ByteArray) (w : World) (hs : s.size <= 281474976710656) :
 Calls Tryz.prog 83 #[.string s] w fun e w' => e = .returned (.string s) /\ Below w.heap.size w w' := by
 go_enter Tryz.func83, Tryz.ntmps83
 go_wp2_with (go_at_call 108; refine (Tryz.stringslite_Clone _ _ hs).mono ?_; rintro e w1 ⟨rfl, b1⟩)
 go_ret
 exact ⟨rfl, b1⟩
theorem compile_long (s : ByteArray) (w : World) (hs : s.size <= 1000000) (h : 40 < (zai s.data.toList).length) :
 Calls Tryz.prog 172 #[.string s] w fun e w' => e = .returned (.tuple #[.pointer none, .int .i64 1]) /\ Below w.heap.size w w' := by
 have HC := zh (count_any s w (by unfold maxLen; omega))
 rw [<- zcr] at h
 obtain ⟨C, hC⟩ : ∃ C, zbZ s.data.toList = C := ⟨_, rfl⟩
 rw [hC] at HC h
 have i1 : (40 : Int) < C := by omega
 clear hC
 go_enter Tryz.func172, Tryz.ntmps172
 go_wp2_with fail
 refine HC.out.mono ?_
 rintro e w1 ⟨rfl, b1⟩
 go_wp2
 go_ret2
 exact ⟨rfl, b1⟩
theorem compile_form (s : ByteArray) (w : World) (hs : s.size <= 1000000) (h : ¬ 40 < (zai s.data.toList).length) (hr : readP (zai s.data.toList) = none) :
 Calls Tryz.prog 172 #[.string s] w fun e w' => e = .returned (.tuple #[.pointer none, .int .i64 2]) /\ Below w.heap.size w w' := by
 have HC := zh (count_any s w (by unfold maxLen; omega))
 have HRD := zh (fun W => read_any s W hs)
 rw [hr] at HRD
 rw [<- zcr] at h
 obtain ⟨C, hC⟩ : ∃ C, zbZ s.data.toList = C := ⟨_, rfl⟩
 rw [hC] at HC h
 have i1 : (C : Int) <= 40 := by omega
 clear hC hr
 go_enter Tryz.func172, Tryz.ntmps172
 go_wp2_with fail
 refine HC.out.mono ?_
 rintro e w1 ⟨rfl, b1⟩
 have HB1 := zh b1
 clear b1
 go_wp2_with fail
 refine (HRD.out w1).mono ?_
 rintro e w2 ⟨v, rfl, b2⟩
 have HB2 := zh (HB1.out.trans (b2.mono HB1.out.size))
 clear b2
 go_wp2
 go_ret2
 exact ⟨rfl, HB2.out⟩
theorem fresh_pat (w : World) (s : ByteArray) : GrAt (w.alloc (Obj.cells #[.string s, .slice none 0 0, .slice none 0 0, .bool false, .int .u64 0, .int .u64 0] 227)) w.heap.size (.string s) (.bool false) (.int .u64 0) (.int .u64 0) ⟨[], []⟩ :=
 ⟨_, _, [], Array.getElem?_push_size, World.ownsRow_nil _ _ _ _, World.ownsRow_nil _ _ _ _, fun j u x h => by simp at h⟩
theorem GrAt.frees {w : World} {bp : Nat} {t a b c : Value} {g : Gr} (h : GrAt w bp t a b c g) : w.cell? ⟨bp, 3, none⟩ = some a /\ w.cell? ⟨bp, 4, none⟩ = some b /\ w.cell? ⟨bp, 5, none⟩ = some c /\ w.frozen? ⟨bp, 3, none⟩ = false /\ w.frozen? ⟨bp, 4, none⟩ = false /\ w.frozen? ⟨bp, 5, none⟩ = false := by
 obtain ⟨va, vt, vs, hp, _⟩ := h
 unfold Pat at hp
 refine ⟨?_, ?_, ?_, ?_, ?_, ?_⟩ <;> simp [World.cell?, World.frozen?, hp]
theorem GrRow.setPat {w : World} {bp i : Nat} {va vt u : Value} {vs : List Value} {g : Gr} (h : GrRow w bp va vt vs g) : GrRow (w.setCell ⟨bp, i, none⟩ u) bp va vt vs g :=
 ⟨ownsRow_setCell_below h.atoms (a := ⟨bp, i, none⟩) (Nat.lt_succ_self bp) u, ownsRow_setCell_below h.links (a := ⟨bp, i, none⟩) (Nat.lt_succ_self bp) u, fun j uu y hu hy => (h.kids j uu y hu hy).keep fun b hb _ => ⟨heap_setCell_other _ _ _ _ (by show b ≠ bp; omega), hb⟩⟩
theorem put_all {w : World} {bp : Nat} {t a b c p q r : Value} {g : Gr} (h : GrAt w bp t a b c g) : GrAt (((w.setCell ⟨bp, 3, none⟩ p).setCell ⟨bp, 4, none⟩ q).setCell ⟨bp, 5, none⟩ r) bp t p q r g := by
 obtain ⟨va, vt, vs, hp, hr⟩ := h
 refine ⟨va, vt, vs, ?_, hr.setPat.setPat.setPat⟩
 have e1 := heap_setCell_same w bp 3 _ 227 p hp
 have e2 := heap_setCell_same _ bp 4 _ 227 q e1
 exact heap_setCell_same _ bp 5 _ 227 r e2
def Comp (w : World) (s : ByteArray) (p : Eg × Gr) (e : Ending) (w' : World) : Prop := ∃ bp, e = .returned (.tuple #[.pointer (some ⟨bp, 0, none⟩), .int .i64 0]) /\ zix w' bp s p /\ Below w.heap.size w w'
theorem compile_ok (s : ByteArray) (x : Pt) (w : World) (hs : s.size <= 1000000) (h : ¬ 40 < (zai s.data.toList).length) (hr : readP (zai s.data.toList) = some x) :
 Calls Tryz.prog 172 #[.string s] w (Comp w s (layF x ⟨[], []⟩)) := by
 have HC := zh (count_any s w (by unfold maxLen; omega))
 have HRD := zh (fun W => read_any s W hs)
 have hsz := readP_size hr
 rw [hr] at HRD
 rw [<- zcr] at h
 obtain ⟨C, hC⟩ : ∃ C, zbZ s.data.toList = C := ⟨_, rfl⟩
 rw [<- zcr, hC] at hsz
 rw [hC] at HC h
 have i1 : (C : Int) <= 40 := by omega
 obtain ⟨T, hT⟩ : ∃ T, layF x ⟨[], []⟩ = T := ⟨_, rfl⟩
 rw [hT]
 have HL := zh (fun W bp (v : Value) (h1 : GrAt W bp (.string s) (.bool false) (.int .u64 0) (.int .u64 0) ⟨[], []⟩) (h2 : Tree W (fun k => k < bp) v x) => (show Calls Tryz.prog 176 #[.pointer (some ⟨bp, 1, none⟩), v] W (zch W bp (.string s) (.bool false) (.int .u64 0) (.int .u64 0) T) by
  rw [<- hT]; exact zf7 x W bp _ _ _ _ v ⟨[], []⟩ h1 h2 (by simp; omega) ⟨rfl, fun t ht => by simp at ht⟩))
 have HCL := zh (fun W => clone_any s W (by omega))
 clear hC hr hT hsz h
 go_enter Tryz.func172, Tryz.ntmps172
 go_wp2_with fail
 refine HC.out.mono ?_
 rintro e w1 ⟨rfl, b1⟩
 have HB1 := zh b1
 clear b1
 go_wp2_with fail
 refine (HRD.out w1).mono ?_
 rintro e w2 ⟨v, rfl, ht2, b2⟩
 have HB2 := zh (HB1.out.trans (b2.mono HB1.out.size))
 have HT2 := zh ht2
 clear b2 ht2
 go_wp2_with fail
 refine (HCL.out w2).mono ?_
 rintro e w3 ⟨rfl, b3⟩
 have HB3 := zh (HB2.out.trans (b3.mono HB2.out.size))
 have HT3 := zh (HT2.out.stays b3)
 clear b3
 go_wp2_with fail
 refine (HL.out _ w3.heap.size v (fresh_pat w3 s) (HT3.out.keep fun b _ hl => ⟨Below.heap_alloc _ _ _ hl, hl⟩)).mono ?_
 rintro e w4 ⟨rfl, hg4, hb4, _⟩
 obtain ⟨q3, q4, q5, f3, f4, f5⟩ := hg4.frees
 have HG4 := zh hg4
 have HB4 := zh (show Below w.heap.size w w4 from (HB3.out.trans (((Below.refl _ _).alloc (Nat.le_refl _) _).mono HB3.out.size)).trans (hb4.mono HB3.out.size))
 have hsz := HB3.out.size
 clear hg4 hb4
 go_wp2_with fail
 go_ret2
 exact ⟨_, rfl, put_all HG4.out, ((HB4.out.setCell hsz _).setCell hsz _).setCell hsz _⟩
end Go.Proofs.YtbcemjhaecelnaaGreatDoor.Pat
end
section
namespace Go.Proofs.YtbcemjhaecelnaaGreatDoor.Sto
open Go.RowKit
theorem patO_long {s : ByteArray} (h : 40 < (zai s.data.toList).length) : patO s = none := by unfold patO; rw [if_pos h]
theorem zfd {s : ByteArray} (h : ¬ 40 < (zai s.data.toList).length) : patO s = Pat.readP (zai s.data.toList) := by unfold patO; rw [if_neg h]
theorem compile_any (s : ByteArray) (w : World) (hs : s.size <= 1000000) :
 Calls Tryz.prog 172 #[.string s] w fun e w' => (∃ p k, e = .returned (.tuple #[.pointer p, .int .i64 k]) /\ ((patO s = none /\ k ≠ 0) \/ (k = 0 /\ (patO s).isSome = true))) /\ Below w.heap.size w w' := by
 by_cases h : 40 < (zai s.data.toList).length
 ·exact (Pat.compile_long s w hs h).mono fun e w' q => ⟨⟨_, _, q.1, .inl ⟨patO_long h, by decide⟩⟩, q.2⟩
 ·cases hr : Pat.readP (zai s.data.toList) with
  | none => exact (Pat.compile_form s w hs h hr).mono fun e w' q => ⟨⟨_, _, q.1, .inl ⟨(zfd h).trans hr, by decide⟩⟩, q.2⟩
  | some x =>
    refine (Pat.compile_ok s x w hs h hr).mono fun e w' q => ?_
    obtain ⟨bp, e1, e2, e3⟩ := q
    exact ⟨⟨_, _, e1, .inr ⟨rfl, by rw [zfd h, hr]; rfl⟩⟩, e3⟩
def zi4 (w w' : World) (m : Mat) (e : Ending) : Prop := (∃ a b c p, e = .returned (.tuple #[.agg #[.string a, .int .i64 b, .string c, .pointer p], .bool (matB m)])) /\ Below w.heap.size w w'
def Qs (k : Nat) (a : ByteArray) (b : Int) (c : ByteArray) (w W : World) : Prop := W.heap[k]? = some (.cells #[.string a, .int .i64 b, .string c] 40 (0, 0)) /\ W.heap[k + 1]? = some (.cells #[.string ⟨#[]⟩, .int .i64 0, .string ⟨#[]⟩, .pointer none] 207 (0, 0)) /\ Below k w W
theorem Qs.below {k : Nat} {a : ByteArray} {b : Int} {c : ByteArray} {w W W' : World} (h : Qs k a b c w W) (hb : Below W.heap.size W W') : Qs k a b c w W' := by
 have h1 := (Array.getElem?_eq_some_iff.1 h.1).1
 exact ⟨(hb.block _ h1).trans h.1, (hb.block _ (Array.getElem?_eq_some_iff.1 h.2.1).1).trans h.2.1, h.2.2.trans (hb.mono (by omega))⟩
theorem Qs.reads {k : Nat} {a : ByteArray} {b : Int} {c : ByteArray} {w W : World} (h : Qs k a b c w W) : W.cell? ⟨k, 0, none⟩ = some (.string a) /\ W.cell? ⟨k, 1, none⟩ = some (.int .i64 b) /\ W.cell? ⟨k, 2, none⟩ = some (.string c) /\ W.cell? ⟨k + 1, 0, none⟩ = some (.string ⟨#[]⟩) /\ W.cell? ⟨k + 1, 1, none⟩ = some (.int .i64 0) /\ W.cell? ⟨k + 1, 2, none⟩ = some (.string ⟨#[]⟩) /\ W.cell? ⟨k + 1, 3, none⟩ = some (.pointer none) /\ W.frozen? ⟨k + 1, 0, none⟩ = false /\ W.frozen? ⟨k + 1, 1, none⟩ = false /\ W.frozen? ⟨k + 1, 2, none⟩ = false /\ W.frozen? ⟨k + 1, 3, none⟩ = false := by
 obtain ⟨h1, h2, _⟩ := h
 refine ⟨?_, ?_, ?_, ?_, ?_, ?_, ?_, ?_, ?_, ?_, ?_⟩ <;> simp [World.cell?, World.frozen?, h1, h2]
theorem Qs.made (a : ByteArray) (b : Int) (c : ByteArray) (w : World) : Qs w.heap.size a b c w ((w.alloc (Obj.cells #[.string a, .int .i64 b, .string c] 40)).alloc (Obj.cells #[.string ⟨#[]⟩, .int .i64 0, .string ⟨#[]⟩, .pointer none] 207)) := by
 refine ⟨?_, ?_, ((Below.refl _ _).alloc (Nat.le_refl _) _).alloc (by simp) _⟩
 ·rw [Below.heap_alloc _ _ _ (by rw [World.size_alloc]; omega)]; exact Array.getElem?_push_size
 ·have e : (w.alloc (Obj.cells #[.string a, .int .i64 b, .string c] 40)).heap.size = w.heap.size + 1 := World.size_alloc _ _
  rw [<- e]; exact Array.getElem?_push_size
theorem zbI {k : Nat} {w W : World} (h : Below k w W) {p q r s : Value} : Below k w ((((W.setCell ⟨k + 1, 0, none⟩ p).setCell ⟨k + 1, 1, none⟩ q).setCell ⟨k + 1, 2, none⟩ r).setCell ⟨k + 1, 3, none⟩ s) :=
 (((h.setCell (by simp) _).setCell (by simp) _).setCell (by simp) _).setCell (by simp) _
theorem readOne_any (m : Mat) (w : World) (hm : m.Ok) :
 Calls Tryz.prog 168 #[.agg #[.string m.1, .int .i64 m.2.1, .string m.2.2]] w fun e w' => zi4 w w' m e := by
 obtain ⟨nm, op, vl⟩ := m
 have hok := hm.value
 dsimp only at hok ⊢
 have HNm := zh (fun W => zgP nm W)
 have HCo := zh (fun W => compile_any vl W hok)
 unfold zi4
 clear hm hok
 cases hn : zbz nm.data.toList with
 | false =>
   have HM := zh (show matB (nm, op, vl) = false by unfold matB; rw [hn]; rfl)
   rw [hn] at HNm
   clear hn HCo
   rw [HM.out]
   go_enter Tryz.func168, Tryz.ntmps168
   go_wp2_with fail
   refine (HNm.out _).mono ?_
   rintro e w1 ⟨rfl, b1⟩
   have HQ := zh ((Qs.made nm op vl w).below b1)
   clear b1
   obtain ⟨r1, r2, r3, r4, r5, r6, r7, r8, r9, r10, r11⟩ := HQ.out.reads
   go_wp2
   exact bodyPost_ret (v := .tuple #[.agg #[.string ⟨#[]⟩, .int .i64 0, .string ⟨#[]⟩, .pointer none], .bool false]) (by simp [results, Tryz.results168, go_sem, r4, r5, r6, r7]) rfl ⟨⟨_, _, _, _, rfl⟩, zbI HQ.out.2.2⟩
 | true =>
   rw [hn] at HNm
   by_cases h12 : op = 1 \/ op = 2
   ·have HM := zh (show matB (nm, op, vl) = true by unfold matB; rw [hn]; rcases h12 with h | h <;> simp [h])
    clear hn HCo
    rw [HM.out]
    rcases h12 with rfl | rfl
    ·go_enter Tryz.func168, Tryz.ntmps168
     go_wp2_with fail
     refine (HNm.out _).mono ?_
     rintro e w1 ⟨rfl, b1⟩
     have HQ := zh ((Qs.made nm _ vl w).below b1)
     clear b1
     obtain ⟨r1, r2, r3, r4, r5, r6, r7, r8, r9, r10, r11⟩ := HQ.out.reads
     go_wp2
     exact bodyPost_ret (v := .tuple #[.agg #[.string nm, .int .i64 1, .string vl, .pointer none], .bool true]) (by simp [results, Tryz.results168, go_sem, r4, r5, r6, r7]) rfl ⟨⟨_, _, _, _, rfl⟩, zbI HQ.out.2.2⟩
    ·go_enter Tryz.func168, Tryz.ntmps168
     go_wp2_with fail
     refine (HNm.out _).mono ?_
     rintro e w1 ⟨rfl, b1⟩
     have HQ := zh ((Qs.made nm _ vl w).below b1)
     clear b1
     obtain ⟨r1, r2, r3, r4, r5, r6, r7, r8, r9, r10, r11⟩ := HQ.out.reads
     go_wp2
     exact bodyPost_ret (v := .tuple #[.agg #[.string nm, .int .i64 2, .string vl, .pointer none], .bool true]) (by simp [results, Tryz.results168, go_sem, r4, r5, r6, r7]) rfl ⟨⟨_, _, _, _, rfl⟩, zbI HQ.out.2.2⟩
   ·by_cases h34 : op = 3 \/ op = 4
    ·have HM := zh (show matB (nm, op, vl) = (patO vl).isSome by
      unfold matB; rw [hn]; rcases h34 with h | h <;> simp [h])
     rw [HM.out]
     have e1 : (op == 1) = false := by simp; omega
     have e2 : (op == 2) = false := by simp; omega
     have H12 := zh h12
     by_cases e3 : (op == 3) = true
     case' neg =>
      have e3 : (op == 3) = false := by simpa using e3
      have e4 : (op == 4) = true := by simp at e3 ⊢; omega
     all_goals
      clear hn h12 h34
      go_enter Tryz.func168, Tryz.ntmps168
      go_wp2_with fail
      refine (HNm.out _).mono ?_
      rintro e w1 ⟨rfl, b1⟩
      have HQ1 := zh ((Qs.made nm op vl w).below b1)
      clear b1
      obtain ⟨r1, r2, r3, r4, r5, r6, r7, r8, r9, r10, r11⟩ := HQ1.out.reads
      go_wp2_with fail
      refine (HCo.out _).mono ?_
      rintro e w2 ⟨⟨p, k, rfl, hpk⟩, b2⟩
      have HQ := zh (HQ1.out.below b2)
      have HPK := zh hpk
      clear b2 hpk r1 r2 r3 r4 r5 r6 r7 r8 r9 r10 r11
      obtain ⟨r1, r2, r3, r4, r5, r6, r7, r8, r9, r10, r11⟩ := HQ.out.reads
      by_cases hk0 : k = 0
      ·subst hk0
       have h3 : (patO vl).isSome = true := by
        rcases HPK.out with h | ⟨_, h⟩
        ·exact absurd rfl h.2
        ·exact h
       have H3 := zh h3
       clear h3
       go_wp2
       refine bodyPost_ret (v := .tuple #[.agg #[.string nm, .int .i64 op, .string vl, .pointer p], .bool true]) (by simp [results, Tryz.results168, go_sem, r4, r5, r6, r7]) rfl ⟨⟨_, _, _, _, by rw [H3.out]⟩, zbI HQ.out.2.2⟩
      ·have h3 : (patO vl).isSome = false := by
        rcases HPK.out with h | h
        ·rw [h.1]; rfl
        ·exact absurd h.1 hk0
       have t1 : (k == 0) = false := by simp [hk0]
       have H3 := zh h3
       clear h3
       go_wp2
       exact bodyPost_ret (v := .tuple #[.agg #[.string nm, .int .i64 op, .string vl, .pointer p], .bool false]) (by simp [results, Tryz.results168, go_sem, r4, r5, r6, r7]) rfl ⟨⟨_, _, _, _, by rw [H3.out]⟩, zbI HQ.out.2.2⟩
    ·have HM := zh (show matB (nm, op, vl) = false by
      unfold matB; rw [hn]
      have e1 : (op == 1) = false := by simp; omega
      have e2 : (op == 2) = false := by simp; omega
      have e3 : (op == 3) = false := by simp; omega
      have e4 : (op == 4) = false := by simp; omega
      simp only [e1, e2, e3, e4]; rfl)
     have e1 : (op == 1) = false := by simp; omega
     have e2 : (op == 2) = false := by simp; omega
     have e3 : (op == 3) = false := by simp; omega
     have e4 : (op == 4) = false := by simp; omega
     clear hn HCo h12 h34
     rw [HM.out]
     go_enter Tryz.func168, Tryz.ntmps168
     go_wp2_with fail
     refine (HNm.out _).mono ?_
     rintro e w1 ⟨rfl, b1⟩
     have HQ := zh ((Qs.made nm op vl w).below b1)
     clear b1
     obtain ⟨r1, r2, r3, r4, r5, r6, r7, r8, r9, r10, r11⟩ := HQ.out.reads
     go_wp2
     exact bodyPost_ret (v := .tuple #[.agg #[.string ⟨#[]⟩, .int .i64 0, .string ⟨#[]⟩, .pointer none], .bool false]) (by simp [results, Tryz.results168, go_sem, r4, r5, r6, r7]) rfl ⟨⟨_, _, _, _, rfl⟩, zbI HQ.out.2.2⟩
end Go.Proofs.YtbcemjhaecelnaaGreatDoor.Sto
end
section
namespace Go.Proofs.YtbcemjhaecelnaaGreatDoor.Sto
open Go.RowKit
def zgg (w : World) (o : Option Addr) (ms : List Mat) : Prop := ms = [] \/ ∃ b off, o = some ⟨b, off, none⟩ /\ b < w.heap.size /\ ∀ (j : Nat) (m : Mat), ms[j]? = some m -> w.cell? ⟨b, off + j * 3, none⟩ = some (.string m.1) /\ w.cell? ⟨b, off + j * 3 + 1, none⟩ = some (.int .i64 m.2.1) /\ w.cell? ⟨b, off + j * 3 + 2, none⟩ = some (.string m.2.2)
theorem zgg.below {w w' : World} {o : Option Addr} {ms : List Mat} (h : zgg w o ms) (hb : Below w.heap.size w w') : zgg w' o ms :=
 h.imp id fun ⟨b, off, e, h1, h2⟩ => ⟨b, off, e, Nat.lt_of_lt_of_le h1 hb.size, fun j m hm => ⟨(hb.cell (p := ⟨b, off + j * 3, none⟩) h1).trans (h2 j m hm).1, (hb.cell (p := ⟨b, off + j * 3 + 1, none⟩) h1).trans (h2 j m hm).2.1, (hb.cell (p := ⟨b, off + j * 3 + 2, none⟩) h1).trans (h2 j m hm).2.2⟩⟩
theorem zgh {w w' : World} {B e size n : Nat} {v : Value} {xs : List Value} (h : w.ownsRow B e size v n xs) (hb : Below w.heap.size w w') : w'.ownsRow B e size v n xs :=
 h.kept (row := none) ⟨hb.os, hb.tape, hb.output, hb.size, fun k hk _ => hb.block k hk⟩ (by cases hv : v.ownBlock <;> simp)
theorem infoQ : (Tryz.prog.info? 207).map (fun i => (i.zero, i.size, i.bytes)) = some (some (.agg #[.string ⟨#[]⟩, .int .i64 0, .string ⟨#[]⟩, .pointer none]), 4, 48) := by kernel_rfl
theorem cells_4v (w : World) (a b c d : Value) (t : TypeId) : ∀ j u, [a, b, c, d][j]? = some u -> (w.alloc (.cells #[a, b, c, d] t)).cell? ((⟨w.heap.size, 0, none⟩ : Addr).add j) = some u := by
 intro j u hj
 match j, hj with
 | 0, hj => simp at hj; subst hj; simp [Addr.add]
 | 1, hj => simp at hj; subst hj; simp [Addr.add]
 | 2, hj => simp at hj; subst hj; simp [Addr.add]
 | 3, hj => simp at hj; subst hj; simp [Addr.add]
 | j + 4, hj => simp at hj
theorem one_4q (a c : ByteArray) (b : Int) (d : Option Addr) : ∀ v ∈ [Value.string a, .int .i64 b, .string c, .pointer d], v.oneCell' = true := by
 intro v hv; simp at hv; rcases hv with rfl | rfl | rfl | rfl <;> rfl
theorem read_any (o : Option Addr) (n c : Nat) (ms : List Mat) (w : World) (hn : ms.length = n) (hn2 : n <= 1000000) (hok : ∀ m ∈ ms, m.Ok) (hS : zgg w o ms) :
 Calls Tryz.prog 163 #[.slice o n c] w fun e w' => (∃ o n c, e = .returned (.tuple #[.slice o n c, .bool (zbt ms)])) /\ Below w.heap.size w w' := by
 obtain ⟨i0, hi, hz0, hz1, hz2⟩ := info_parts infoQ
 by_cases h10 : 10 < n
 ·have h10i : (10 : Int) < n := by omega
  have HM := zh (show zbt ms = false by unfold zbt; rw [hn, decide_eq_false (by omega)]; rfl)
  rw [HM.out]
  go_enter Tryz.func163, Tryz.ntmps163
  go_wp2
  go_ret2
  exact ⟨⟨_, _, _, rfl⟩, Below.refl _ _⟩
 ·have h10i : ¬ (10 : Int) < n := by omega
  have HMS := zh (show zbt ms = ms.all matB by unfold zbt; rw [hn, decide_eq_true (by omega)]; rfl)
  have HN := zh hn
  have HS := zh hS
  have HO := zh hok
  have HR := zh (fun (m : Mat) W (h : m.Ok) => readOne_any m W h)
  obtain ⟨R, hR⟩ : ∃ R, zbt ms = R := ⟨_, rfl⟩
  have HRR := zh hR
  rw [hR]
  clear hS hok hn hR
  go_enter Tryz.func163, Tryz.ntmps163
  go_wp2
  go_loopw [4, 6, 7, 8, 14] (fun v4 v6 v7 v8 v14 wr => ∃ (k : Nat) (xs : List Value), v14 = .int .i64 k /\ k <= n /\ Hid ((ms.take k).all matB = true) /\ Hid (wr.ownsRow w.heap.size 207 4 v4 k xs) /\ Hid (Below w.heap.size w wr)) (fun _ _ _ _ v14 _ => n - (intOf v14).toNat)
  case atStart => exact ⟨0, [], rfl, Nat.zero_le _, rfl, World.ownsRow_nil _ _ _ _, Below.refl _ _⟩
  case round =>
   obtain ⟨k, qs, rfl, hk, HAL, HA, HB⟩ := hrel
   by_cases hkn : k < n
   ·have j1 : (k : Int) < n := by omega
    obtain ⟨m, hm⟩ : ∃ m, ms[k]? = some m := ⟨_, List.getElem?_eq_getElem (by rw [HN.out]; exact hkn)⟩
    obtain ⟨b, off, rfl, hbl, hcs⟩ := (HS.out.below HB.out).resolve_left (fun h => by rw [h] at hm; simp at hm)
    obtain ⟨c0, c1, c2⟩ := hcs k m hm
    have hmok := HO.out m (List.mem_of_getElem? hm)
    have HX := zh hm
    have HC := zh (HR.out m (wr.alloc (Obj.cells #[.string m.1, .int .i64 m.2.1, .string m.2.2] 40)) hmok)
    have HBX := zh (show Below wr.heap.size wr (wr.alloc (Obj.cells #[.string m.1, .int .i64 m.2.1, .string m.2.2] 40)) from (Below.refl _ _).alloc (Nat.le_refl _) _)
    have HTK := zh (show ms.take (k + 1) = ms.take k ++ [m] by rw [List.take_add_one, hm]; rfl)
    clear hcs hm hmok
    go_wp2_with fail
    refine HC.out.mono ?_
    rintro e w2 ⟨⟨a, b', c', p, rfl⟩, b2⟩
    have HB2 := zh (show Below w.heap.size w w2 from (HB.out.trans (HBX.out.mono HB.out.size)).trans (b2.mono (Nat.le_trans HB.out.size HBX.out.size)))
    have HA2 := zh (zgh HA.out (HBX.out.trans (b2.mono HBX.out.size)))
    clear b2 HC
    cases hmb : matB m with
    | false =>
      have HF := zh (show R = false by
       rw [<- HRR.out, HMS.out]
       have : m ∈ ms := List.mem_of_getElem? HX.out
       rw [Bool.eq_false_iff]
       intro h
       rw [List.all_eq_true] at h
       rw [h m this] at hmb
       cases hmb)
      clear hmb
      go_wp2
      go_ret2
      obtain rfl := HF.out
      exact ⟨⟨_, _, _, rfl⟩, HB2.out.alloc HB2.out.size _⟩
    | true =>
      have HAL2 := zh (show (ms.take (k + 1)).all matB = true by rw [HTK.out, List.all_append, HAL.out]; simp [hmb])
      have hown2 := HA2.out
      have hzw := HB2.out.size
      clear hmb
      have V1 : Below w2.heap.size w2 ((w2.alloc (Obj.cells #[.string a, .int .i64 b', .string c', .pointer p] 207)).alloc (Obj.cells #[.string a, .int .i64 b', .string c', .pointer p] 207)) := ((Below.refl _ _).alloc (Nat.le_refl _) _).alloc (by simp) _
      have HV := zh V1
      have hownV := zgh hown2 V1
      clear V1
      go_wp2_with (at_builtin; go_must (refine wpList_append_own _ rfl _ _ 195 rfl w.heap.size 207 i0 (.agg #[.string ⟨#[]⟩, .int .i64 0, .string ⟨#[]⟩, .pointer none]) 4 48 Tryz.underlying195 hi hz0 hz1 hz2 rfl (by decide) _ _ _ rfl hownV ⟨w2.heap.size + 1, 0, none⟩ 1 1 [.string a, .int .i64 b', .string c', .pointer p] rfl rfl (by rw [show w2.heap.size + 1 = (w2.alloc (Obj.cells #[.string a, .int .i64 b', .string c', .pointer p] 207)).heap.size by simp]; exact cells_4v _ _ _ _ _ _) (one_4q _ _ _ _) (by unfold maxLen; omega) (by omega) (by simp; omega) ?_); intro v' w3 hown' hgrow3 hnil3)
      have hB3 : Below w.heap.size w w3 := Below.grown (HB2.out.trans (HV.out.mono hzw)) hgrow3 (Nat.le_trans hzw HV.out.size) (fun j hj => (hownV.lt _ hj).1)
      have HA3 := zh hown'
      have HB3 := zh hB3
      clear hown' hgrow3 hnil3 hown2 hB3 hzw hownV
      go_roundw
      case rel => exact ⟨k + 1, _, by go_num, by omega, HAL2, HA3, HB3⟩
      case measure => simp [intOf]; omega
   ·have HZ := zh (show ms.take k = ms from List.take_of_length_le (by rw [HN.out]; omega))
    have HT := zh (show R = true by rw [<- HRR.out, HMS.out, <- HAL.out, HZ.out])
    obtain ⟨o4, c4, rfl⟩ := Pat.own_shape HA.out
    go_wp2
    go_ret2
    obtain rfl := HT.out
    exact ⟨⟨_, _, _, rfl⟩, HB.out⟩
theorem zgi (o : Option Addr) (n c : Nat) (ms : List Mat) (w : World) (hn : ms.length = n) (hn2 : n <= 1000000) (hok : ∀ m ∈ ms, m.Ok) (hS : zgg w o ms) :
 Calls Tryz.prog 154 #[.slice o n c] w fun e w' => e = .returned (.bool (zbt ms)) /\ Below w.heap.size w w' := by
 have HR := zh (read_any o n c ms w hn hn2 hok hS)
 generalize zbt ms = R at HR ⊢
 clear hn hn2 hok hS
 go_enter Tryz.func154, Tryz.ntmps154
 go_wp2_with fail
 refine HR.out.mono ?_
 rintro e w1 ⟨⟨o1, n1, c1, rfl⟩, b1⟩
 go_wp2
 go_ret
 exact ⟨rfl, b1⟩
end Go.Proofs.YtbcemjhaecelnaaGreatDoor.Sto
end
end
