import Derived.Test.YtbcemjhaecelnaaGreatDoorMg18
section
set_option maxHeartbeats 4000000
set_option maxRecDepth 100000
section
namespace Go.Proofs.YtbcemjhaecelnaaGreatDoor.Par
open Go.RowKit Go.Lib
open Go.Proofs.YtbcemjhaecelnaaGreatDoor.Sto
def Box7 (w : World) (k : Nat) (a b c d e f g : Value) : Prop := w.heap[k]? = some (.cells #[a, b, c, d, e, f, g] 27 (0, 0))
theorem Box7.reads {w : World} {k : Nat} {a b c d e f g : Value} (h : Box7 w k a b c d e f g) : (w.cell? ⟨k, 0, none⟩ = some a /\ w.cell? ⟨k, 1, none⟩ = some b /\ w.cell? ⟨k, 2, none⟩ = some c /\ w.cell? ⟨k, 3, none⟩ = some d /\ w.cell? ⟨k, 4, none⟩ = some e /\ w.cell? ⟨k, 5, none⟩ = some f /\ w.cell? ⟨k, 6, none⟩ = some g) /\
 w.frozen? ⟨k, 0, none⟩ = false /\ w.frozen? ⟨k, 1, none⟩ = false /\ w.frozen? ⟨k, 2, none⟩ = false /\ w.frozen? ⟨k, 3, none⟩ = false /\ w.frozen? ⟨k, 4, none⟩ = false /\ w.frozen? ⟨k, 5, none⟩ = false /\ w.frozen? ⟨k, 6, none⟩ = false := by
 unfold Box7 at h
 refine ⟨⟨?_, ?_, ?_, ?_, ?_, ?_, ?_⟩, ?_, ?_, ?_, ?_, ?_, ?_, ?_⟩ <;> simp [World.cell?, World.frozen?, h]
abbrev put7 (w : World) (k : Nat) (a b c d e f g : Value) : World := ((((((w.setCell ⟨k, 0, none⟩ a).setCell ⟨k, 1, none⟩ b).setCell ⟨k, 2, none⟩ c).setCell ⟨k, 3, none⟩ d).setCell ⟨k, 4, none⟩ e).setCell ⟨k, 5, none⟩ f).setCell ⟨k, 6, none⟩ g
theorem za1 (w : World) (k : Nat) (a b c d e f g : Value) : ∀ j, j ≠ k -> (put7 w k a b c d e f g).heap[j]? = w.heap[j]? := fun j hj => by
 unfold put7
 rw [Below.heap_setCell _ _ _ _ hj, Below.heap_setCell _ _ _ _ hj, Below.heap_setCell _ _ _ _ hj, Below.heap_setCell _ _ _ _ hj, Below.heap_setCell _ _ _ _ hj, Below.heap_setCell _ _ _ _ hj, Below.heap_setCell _ _ _ _ hj]
theorem zaf {w0 w : World} {r : Option Nat} (h : w0.grownBy w r) {k : Nat} (hk : w0.heap.size <= k) (a b c d e f g : Value) : w0.grownBy (put7 w k a b c d e f g) r :=
 grown_setNew (grown_setNew (grown_setNew (grown_setNew (grown_setNew (grown_setNew (grown_setNew h hk 0 a) hk 1 b) hk 2 c) hk 3 d) hk 4 e) hk 5 f) hk 6 g
theorem zcs {w : World} {bd k : Nat} {l : List Tq} (h : Rd w bd l) (hk : bd < k) (a b c d e f g : Value) : Rd (put7 w k a b c d e f g) bd l :=
 h.keep fun j hj => za1 w k a b c d e f g j (by omega)
theorem zba {w : World} {k : Nat} {P Q : Nat -> Prop} {cs : List Value} {x : Ex} (h : Nod w P cs x) (hP : ∀ b, P b -> b ≠ k /\ Q b) (a b c d e f g : Value) : Nod (put7 w k a b c d e f g) Q cs x :=
 h.keep fun j hj _ => ⟨za1 w k a b c d e f g j (hP j hj).1, (hP j hj).2⟩
theorem zfI {w : World} {k : Nat} {a b c d e f g : Value} (h : Box7 w k a b c d e f g) (a' b' c' d' e' f' g' : Value) : Box7 (put7 w k a' b' c' d' e' f' g') k a' b' c' d' e' f' g' := by
 unfold Box7 at h
 have e0 : (w.setCell ⟨k, 0, none⟩ a').heap[k]? = some (.cells #[a', b, c, d, e, f, g] 27 (0, 0)) := heap_setCell_same _ k 0 #[a, b, c, d, e, f, g] 27 a' h
 have e1 : ((w.setCell ⟨k, 0, none⟩ a').setCell ⟨k, 1, none⟩ b').heap[k]? = some (.cells #[a', b', c, d, e, f, g] 27 (0, 0)) := heap_setCell_same _ k 1 #[a', b, c, d, e, f, g] 27 b' e0
 have e2 : (((w.setCell ⟨k, 0, none⟩ a').setCell ⟨k, 1, none⟩ b').setCell ⟨k, 2, none⟩ c').heap[k]? = some (.cells #[a', b', c', d, e, f, g] 27 (0, 0)) := heap_setCell_same _ k 2 #[a', b', c, d, e, f, g] 27 c' e1
 have e3 : ((((w.setCell ⟨k, 0, none⟩ a').setCell ⟨k, 1, none⟩ b').setCell ⟨k, 2, none⟩ c').setCell ⟨k, 3, none⟩ d').heap[k]? = some (.cells #[a', b', c', d', e, f, g] 27 (0, 0)) := heap_setCell_same _ k 3 #[a', b', c', d, e, f, g] 27 d' e2
 have e4 : (((((w.setCell ⟨k, 0, none⟩ a').setCell ⟨k, 1, none⟩ b').setCell ⟨k, 2, none⟩ c').setCell ⟨k, 3, none⟩ d').setCell ⟨k, 4, none⟩ e').heap[k]? = some (.cells #[a', b', c', d', e', f, g] 27 (0, 0)) := heap_setCell_same _ k 4 #[a', b', c', d', e, f, g] 27 e' e3
 have e5 : ((((((w.setCell ⟨k, 0, none⟩ a').setCell ⟨k, 1, none⟩ b').setCell ⟨k, 2, none⟩ c').setCell ⟨k, 3, none⟩ d').setCell ⟨k, 4, none⟩ e').setCell ⟨k, 5, none⟩ f').heap[k]? = some (.cells #[a', b', c', d', e', f', g] 27 (0, 0)) := heap_setCell_same _ k 5 #[a', b', c', d', e', f, g] 27 f' e4
 have e6 : (((((((w.setCell ⟨k, 0, none⟩ a').setCell ⟨k, 1, none⟩ b').setCell ⟨k, 2, none⟩ c').setCell ⟨k, 3, none⟩ d').setCell ⟨k, 4, none⟩ e').setCell ⟨k, 5, none⟩ f').setCell ⟨k, 6, none⟩ g').heap[k]? = some (.cells #[a', b', c', d', e', f', g'] 27 (0, 0)) := heap_setCell_same _ k 6 #[a', b', c', d', e', f', g] 27 g' e5
 exact e6
theorem zbX : Raw [.string ⟨#[]⟩, .string ⟨#[]⟩, .int .i64 0, .int .i64 0, .slice none 0 0, .slice none 0 0, .slice none 0 0] := ⟨_, _, _, _, _, _, _, _, _, _, _, _, _, rfl⟩
theorem zal (w : World) (a b c d e f g : Value) : Box7 (w.alloc (Obj.cells #[a, b, c, d, e, f, g] 27)) w.heap.size a b c d e f g := Array.getElem?_push_size
theorem zgg.of {w : World} {P : Nat -> Prop} {o : Option Addr} {ms : List Mat} (h : za2 w P o 3 (ms.map encM)) : zgg w o ms := by
 rcases h with h | ⟨b, off, e, _, hl, hs⟩
 ·exact .inl (by simpa using h)
 ·refine .inr ⟨b, off, e, hl, fun j m hm => ?_⟩
  have hj : (ms.map encM)[j]? = some (encM m) := by rw [List.getElem?_map, hm]; rfl
  have h0 := hs j _ hj 0 _ rfl
  have h1 := hs j _ hj 1 _ rfl
  have h2 := hs j _ hj 2 _ rfl
  exact ⟨h0, h1, h2⟩
theorem zbY (bd : Nat) (l : List Tq) (tx : ByteArray) (hk : isT 5 tx.data.toList l = false) (w : World) (h : Rd w bd l) :
 Calls Tryz.prog 111 #[.pointer (some ⟨bd, 0, none⟩), .string tx] w fun e w' => e = .returned (.bool false) /\ Rd w' bd l /\ w.grownBy w' (some bd) :=
 (zbR bd l tx hk w h).mono fun _e _w' q => ⟨q.1, q.2 ▸ h, q.2 ▸ grown_refl _ _⟩
theorem sel_none (bd : Nat) (metric : ByteArray) (l : List Tq) (w : World) (h : Rd w bd l) (h1 : isT 5 [123] l = false) :
 Calls Tryz.prog 135 #[.pointer (some ⟨bd, 0, none⟩), .string metric, .bool false] w (Res w bd none) := by
 have hfar := h.lt
 have HS := zh (zbY bd l ⟨#[123]⟩ h1 _ (h.alloc (Obj.cells #[.string ⟨#[]⟩, .string ⟨#[]⟩, .int .i64 0, .int .i64 0, .slice none 0 0, .slice none 0 0, .slice none 0 0] 27)))
 have HB := zh (zal w (.string ⟨#[]⟩) (.string ⟨#[]⟩) (.int .i64 0) (.int .i64 0) (.slice none 0 0) (.slice none 0 0) (.slice none 0 0))
 have HG := zh (grown_alloc (grown_refl w (some bd)) (Obj.cells #[.string ⟨#[]⟩, .string ⟨#[]⟩, .int .i64 0, .int .i64 0, .slice none 0 0, .slice none 0 0, .slice none 0 0] 27))
 clear h h1
 go_enter Tryz.func135, Tryz.ntmps135
 go_wp2_with fail
 refine HS.out.mono ?_
 rintro e w1 ⟨rfl, _, hg1⟩
 have HB1 := zh (show Box7 w1 w.heap.size (.string ⟨#[]⟩) (.string ⟨#[]⟩) (.int .i64 0) (.int .i64 0) (.slice none 0 0) (.slice none 0 0) (.slice none 0 0) from zaa HB.out hg1 (by omega))
 have HG1 := zh (grown_trans HG.out hg1)
 clear hg1
 obtain ⟨⟨q0, q1, q2, q3, q4, q5, q6⟩, f0, f1, f2, f3, f4, f5, f6⟩ := HB1.out.reads
 go_wp2
 refine bodyPost_ret (v := .tuple #[.agg #[.string ⟨#[]⟩, .string ⟨#[]⟩, .int .i64 0, .int .i64 0, .slice none 0 0, .slice none 0 0, .slice none 0 0], .bool false]) (by simp [results, Tryz.results135, go_sem, q0, q1, q2, q3, q4, q5, q6]) rfl ?_
 exact ⟨[.string ⟨#[]⟩, .string ⟨#[]⟩, .int .i64 0, .int .i64 0, .slice none 0 0, .slice none 0 0, .slice none 0 0], rfl, zbX, zaf HG1.out (Nat.le_refl _) _ _ _ _ _ _ _⟩
theorem zhW (bd : Nat) (metric : ByteArray) (named : Bool) (l : List Tq) (w : World) (h : Rd w bd l) :
 Calls Tryz.prog 135 #[.pointer (some ⟨bd, 0, none⟩), .string metric, .bool named] w (Res w bd (selP metric.data.toList named l)) := by
 have hfar := h.lt
 have HB := zh (zal w (.string ⟨#[]⟩) (.string ⟨#[]⟩) (.int .i64 0) (.int .i64 0) (.slice none 0 0) (.slice none 0 0) (.slice none 0 0))
 have HG := zh (grown_alloc (grown_refl w (some bd)) (Obj.cells #[.string ⟨#[]⟩, .string ⟨#[]⟩, .int .i64 0, .int .i64 0, .slice none 0 0, .slice none 0 0, .slice none 0 0] 27))
 have HR0 := zh (h.alloc (Obj.cells #[.string ⟨#[]⟩, .string ⟨#[]⟩, .int .i64 0, .int .i64 0, .slice none 0 0, .slice none 0 0, .slice none 0 0] 27))
 have hT : selP metric.data.toList named l = match zb0 named l with | none => none | some (ms, m) => if zbt ms then (za4 m).map fun p => (.sel metric p.1 ms, p.2) else none := by
  unfold selP; rw [show bz metric.data.toList = metric from zdq metric]; rfl
 obtain ⟨T, hTT⟩ : ∃ T, selP metric.data.toList named l = T := ⟨_, rfl⟩
 rw [hTT] at hT ⊢
 clear hTT
 unfold zb0 at hT
 cases h1 : isT 5 [123] l with
 | true =>
   rw [if_pos h1] at hT
   have HS := zh (za9 bd l ⟨#[123]⟩ h1 _ HR0.out)
   have HM := zh (fun W (hr : Rd W bd l.tail) => mats_any bd l.tail ⟨#[125]⟩ W hr)
   rw [show (⟨#[125]⟩ : ByteArray).data.toList = [125] from rfl] at HM
   cases hm : zbe matP [125] l.tail with
   | none =>
     rw [hm] at hT HM
     have HT := zh hT
     clear h h1 hT hm HR0
     go_enter Tryz.func135, Tryz.ntmps135
     go_wp2_with fail
     refine HS.out.mono ?_
     rintro e w1 ⟨rfl, hr1, hg1⟩
     have HB1 := zh (zaa HB.out hg1 (by omega))
     have HG1 := zh (grown_trans HG.out hg1)
     have HMM := zh (HM.out w1 hr1)
     clear hr1 hg1
     go_wp2_with fail
     refine HMM.out.mono ?_
     rintro e w2 ⟨⟨o, n, c, rfl⟩, hg2⟩
     have HB2 := zh (show Box7 w2 w.heap.size (.string ⟨#[]⟩) (.string ⟨#[]⟩) (.int .i64 0) (.int .i64 0) (.slice none 0 0) (.slice none 0 0) (.slice none 0 0) from zaa HB1.out hg2 (by omega))
     have HG2 := zh (grown_trans HG1.out hg2)
     clear hg2
     obtain ⟨⟨q0, q1, q2, q3, q4, q5, q6⟩, f0, f1, f2, f3, f4, f5, f6⟩ := HB2.out.reads
     go_wp2
     refine bodyPost_ret (v := .tuple #[.agg #[.string ⟨#[]⟩, .string ⟨#[]⟩, .int .i64 0, .int .i64 0, .slice none 0 0, .slice none 0 0, .slice none 0 0], .bool false]) (by simp [results, Tryz.results135, go_sem, q0, q1, q2, q3, q4, q5, q6]) rfl ?_
     rw [HT.out]
     exact ⟨[.string ⟨#[]⟩, .string ⟨#[]⟩, .int .i64 0, .int .i64 0, .slice none 0 0, .slice none 0 0, .slice none 0 0], rfl, zbX, zaf HG2.out (Nat.le_refl _) _ _ _ _ _ _ _⟩
   | some p =>
     obtain ⟨ms, m⟩ := p
     rw [hm] at hT HM
     have HW := zh (fun W (hr : Rd W bd m) => zfi bd m W hr)
     obtain ⟨wn, hwn⟩ : ∃ wn, za4 m = wn := ⟨_, rfl⟩
     obtain ⟨bm, hbm⟩ : ∃ bm, zbt ms = bm := ⟨_, rfl⟩
     rw [hwn] at HW
     dsimp only at hT
     rw [hwn, hbm] at hT
     have HT := zh hT
     have HBM := zh hbm
     clear h h1 hT hm HR0 hwn hbm
     go_enter Tryz.func135, Tryz.ntmps135
     go_wp2_with fail
     refine HS.out.mono ?_
     rintro e w1 ⟨rfl, hr1, hg1⟩
     have HB1 := zh (zaa HB.out hg1 (by omega))
     have HG1 := zh (grown_trans HG.out hg1)
     have HMM := zh (HM.out w1 hr1)
     have hsz1 : w.heap.size < w1.heap.size := Nat.lt_of_lt_of_le (by simp) hg1.size
     clear hr1 hg1
     go_wp2_with fail
     refine HMM.out.mono ?_
     rintro e w2 ⟨⟨o, n, c, rfl, hln, hnn, hs2⟩, hok2, hr2, hg2⟩
     have HB2 := zh (zaa HB1.out hg2 (by omega))
     have HG2 := zh (grown_trans HG1.out hg2)
     have HR2 := zh hr2
     have HS2 := zh hs2
     have HLN := zh hln
     have HRT := zh (zgi o n c ms w2 hln hnn hok2 (zgg.of hs2))
     rw [HBM.out] at HRT
     clear hg2 hr2 hs2 hln hok2
     go_wp2_with fail
     refine HRT.out.mono ?_
     rintro e w3 ⟨rfl, b3⟩
     have HB3 := zh (show Box7 w3 w.heap.size (.string ⟨#[]⟩) (.string ⟨#[]⟩) (.int .i64 0) (.int .i64 0) (.slice none 0 0) (.slice none 0 0) (.slice none 0 0) from zaa HB2.out (grown_of_below b3 (some bd)) (by omega))
     have HG3 := zh (grown_trans HG2.out (grown_of_below b3 _))
     have HR3 := zh (HR2.out.below b3)
     have HS3 := zh (HS2.out.keep (w' := w3) (Q := fun b => w1.heap.size <= b) (fun b hb hl => ⟨b3.block b hl, hb⟩))
     clear b3
     cases bm with
     | false =>
       obtain ⟨⟨q0, q1, q2, q3, q4, q5, q6⟩, f0, f1, f2, f3, f4, f5, f6⟩ := HB3.out.reads
       go_wp2
       refine bodyPost_ret (v := .tuple #[.agg #[.string ⟨#[]⟩, .string ⟨#[]⟩, .int .i64 0, .int .i64 0, .slice none 0 0, .slice none 0 0, .slice none 0 0], .bool false]) (by simp [results, Tryz.results135, go_sem, q0, q1, q2, q3, q4, q5, q6]) rfl ?_
       rw [HT.out]
       exact ⟨[.string ⟨#[]⟩, .string ⟨#[]⟩, .int .i64 0, .int .i64 0, .slice none 0 0, .slice none 0 0, .slice none 0 0], rfl, zbX, zaf HG3.out (Nat.le_refl _) _ _ _ _ _ _ _⟩
     | true =>
       go_wp2_with fail
       refine (HW.out w3 HR3.out).mono ?_
       intro e w4 he4
       cases wn with
       | none =>
         obtain ⟨⟨z, rfl⟩, hg4⟩ := he4
         have HB4 := zh (show Box7 w4 w.heap.size (.string ⟨#[]⟩) (.string ⟨#[]⟩) (.int .i64 0) (.int .i64 0) (.slice none 0 0) (.slice none 0 0) (.slice none 0 0) from zaa HB3.out hg4 (by omega))
         have HG4 := zh (grown_trans HG3.out hg4)
         clear hg4
         obtain ⟨⟨q0, q1, q2, q3, q4, q5, q6⟩, f0, f1, f2, f3, f4, f5, f6⟩ := HB4.out.reads
         go_wp2
         refine bodyPost_ret (v := .tuple #[.agg #[.string ⟨#[115, 101, 108]⟩, .string metric, .int .i64 z, .int .i64 0, .slice none 0 0, .slice o n c, .slice none 0 0], .bool false]) (by simp [results, Tryz.results135, go_sem, q0, q1, q2, q3, q4, q5, q6]) rfl ?_
         rw [HT.out]
         exact ⟨[.string ⟨#[115, 101, 108]⟩, .string metric, .int .i64 z, .int .i64 0, .slice none 0 0, .slice o n c, .slice none 0 0], rfl, ⟨_, _, _, _, _, _, _, _, _, _, _, _, _, rfl⟩, zaf HG4.out (Nat.le_refl _) _ _ _ _ _ _ _⟩
       | some pw =>
         obtain ⟨z, k⟩ := pw
         obtain ⟨rfl, hr4, hg4⟩ := he4
         have HB4 := zh (show Box7 w4 w.heap.size (.string ⟨#[]⟩) (.string ⟨#[]⟩) (.int .i64 0) (.int .i64 0) (.slice none 0 0) (.slice none 0 0) (.slice none 0 0) from zaa HB3.out hg4 (by omega))
         have HG4 := zh (grown_trans HG3.out hg4)
         have HR4 := zh hr4
         have HN4 := zh (show Nod w4 (fun b => w1.heap.size <= b) [.string ⟨#[115, 101, 108]⟩, .string metric, .int .i64 (z : Nat), .int .i64 0, .slice none 0 0, .slice o n c, .slice none 0 0] (.sel metric z ms) from
          .mk (.sel metric z ms) _ _ none o none 0 0 n c 0 0 [] rfl rfl ⟨rfl, Nat.le_refl _⟩ HLN.out rfl rfl (.inl rfl) (HS3.out.keep (fun b hb hl => ⟨hg4.block b hl (by simp; omega), hb⟩)) (.inl rfl) (fun j cs y h => by simp at h))
         clear hg4 hr4
         obtain ⟨⟨q0, q1, q2, q3, q4, q5, q6⟩, f0, f1, f2, f3, f4, f5, f6⟩ := HB4.out.reads
         go_wp2
         refine bodyPost_ret (v := .tuple #[.agg #[.string ⟨#[115, 101, 108]⟩, .string metric, .int .i64 (z : Nat), .int .i64 0, .slice none 0 0, .slice o n c, .slice none 0 0], .bool true]) (by simp [results, Tryz.results135, go_sem, q0, q1, q2, q3, q4, q5, q6]) rfl ?_
         rw [HT.out]
         exact ⟨_, rfl, zba HN4.out (fun b hb => ⟨by omega, by omega⟩) _ _ _ _ _ _ _, zcs HR4.out hfar _ _ _ _ _ _ _, zaf HG4.out (Nat.le_refl _) _ _ _ _ _ _ _⟩
 | false =>
   rw [if_neg (by rw [h1]; simp)] at hT
   cases named with
   | false =>
     rw [hT]
     exact sel_none bd metric l w h h1
   | true =>
     rw [if_pos rfl] at hT
     have HS := zh (zbY bd l ⟨#[123]⟩ h1 _ HR0.out)
     have HRT := zh (fun W => zgi none 0 0 [] W rfl (by decide) (fun x hx => absurd hx (by simp)) (.inl rfl))
     rw [show zbt [] = true from rfl] at HRT
     have HW := zh (fun W (hr : Rd W bd l) => zfi bd l W hr)
     obtain ⟨wn, hwn⟩ : ∃ wn, za4 l = wn := ⟨_, rfl⟩
     rw [hwn] at HW
     dsimp only at hT
     rw [hwn, show zbt [] = true from rfl] at hT
     have HT := zh hT
     clear h h1 hT hwn
     go_enter Tryz.func135, Tryz.ntmps135
     go_wp2_with fail
     refine HS.out.mono ?_
     rintro e w1 ⟨rfl, hr1, hg1⟩
     have HB1 := zh (zaa HB.out hg1 (by omega))
     have HG1 := zh (grown_trans HG.out hg1)
     have HR1 := zh hr1
     have hsz1 : w.heap.size < w1.heap.size := Nat.lt_of_lt_of_le (by simp) hg1.size
     clear hr1 hg1
     go_wp2_with fail
     refine (HRT.out _).mono ?_
     rintro e w3 ⟨rfl, b3⟩
     have HB3 := zh (zaa HB1.out (grown_of_below b3 (some bd)) (by omega))
     have HG3 := zh (grown_trans HG1.out (grown_of_below b3 _))
     have HR3 := zh (HR1.out.below b3)
     have hsz3 : w.heap.size < w3.heap.size := Nat.lt_of_lt_of_le hsz1 b3.size
     clear b3
     go_wp2_with fail
     refine (HW.out w3 HR3.out).mono ?_
     intro e w4 he4
     cases wn with
     | none =>
       obtain ⟨⟨z, rfl⟩, hg4⟩ := he4
       have HB4 := zh (show Box7 w4 w.heap.size (.string ⟨#[]⟩) (.string ⟨#[]⟩) (.int .i64 0) (.int .i64 0) (.slice none 0 0) (.slice none 0 0) (.slice none 0 0) from zaa HB3.out hg4 (by omega))
       have HG4 := zh (grown_trans HG3.out hg4)
       clear hg4
       obtain ⟨⟨q0, q1, q2, q3, q4, q5, q6⟩, f0, f1, f2, f3, f4, f5, f6⟩ := HB4.out.reads
       go_wp2
       refine bodyPost_ret (v := .tuple #[.agg #[.string ⟨#[115, 101, 108]⟩, .string metric, .int .i64 z, .int .i64 0, .slice none 0 0, .slice none 0 0, .slice none 0 0], .bool false]) (by simp [results, Tryz.results135, go_sem, q0, q1, q2, q3, q4, q5, q6]) rfl ?_
       rw [HT.out]
       exact ⟨[.string ⟨#[115, 101, 108]⟩, .string metric, .int .i64 z, .int .i64 0, .slice none 0 0, .slice none 0 0, .slice none 0 0], rfl, ⟨_, _, _, _, _, _, _, _, _, _, _, _, _, rfl⟩, zaf HG4.out (Nat.le_refl _) _ _ _ _ _ _ _⟩
     | some pw =>
       obtain ⟨z, k⟩ := pw
       obtain ⟨rfl, hr4, hg4⟩ := he4
       have HB4 := zh (show Box7 w4 w.heap.size (.string ⟨#[]⟩) (.string ⟨#[]⟩) (.int .i64 0) (.int .i64 0) (.slice none 0 0) (.slice none 0 0) (.slice none 0 0) from zaa HB3.out hg4 (by omega))
       have HG4 := zh (grown_trans HG3.out hg4)
       have HR4 := zh hr4
       have HN4 := zh (show Nod w4 (fun b => w3.heap.size <= b) [.string ⟨#[115, 101, 108]⟩, .string metric, .int .i64 (z : Nat), .int .i64 0, .slice none 0 0, .slice none 0 0, .slice none 0 0] (.sel metric z []) from
        .mk (.sel metric z []) _ _ none none none 0 0 0 0 0 0 [] rfl rfl ⟨rfl, Nat.le_refl _⟩ rfl rfl rfl (.inl rfl) (.inl rfl) (.inl rfl) (fun j cs y h => by simp at h))
       clear hg4 hr4
       obtain ⟨⟨q0, q1, q2, q3, q4, q5, q6⟩, f0, f1, f2, f3, f4, f5, f6⟩ := HB4.out.reads
       go_wp2
       refine bodyPost_ret (v := .tuple #[.agg #[.string ⟨#[115, 101, 108]⟩, .string metric, .int .i64 (z : Nat), .int .i64 0, .slice none 0 0, .slice none 0 0, .slice none 0 0], .bool true]) (by simp [results, Tryz.results135, go_sem, q0, q1, q2, q3, q4, q5, q6]) rfl ?_
       rw [HT.out]
       exact ⟨_, rfl, zba HN4.out (fun b hb => ⟨by omega, by omega⟩) _ _ _ _ _ _ _, zcs HR4.out hfar _ _ _ _ _ _ _, zaf HG4.out (Nat.le_refl _) _ _ _ _ _ _ _⟩
end Go.Proofs.YtbcemjhaecelnaaGreatDoor.Par
end
section
namespace Go.Proofs.YtbcemjhaecelnaaGreatDoor.Par
open Go.RowKit Go.Lib
open Go.Proofs.YtbcemjhaecelnaaGreatDoor.Sto
theorem Res.shape {w w' : World} {bd : Nat} {r : Option (Ex × List Tq)} {e : Ending} (h : Res w bd r e w') :
 ∃ a b n m o1 k1 c1 o2 k2 c2 o3 k3 c3, e = .returned (.tuple #[.agg #[.string a, .string b, .int .i64 n, .int .i64 m, .slice o1 k1 c1, .slice o2 k2 c2, .slice o3 k3 c3], .bool r.isSome]) := by
 cases r with
 | none =>
   obtain ⟨cs, rfl, ⟨a, b, n, m, o1, k1, c1, o2, k2, c2, o3, k3, c3, rfl⟩, _⟩ := h
   exact ⟨_, _, _, _, _, _, _, _, _, _, _, _, _, rfl⟩
 | some p =>
   obtain ⟨cs, rfl, hn, _⟩ := h
   obtain ⟨a, b, n, m, o1, k1, c1, o2, k2, c2, o3, k3, c3, rfl⟩ := hn.raw
   exact ⟨_, _, _, _, _, _, _, _, _, _, _, _, _, rfl⟩
theorem zgo {xs : Array Value} {cs : List Value} {b c : Bool} (h : Ending.returned (.tuple #[.agg xs, .bool b]) = .returned (.tuple #[.agg cs.toArray, .bool c])) : xs.toList = cs := by
 simp at h; rw [h.1]
theorem Res.part {w w' : World} {bd : Nat} {x : Ex} {m : List Tq} {xs : Array Value} {b : Bool} (h : Res w bd (some (x, m)) (.returned (.tuple #[.agg xs, .bool b])) w') : Nod w' (fun b => w.heap.size <= b) xs.toList x /\ Rd w' bd m /\ w.grownBy w' (some bd) := by
 obtain ⟨cs, he, h1, h2, h3⟩ := h
 rw [zgo he]; exact ⟨h1, h2, h3⟩
theorem Res.wide {w w' : World} {bd : Nat} {r : Option (Ex × List Tq)} {e : Ending} (h : Res w bd r e w') : w.grownBy w' (some bd) := by
 cases r with
 | none => obtain ⟨_, _, _, h⟩ := h; exact h
 | some p => obtain ⟨_, _, _, _, h⟩ := h; exact h
theorem Res.through {w W1 w2 : World} {bd rb : Nat} {r : Option (Ex × List Tq)} {xs : Array Value} {ok : Bool} (hg : w.grownBy W1 (some bd)) (hrb : w.heap.size = rb) (hlt : rb < W1.heap.size) (hbd : bd < rb) (h : Res W1 bd r (.returned (.tuple #[.agg xs, .bool ok])) w2) (hx : Raw xs.toList) (a b c d e f g : Value) :
 Res w bd r (.returned (.tuple #[.agg xs, .bool r.isSome])) (put7 w2 rb a b c d e f g) := by
 subst hrb
 have hw := grown_trans hg h.wide
 cases r with
 | none => exact ⟨xs.toList, rfl, hx, zaf hw (Nat.le_refl _) _ _ _ _ _ _ _⟩
 | some p =>
   obtain ⟨x, m⟩ := p
   obtain ⟨h1, h2, _⟩ := h.part
   exact ⟨xs.toList, rfl, zba h1 (fun b hb => ⟨by omega, by omega⟩) _ _ _ _ _ _ _, zcs h2 hbd _ _ _ _ _ _ _, zaf hw (Nat.le_refl _) _ _ _ _ _ _ _⟩
theorem raw7 (a b : ByteArray) (n m : Int) (o1 : Option Addr) (k1 c1 : Nat) (o2 : Option Addr) (k2 c2 : Nat) (o3 : Option Addr) (k3 c3 : Nat) : Raw (#[.string a, .string b, .int .i64 n, .int .i64 m, .slice o1 k1 c1, .slice o2 k2 c2, .slice o3 k3 c3] : Array Value).toList := ⟨_, _, _, _, _, _, _, _, _, _, _, _, _, rfl⟩
def ChainC (n : Nat) : Prop := ∀ (t : Nat) (l : List Tq), 1 <= t -> t <= 4 -> 9 * l.length + 8 <= n + t -> ∀ (w : World) (bd : Nat), Rd w bd l -> Calls Tryz.prog 66 #[.pointer (some ⟨bd, 0, none⟩), .int .i64 (t : Nat)] w (Res w bd (chainGo n t l))
def zgp (n : Nat) : Prop := ∀ (l : List Tq), 9 * l.length + 3 <= n -> ∀ (w : World) (bd : Nat), Rd w bd l -> Calls Tryz.prog 89 #[.pointer (some ⟨bd, 0, none⟩)] w (Res w bd (zat n l))
def ziG (n : Nat) : Prop := ∀ (l : List Tq), 9 * l.length + 2 <= n -> ∀ (w : World) (bd : Nat), Rd w bd l -> Calls Tryz.prog 112 #[.pointer (some ⟨bd, 0, none⟩)] w (Res w bd (zaz n l))
def zdg (n : Nat) : Prop := ∀ (l : List Tq), 9 * l.length + 8 <= n -> ∀ (w : World) (bd : Nat), Rd w bd l -> Calls Tryz.prog 129 #[.pointer (some ⟨bd, 0, none⟩)] w (Res w bd (zan n l))
def AggC (n : Nat) : Prop := ∀ (s : ByteArray) (l : List Tq), 9 * l.length <= n -> ∀ (w : World) (bd : Nat), Rd w bd l -> Calls Tryz.prog 131 #[.pointer (some ⟨bd, 0, none⟩), .string s] w (Res w bd (zbj n s.data.toList l))
def FnC (n : Nat) : Prop := ∀ (s : ByteArray) (l : List Tq), 9 * l.length <= n -> ∀ (w : World) (bd : Nat), Rd w bd l -> Calls Tryz.prog 133 #[.pointer (some ⟨bd, 0, none⟩), .string s] w (Res w bd (fnGo n s.data.toList l))
def ResQ (w : World) (bd : Nat) (Q : Nat -> Prop) (r : Option (Ex × List Tq)) (e : Ending) (w' : World) : Prop := match r with
 | none => ∃ cs, e = .returned (.tuple #[.agg cs.toArray, .bool false]) /\ Raw cs /\ w.grownBy w' (some bd)
 | some (x, m) => ∃ cs, e = .returned (.tuple #[.agg cs.toArray, .bool true]) /\ Nod w' (fun b => Q b \/ w.heap.size <= b) cs x /\ Rd w' bd m /\ w.grownBy w' (some bd)
def BinC (n : Nat) : Prop := ∀ (t : Nat) (x : Ex) (l : List Tq), 1 <= t -> t <= 3 -> levelT l = t -> 9 * l.length <= n -> ∀ (w : World) (bd : Nat) (Q : Nat -> Prop) (a b : ByteArray) (z m : Int) (o1 : Option Addr) (k1 c1 : Nat) (o2 : Option Addr) (k2 c2 : Nat) (o3 : Option Addr) (k3 c3 : Nat), Rd w bd l -> (∀ b, Q b -> b ≠ bd) -> Nod w Q [.string a, .string b, .int .i64 z, .int .i64 m, .slice o1 k1 c1, .slice o2 k2 c2, .slice o3 k3 c3] x ->
 Calls Tryz.prog 91 #[.pointer (some ⟨bd, 0, none⟩), .agg #[.string a, .string b, .int .i64 z, .int .i64 m, .slice o1 k1 c1, .slice o2 k2 c2, .slice o3 k3 c3], .int .i64 (t : Nat)] w (ResQ w bd Q (zbP n t x l))
theorem zhX (n : Nat) (hC : ChainC n) (l : List Tq) (hl : 9 * l.length + 8 <= n + 1) (w : World) (bd : Nat) (h : Rd w bd l) :
 Calls Tryz.prog 44 #[.pointer (some ⟨bd, 0, none⟩)] w (Res w bd (chainGo n 1 l)) := by
 have hfar := h.lt
 have HB := zh (zal w (.string ⟨#[]⟩) (.string ⟨#[]⟩) (.int .i64 0) (.int .i64 0) (.slice none 0 0) (.slice none 0 0) (.slice none 0 0))
 have HG := zh (grown_alloc (grown_refl w (some bd)) (Obj.cells #[.string ⟨#[]⟩, .string ⟨#[]⟩, .int .i64 0, .int .i64 0, .slice none 0 0, .slice none 0 0, .slice none 0 0] 27))
 have HCC := zh (hC 1 l (by decide) (by decide) hl _ bd (h.alloc (Obj.cells #[.string ⟨#[]⟩, .string ⟨#[]⟩, .int .i64 0, .int .i64 0, .slice none 0 0, .slice none 0 0, .slice none 0 0] 27)))
 generalize chainGo n 1 l = r at HCC ⊢
 clear h hC hl
 go_enter Tryz.func44, Tryz.ntmps44
 go_wp2_with fail
 refine HCC.out.mono ?_
 intro e w1 hres
 have HRES := zh hres
 have HB1 := zh (show Box7 w1 w.heap.size (.string ⟨#[]⟩) (.string ⟨#[]⟩) (.int .i64 0) (.int .i64 0) (.slice none 0 0) (.slice none 0 0) (.slice none 0 0) from zaa HB.out hres.wide (by omega))
 obtain ⟨a, b, z, m, o1, k1, c1, o2, k2, c2, o3, k3, c3, rfl⟩ := hres.shape
 clear hres
 obtain ⟨⟨q0, q1, q2, q3, q4, q5, q6⟩, f0, f1, f2, f3, f4, f5, f6⟩ := HB1.out.reads
 go_wp2
 refine bodyPost_ret (v := .tuple #[.agg #[.string a, .string b, .int .i64 z, .int .i64 m, .slice o1 k1 c1, .slice o2 k2 c2, .slice o3 k3 c3], .bool r.isSome]) (by simp [results, Tryz.results44, go_sem, q0, q1, q2, q3, q4, q5, q6]) rfl ?_
 exact HRES.out.through HG.out rfl (by simp) hfar (raw7 _ _ _ _ _ _ _ _ _ _ _ _ _) _ _ _ _ _ _ _
end Go.Proofs.YtbcemjhaecelnaaGreatDoor.Par
end
section
namespace Go.Proofs.YtbcemjhaecelnaaGreatDoor.Par
open Go.RowKit Go.Lib
open Go.Proofs.YtbcemjhaecelnaaGreatDoor.Sto
theorem kid_one {w w2 : World} {B : Nat} {P : Nat -> Prop} {a b : ByteArray} {z m : Int} {o1 : Option Addr} {k1 c1 : Nat} {o2 : Option Addr} {k2 c2 : Nat} {o3 : Option Addr} {k3 c3 : Nat} {x : Ex} (o : Obj)
 (h : Nod w2 P [.string a, .string b, .int .i64 z, .int .i64 m, .slice o1 k1 c1, .slice o2 k2 c2, .slice o3 k3 c3] x) (hP : ∀ b, P b -> B <= b) (hB : B <= w2.heap.size)
 (hw : w = (w2.alloc o).alloc (Obj.cells #[.string a, .string b, .int .i64 z, .int .i64 m, .slice o1 k1 c1, .slice o2 k2 c2, .slice o3 k3 c3] 27)) :
 za2 w (fun b => B <= b) (some ⟨w2.heap.size + 1, 0, none⟩) 7 [[.string a, .string b, .int .i64 z, .int .i64 m, .slice o1 k1 c1, .slice o2 k2 c2, .slice o3 k3 c3]] /\
  Nod w (fun b => B <= b) [.string a, .string b, .int .i64 z, .int .i64 m, .slice o1 k1 c1, .slice o2 k2 c2, .slice o3 k3 c3] x := by
 subst hw
 have e : (w2.alloc o).heap.size = w2.heap.size + 1 := World.size_alloc _ _
 constructor
 ·refine .inr ⟨_, _, rfl, by omega, by simp, fun j cs hj i v hv => ?_⟩
  match j, hj with
  | 0, hj =>
    simp at hj; subst hj
    rw [<- e]
    have hb := (zal (w2.alloc o) (.string a) (.string b) (.int .i64 z) (.int .i64 m) (.slice o1 k1 c1) (.slice o2 k2 c2) (.slice o3 k3 c3)).reads.1
    match i, hv with
    | 0, hv => simp at hv; subst hv; exact hb.1
    | 1, hv => simp at hv; subst hv; exact hb.2.1
    | 2, hv => simp at hv; subst hv; exact hb.2.2.1
    | 3, hv => simp at hv; subst hv; exact hb.2.2.2.1
    | 4, hv => simp at hv; subst hv; exact hb.2.2.2.2.1
    | 5, hv => simp at hv; subst hv; exact hb.2.2.2.2.2.1
    | 6, hv => simp at hv; subst hv; exact hb.2.2.2.2.2.2
    | i + 7, hv => simp at hv
  | j + 1, hj => simp at hj
 ·exact h.keep fun b hb hl => ⟨by rw [Below.heap_alloc _ _ _ (by rw [e]; omega), Below.heap_alloc _ _ _ hl], hP b hb⟩
theorem zcE (w : World) (k : Nat) (a b c d e f g : Value) : (put7 w k a b c d e f g).heap.size = w.heap.size := by simp [put7, World.setCell]
theorem zfJ {w w1 w2 : World} {bd rb : Nat} {r : Option (Ex × List Tq)} {ok : Bool} {a b : ByteArray} {z m : Int} {o1 : Option Addr} {k1 c1 : Nat} {o2 : Option Addr} {k2 c2 : Nat} {o3 : Option Addr} {k3 c3 : Nat}
 (h : Res w1 bd r (.returned (.tuple #[.agg #[.string a, .string b, .int .i64 z, .int .i64 m, .slice o1 k1 c1, .slice o2 k2 c2, .slice o3 k3 c3], .bool ok])) w2) (hg : w.grownBy w1 (some bd)) (hrb : w.heap.size = rb) (hlt : rb < w1.heap.size) (hbd : bd < rb)
 (F : Ex -> Ex) (op tx : ByteArray) (nn mm : Nat) (names : List ByteArray) (on : Option Addr) (kn cn : Nat)
 (hF : ∀ x, opE (F x) = op /\ zfC (F x) = tx /\ nE (F x) = nn /\ zfD (F x) = mm /\ zb7 (F x) = names /\ zcD (F x) = [] /\ zaO (F x) = [x]) (hkn : names.length = kn /\ kn <= cn) (hs : za2 w2 (fun b => rb < b) on 1 (names.map encN)) (A0 A1 A2 A3 A4 A5 A6 : Value) :
 Res w bd (r.map fun p => (F p.1, p.2)) (.returned (.tuple #[.agg #[.string op, .string tx, .int .i64 (nn : Nat), .int .i64 (mm : Nat), .slice on kn cn, .slice none 0 0, .slice (some ⟨w2.heap.size + 1, 0, none⟩) 1 1], .bool r.isSome]))
  (((put7 w2 rb A0 A1 A2 A3 A4 A5 A6).alloc (Obj.cells #[.string a, .string b, .int .i64 z, .int .i64 m, .slice o1 k1 c1, .slice o2 k2 c2, .slice o3 k3 c3] 27)).alloc (Obj.cells #[.string a, .string b, .int .i64 z, .int .i64 m, .slice o1 k1 c1, .slice o2 k2 c2, .slice o3 k3 c3] 27)) := by
 subst hrb
 have hw : w.grownBy w2 (some bd) := grown_trans hg h.wide
 have hw3 := zaf hw (Nat.le_refl _) A0 A1 A2 A3 A4 A5 A6
 have hsz := zcE w2 w.heap.size A0 A1 A2 A3 A4 A5 A6
 have hw4 := grown_alloc (grown_alloc hw3 (Obj.cells #[.string a, .string b, .int .i64 z, .int .i64 m, .slice o1 k1 c1, .slice o2 k2 c2, .slice o3 k3 c3] 27)) (Obj.cells #[.string a, .string b, .int .i64 z, .int .i64 m, .slice o1 k1 c1, .slice o2 k2 c2, .slice o3 k3 c3] 27)
 cases r with
 | none => exact ⟨_, rfl, raw7 _ _ _ _ _ _ _ _ _ _ _ _ _, hw4⟩
 | some p =>
   obtain ⟨x, l⟩ := p
   obtain ⟨h1, h2, _⟩ := h.part
   have h3 := zba (k := w.heap.size) (Q := fun b => w.heap.size < b) h1 (fun b hb => ⟨by omega, by omega⟩) A0 A1 A2 A3 A4 A5 A6
   have hs3 : za2 (put7 w2 w.heap.size A0 A1 A2 A3 A4 A5 A6) (fun b => w.heap.size <= b) on 1 (names.map encN) := hs.keep fun b hb _ => ⟨za1 w2 w.heap.size A0 A1 A2 A3 A4 A5 A6 b (Nat.ne_of_gt hb), Nat.le_of_lt hb⟩
   obtain ⟨g1, g2⟩ := kid_one (B := w.heap.size) _ h3 (fun b hb => by omega) (by rw [hsz]; exact hw.size) rfl
   rw [hsz] at g1
   obtain ⟨f1, f2, f3, f4, f5, f6, f7⟩ := hF x
   have hr2 : Rd (put7 w2 w.heap.size A0 A1 A2 A3 A4 A5 A6) bd l := zcs h2 hbd _ _ _ _ _ _ _
   refine ⟨_, rfl, ?_, (hr2.alloc _).alloc _, hw4⟩
   have hn := Nod.mk (w := ((put7 w2 w.heap.size A0 A1 A2 A3 A4 A5 A6).alloc (Obj.cells #[.string a, .string b, .int .i64 z, .int .i64 m, .slice o1 k1 c1, .slice o2 k2 c2, .slice o3 k3 c3] 27)).alloc (Obj.cells #[.string a, .string b, .int .i64 z, .int .i64 m, .slice o1 k1 c1, .slice o2 k2 c2, .slice o3 k3 c3] 27)) (P := fun b => w.heap.size <= b) (F x) (nn : Nat) (mm : Nat) on none (some ⟨w2.heap.size + 1, 0, none⟩) kn cn 0 0 1 1 _ (by rw [f3]) (by rw [f4]) (by rw [f5]; exact hkn) (by rw [f6]; rfl) (by rw [f7]; rfl) rfl
    (by rw [f5]; exact hs3.keep fun b hb hl => ⟨by rw [Below.heap_alloc _ _ _ (by simp; omega), Below.heap_alloc _ _ _ hl], hb⟩) (by rw [f6]; exact .inl rfl) g1
    (fun j cs y hj hy => by
     rw [f7] at hy
     match j, hj, hy with
     | 0, hj, hy => simp at hj hy; subst hj; subst hy; exact g2
     | j + 1, hj, hy => simp at hy)
   rw [f1, f2] at hn
   exact hn
theorem unary_of (n : Nat) (hU : zgp n) (hP : ziG n) : zgp (n + 1) := by
 intro l hl w bd h
 have hfar := h.lt
 have HB := zh (zal w (.string ⟨#[]⟩) (.string ⟨#[]⟩) (.int .i64 0) (.int .i64 0) (.slice none 0 0) (.slice none 0 0) (.slice none 0 0))
 have HG := zh (grown_alloc (grown_refl w (some bd)) (Obj.cells #[.string ⟨#[]⟩, .string ⟨#[]⟩, .int .i64 0, .int .i64 0, .slice none 0 0, .slice none 0 0, .slice none 0 0] 27))
 have HR0 := zh (h.alloc (Obj.cells #[.string ⟨#[]⟩, .string ⟨#[]⟩, .int .i64 0, .int .i64 0, .slice none 0 0, .slice none 0 0, .slice none 0 0] 27))
 cases h1 : isT 5 [45] l with
 | false =>
   have HT := zh (show zat (n + 1) l = zaz n l by rw [zat, if_neg (by rw [h1]; simp)])
   have HS := zh (zbY bd l ⟨#[45]⟩ h1 _ HR0.out)
   have HPP := zh (hP l (by omega))
   rw [HT.out]
   generalize zaz n l = r at HPP ⊢
   clear h h1 hU hP hl HR0
   go_enter Tryz.func89, Tryz.ntmps89
   go_wp2_with fail
   refine HS.out.mono ?_
   rintro e w1 ⟨rfl, hr1, hg1⟩
   have HB1 := zh (zaa HB.out hg1 (by omega))
   have HG1 := zh (grown_trans HG.out hg1)
   have hsz1 : w.heap.size < w1.heap.size := Nat.lt_of_lt_of_le (by simp) hg1.size
   have HPW := zh (HPP.out w1 bd hr1)
   clear hr1 hg1
   go_wp2_with fail
   refine HPW.out.mono ?_
   intro e w2 hres
   have HRES := zh hres
   have HB2 := zh (show Box7 w2 w.heap.size (.string ⟨#[]⟩) (.string ⟨#[]⟩) (.int .i64 0) (.int .i64 0) (.slice none 0 0) (.slice none 0 0) (.slice none 0 0) from zaa HB1.out hres.wide (by omega))
   obtain ⟨a, b, z, m, o1, k1, c1, o2, k2, c2, o3, k3, c3, rfl⟩ := hres.shape
   clear hres
   obtain ⟨⟨q0, q1, q2, q3, q4, q5, q6⟩, f0, f1, f2, f3, f4, f5, f6⟩ := HB2.out.reads
   go_wp2
   refine bodyPost_ret (v := .tuple #[.agg #[.string a, .string b, .int .i64 z, .int .i64 m, .slice o1 k1 c1, .slice o2 k2 c2, .slice o3 k3 c3], .bool r.isSome]) (by simp [results, Tryz.results89, go_sem, q0, q1, q2, q3, q4, q5, q6]) rfl ?_
   exact HRES.out.through HG1.out rfl hsz1 hfar (raw7 _ _ _ _ _ _ _ _ _ _ _ _ _) _ _ _ _ _ _ _
 | true =>
   have HT := zh (show zat (n + 1) l = match zat n l.tail with | none => none | some (x, m) => some (.neg x, m) by rw [zat, if_pos h1]; rfl)
   have HS := zh (za9 bd l ⟨#[45]⟩ h1 _ HR0.out)
   have hlt := zaw h1
   have HPP := zh (hU l.tail (by omega))
   obtain ⟨T, hT⟩ : ∃ T, zat (n + 1) l = T := ⟨_, rfl⟩
   have HTT := zh (hT.symm.trans HT.out)
   rw [hT]
   clear HT hT
   generalize zat n l.tail = r at HPP HTT
   generalize l.tail = l1 at HS HPP
   clear h h1 hU hP hl HR0 hlt
   go_enter Tryz.func89, Tryz.ntmps89
   go_wp2_with fail
   refine HS.out.mono ?_
   rintro e w1 ⟨rfl, hr1, hg1⟩
   have HB1 := zh (zaa HB.out hg1 (by omega))
   have HG1 := zh (grown_trans HG.out hg1)
   have hsz1 : w.heap.size < w1.heap.size := Nat.lt_of_lt_of_le (by simp) hg1.size
   have HPW := zh (HPP.out w1 bd hr1)
   clear hr1 hg1
   go_wp2_with fail
   refine HPW.out.mono ?_
   intro e w2 hres
   have HRES := zh hres
   have HB2 := zh (show Box7 w2 w.heap.size (.string ⟨#[]⟩) (.string ⟨#[]⟩) (.int .i64 0) (.int .i64 0) (.slice none 0 0) (.slice none 0 0) (.slice none 0 0) from zaa HB1.out hres.wide (by omega))
   have hsz2 := hres.wide.size
   obtain ⟨a, b, z, m, o1, k1, c1, o2, k2, c2, o3, k3, c3, rfl⟩ := hres.shape
   clear hres
   obtain ⟨⟨q0, q1, q2, q3, q4, q5, q6⟩, f0, f1, f2, f3, f4, f5, f6⟩ := HB2.out.reads
   have hrb : w.heap.size < w2.heap.size := by omega
   go_wp2
   refine bodyPost_ret (v := .tuple #[.agg #[.string ⟨#[110, 101, 103]⟩, .string ⟨#[]⟩, .int .i64 0, .int .i64 0, .slice none 0 0, .slice none 0 0, .slice (some ⟨w2.heap.size + 1, 0, none⟩) 1 1], .bool r.isSome]) (by simp [results, Tryz.results89, go_sem, q0, q1, q2, q3, q4, q5, q6, hrb]) rfl ?_
   rw [show T = r.map fun p => (.neg p.1, p.2) by rw [HTT.out]; cases r <;> rfl]
   exact zfJ HRES.out HG1.out rfl hsz1 hfar Ex.neg ⟨#[110, 101, 103]⟩ ⟨#[]⟩ 0 0 [] none 0 0 (fun _ => ⟨rfl, rfl, rfl, rfl, rfl, rfl, rfl⟩) ⟨rfl, Nat.le_refl _⟩ (.inl rfl) _ _ _ _ _ _ _
theorem ziU (n : Nat) (hC : zdg n) : FnC (n + 1) := by
 intro s l hl w bd h
 have hfar := h.lt
 have HB := zh (zal w (.string ⟨#[]⟩) (.string ⟨#[]⟩) (.int .i64 0) (.int .i64 0) (.slice none 0 0) (.slice none 0 0) (.slice none 0 0))
 have HG := zh (grown_alloc (grown_refl w (some bd)) (Obj.cells #[.string ⟨#[]⟩, .string ⟨#[]⟩, .int .i64 0, .int .i64 0, .slice none 0 0, .slice none 0 0, .slice none 0 0] 27))
 have HR0 := zh (h.alloc (Obj.cells #[.string ⟨#[]⟩, .string ⟨#[]⟩, .int .i64 0, .int .i64 0, .slice none 0 0, .slice none 0 0, .slice none 0 0] 27))
 obtain ⟨T, hT⟩ : ∃ T, fnGo (n + 1) s.data.toList l = T := ⟨_, rfl⟩
 rw [hT]
 rw [fnGo, show bz s.data.toList = s from zdq s] at hT
 cases h1 : isT 5 [40] l with
 | false =>
   rw [if_neg (by rw [h1]; simp)] at hT
   have HT := zh hT
   have HS := zh (zbY bd l ⟨#[40]⟩ h1 _ HR0.out)
   clear h h1 hC hl HR0 hT
   go_enter Tryz.func133, Tryz.ntmps133
   go_wp2_with fail
   refine HS.out.mono ?_
   rintro e w1 ⟨rfl, hr1, hg1⟩
   have HB1 := zh (show Box7 w1 w.heap.size (.string ⟨#[]⟩) (.string ⟨#[]⟩) (.int .i64 0) (.int .i64 0) (.slice none 0 0) (.slice none 0 0) (.slice none 0 0) from zaa HB.out hg1 (by omega))
   have HG1 := zh (grown_trans HG.out hg1)
   clear hr1 hg1
   obtain ⟨⟨q0, q1, q2, q3, q4, q5, q6⟩, f0, f1, f2, f3, f4, f5, f6⟩ := HB1.out.reads
   go_wp2
   refine bodyPost_ret (v := .tuple #[.agg #[.string ⟨#[]⟩, .string ⟨#[]⟩, .int .i64 0, .int .i64 0, .slice none 0 0, .slice none 0 0, .slice none 0 0], .bool false]) (by simp [results, Tryz.results133, go_sem, q0, q1, q2, q3, q4, q5, q6]) rfl ?_
   rw [<- HT.out]
   exact ⟨_, rfl, zbX, zaf HG1.out (Nat.le_refl _) _ _ _ _ _ _ _⟩
 | true =>
   rw [if_pos h1] at hT
   have HS := zh (za9 bd l ⟨#[40]⟩ h1 _ HR0.out)
   have hlt := zaw h1
   have HPP := zh (hC l.tail (by omega))
   have HTT := zh hT
   generalize zan n l.tail = r at HPP HTT
   generalize l.tail = l1 at HS HPP
   clear h h1 hC hl HR0 hlt hT
   go_enter Tryz.func133, Tryz.ntmps133
   go_wp2_with fail
   refine HS.out.mono ?_
   rintro e w1 ⟨rfl, hr1, hg1⟩
   have HB1 := zh (zaa HB.out hg1 (by omega))
   have HG1 := zh (grown_trans HG.out hg1)
   have hsz1 : w.heap.size < w1.heap.size := Nat.lt_of_lt_of_le (by simp) hg1.size
   have HPW := zh (HPP.out w1 bd hr1)
   clear hr1 hg1
   go_wp2_with fail
   refine HPW.out.mono ?_
   intro e w2 hres
   have HRES := zh hres
   have HB2 := zh (show Box7 w2 w.heap.size (.string ⟨#[]⟩) (.string ⟨#[]⟩) (.int .i64 0) (.int .i64 0) (.slice none 0 0) (.slice none 0 0) (.slice none 0 0) from zaa HB1.out hres.wide (by omega))
   have hsz2 := hres.wide.size
   obtain ⟨a, b, z, m, o1, k1, c1, o2, k2, c2, o3, k3, c3, rfl⟩ := hres.shape
   clear hres
   obtain ⟨⟨q0, q1, q2, q3, q4, q5, q6⟩, f0, f1, f2, f3, f4, f5, f6⟩ := HB2.out.reads
   have hrb : w.heap.size < w2.heap.size := by omega
   go_wp2
   refine bodyPost_ret (v := .tuple #[.agg #[.string ⟨#[102, 110]⟩, .string s, .int .i64 0, .int .i64 0, .slice none 0 0, .slice none 0 0, .slice (some ⟨w2.heap.size + 1, 0, none⟩) 1 1], .bool r.isSome]) (by simp [results, Tryz.results133, go_sem, q0, q1, q2, q3, q4, q5, q6, hrb]) rfl ?_
   rw [show T = r.map fun p => (.fn s p.1, p.2) by rw [<- HTT.out]; cases r <;> rfl]
   exact zfJ HRES.out HG1.out rfl hsz1 hfar (Ex.fn s) ⟨#[102, 110]⟩ s 0 0 [] none 0 0 (fun _ => ⟨rfl, rfl, rfl, rfl, rfl, rfl, rfl⟩) ⟨rfl, Nat.le_refl _⟩ (.inl rfl) _ _ _ _ _ _ _
end Go.Proofs.YtbcemjhaecelnaaGreatDoor.Par
end
end
