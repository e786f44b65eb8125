import Derived.Test.YtbcemjhaecelnaaGreatDoorMg03
import Derived.OneCell
import Derived.Deep.RegionHeld3
import Derived.Deep.RegionWith
import Derived.Deep.DeepMust
import Derived.Outline
import Derived.Laws.StructEq
import Derived.Laws.Cover1
section
set_option maxHeartbeats 4000000
set_option maxRecDepth 100000
section
namespace Go.Proofs.YtbcemjhaecelnaaGreatDoor.Fix
def rgt (v : Int) : Prop := -1000000000000 <= v /\ v <= 1000000000000
instance (v : Int) : Decidable (rgt v) := by unfold rgt; infer_instance
def zhv (f : Int) (q : Bool) : Bool := (f == 43 || f == 45 || f == 42 || f == 47 || f == 37) && !q
def cmpB (f : Int) (q : Bool) : Bool := if f = 61 \/ f = 33 then q else f == 60 || f == 62
def ze4 : List Int -> Int × Bool × Bool
 | [] => (0, false, false)
 | [f] => (f, false, zhv f false || cmpB f false)
 | [f, g] => if g = 61 then (f, true, zhv f true || cmpB f true) else (0, false, false)
 | _ => (0, false, false)
def zhH (s : ByteArray) : Option (Int × Bool) :=
 if (ze4 (zai s.data.toList)).2.2 then some ((ze4 (zai s.data.toList)).1, (ze4 (zai s.data.toList)).2.1) else none
def ziO (v : Int) : Int := if v <= -v then -v else v
def timesF (a b : Int) : Int × Int := if b ≠ 0 /\ 1000000000000 / ziO b < ziO a then (0, 4) else (a * b, 0)
def comparesF (s : ByteArray) : Bool :=
 match zhH s with
 | none => false
 | some x => cmpB x.1 x.2
def signs : List ByteArray := [⟨#[43]⟩, ⟨#[45]⟩, ⟨#[42]⟩, ⟨#[47]⟩, ⟨#[37]⟩, ⟨#[61, 61]⟩, ⟨#[33, 61]⟩, ⟨#[60]⟩, ⟨#[60, 61]⟩, ⟨#[62]⟩, ⟨#[62, 61]⟩]
theorem sign_le : zhH ⟨#[60, 61]⟩ = some (60, true) := by decide +kernel
end Go.Proofs.YtbcemjhaecelnaaGreatDoor.Fix
end
section
namespace Go.Proofs.YtbcemjhaecelnaaGreatDoor.Fix
open Go.RowKit
theorem ze5 (f : Int) (q : Bool) (w : World) : Calls Tryz.prog 164 #[.agg #[.int .i32 f, .bool q]] w fun e w' => e = .returned (.bool (zhv f q)) /\ Below w.heap.size w w' := by
 go_enter Tryz.func164, Tryz.ntmps164
 go_wp2
 all_goals (go_ret; exact ⟨zaY (by simp_all [zhv] <;> omega), (Below.refl _ _).alloc (Nat.le_refl _) _⟩)
theorem zdT (f : Int) (q : Bool) (w : World) : Calls Tryz.prog 157 #[.agg #[.int .i32 f, .bool q]] w fun e w' => e = .returned (.bool (cmpB f q)) /\ Below w.heap.size w w' := by
 go_enter Tryz.func157, Tryz.ntmps157
 go_wp2
 all_goals (go_ret; exact ⟨zaY (by simp_all [cmpB] <;> omega), (Below.refl _ _).alloc (Nat.le_refl _) _⟩)
end Go.Proofs.YtbcemjhaecelnaaGreatDoor.Fix
end
section
namespace Go.Proofs.YtbcemjhaecelnaaGreatDoor.Fix
open Go.RowKit
def zci (l : List Int) (n : Nat) (f : Int) (q : Bool) (r : List Int) : Prop :=
 (n = 0 /\ f = 0 /\ q = false /\ l = r) \/ (n = 1 /\ q = false /\ l = f :: r) \/ (n = 2 /\ q = true /\ l = f :: 61 :: r)
theorem zci.done {l : List Int} {n : Nat} {f : Int} {q : Bool} (h : zci l n f q []) : ze4 l = (f, q, zhv f q || cmpB f q) := by
 rcases h with ⟨_, rfl, rfl, rfl⟩ | ⟨_, rfl, rfl⟩ | ⟨_, rfl, rfl⟩
 ·rfl
 ·rfl
 ·simp [ze4]
theorem zci.le {l : List Int} {n : Nat} {f : Int} {q : Bool} {r : List Int} (h : zci l n f q r) : n <= 2 := by
 rcases h with ⟨h, _⟩ | ⟨h, _⟩ | ⟨h, _⟩ <;> omega
theorem zci.zero {l : List Int} {f : Int} {q : Bool} {x : Int} {r : List Int} (h : zci l 0 f q (x :: r)) : q = false /\ zci l 1 x false r := by
 rcases h with ⟨_, rfl, rfl, rfl⟩ | ⟨h, _⟩ | ⟨h, _⟩
 ·exact ⟨rfl, .inr (.inl ⟨rfl, rfl, rfl⟩)⟩
 all_goals omega
theorem zci.one {l : List Int} {f : Int} {q : Bool} {r : List Int} (h : zci l 1 f q (61 :: r)) : zci l 2 f true r := by
 rcases h with ⟨h, _⟩ | ⟨_, rfl, rfl⟩ | ⟨h, _⟩
 ·omega
 ·exact .inr (.inr ⟨rfl, rfl, rfl⟩)
 ·omega
theorem zci.bad {l : List Int} {n : Nat} {f : Int} {q : Bool} {x : Int} {r : List Int} (h : zci l n f q (x :: r)) (h0 : n ≠ 0) (h1 : ¬ (n = 1 /\ x = 61)) : ze4 l = (0, false, false) := by
 rcases h with ⟨h, _⟩ | ⟨h, _, rfl⟩ | ⟨_, _, rfl⟩
 ·exact absurd h h0
 ·have hx : x ≠ 61 := fun e => h1 ⟨h, e⟩
  cases r with
  | nil => simp [ze4, hx]
  | cons y r => rfl
 ·rfl
theorem zdu {w : World} {b : Nat} {u v : Value} {t : TypeId} (h : w.heap[b]? = some (.cells #[u, v] t (0, 0))) :
 w.cell? ⟨b, 0, none⟩ = some u /\ w.cell? ⟨b, 1, none⟩ = some v /\ w.frozen? ⟨b, 0, none⟩ = false /\ w.frozen? ⟨b, 1, none⟩ = false /\ b < w.heap.size := by
 refine ⟨by simp [World.cell?, h], by simp [World.cell?, h], by simp [World.frozen?, h], by simp [World.frozen?, h], (Array.getElem?_eq_some_iff.1 h).1⟩
def zgB (B : Nat) (f : Int) (q : Bool) (w' : World) : Prop :=
 w'.cell? ⟨B + 1, 0, none⟩ = some (.int .i32 f) /\ w'.cell? ⟨B + 1, 1, none⟩ = some (.bool q) /\ w'.cell? ⟨B, 0, none⟩ = some (.int .i32 0) /\ w'.cell? ⟨B, 1, none⟩ = some (.bool false) /\ w'.frozen? ⟨B, 0, none⟩ = false /\ w'.frozen? ⟨B, 1, none⟩ = false
theorem zgB.of {B : Nat} {f : Int} {q : Bool} {w' : World} (h0 : w'.heap[B]? = some (.cells #[.int .i32 0, .bool false] 175 (0, 0))) (h1 : w'.heap[B + 1]? = some (.cells #[.int .i32 f, .bool q] 175 (0, 0))) : zgB B f q w' := by
 obtain ⟨c0, c1, _, _, _⟩ := zdu h1
 obtain ⟨d0, d1, y0, y1, _⟩ := zdu h0
 exact ⟨c0, c1, d0, d1, y0, y1⟩
theorem zhg {w : World} {B : Nat} {u v x y : Value} (h0 : w.cell? ⟨B + 1, 0, none⟩ = some x) (h1 : w.cell? ⟨B + 1, 1, none⟩ = some y) :
 ((w.setCell ⟨B, 0, none⟩ u).setCell ⟨B, 1, none⟩ v).cell? ⟨B + 1, 0, none⟩ = some x /\ ((w.setCell ⟨B, 0, none⟩ u).setCell ⟨B, 1, none⟩ v).cell? ⟨B + 1, 1, none⟩ = some y := by
 have hb : ((w.setCell ⟨B, 0, none⟩ u).setCell ⟨B, 1, none⟩ v).heap[B + 1]? = w.heap[B + 1]? := (heap_setCell_other _ ⟨B, 1, none⟩ (B + 1) v (by show B + 1 ≠ B; omega)).trans (heap_setCell_other _ ⟨B, 0, none⟩ (B + 1) u (by show B + 1 ≠ B; omega))
 exact ⟨(World.cell?_of_block (a := ⟨B + 1, 0, none⟩) hb).trans h0, (World.cell?_of_block (a := ⟨B + 1, 1, none⟩) hb).trans h1⟩
theorem start0 (w : World) (o o' : Obj) (s : ByteArray) : (((w.alloc o).alloc o').iter s 0).heap[w.heap.size]? = some o := by
 show ((((w.alloc o).alloc o').alloc (.stringIter s 0)).heap[w.heap.size]?) = some o
 rw [Below.heap_alloc _ _ _ (by rw [World.size_alloc, World.size_alloc]; omega), Below.heap_alloc _ _ _ (by rw [World.size_alloc]; omega)]
 exact Array.getElem?_push_size
theorem start1 (w : World) (o o' : Obj) (s : ByteArray) : (((w.alloc o).alloc o').iter s 0).heap[w.heap.size + 1]? = some o' := by
 show ((((w.alloc o).alloc o').alloc (.stringIter s 0)).heap[w.heap.size + 1]?) = some o'
 rw [Below.heap_alloc _ _ _ (by rw [World.size_alloc, World.size_alloc]; omega), <- World.size_alloc w o]
 exact Array.getElem?_push_size
def ReadP (s : ByteArray) (B : World) (e : Ending) (w' : World) : Prop :=
 e = .returned (.tuple #[.agg #[.int .i32 (ze4 (zai s.data.toList)).1, .bool (ze4 (zai s.data.toList)).2.1], .bool (ze4 (zai s.data.toList)).2.2]) /\ Below B.heap.size B w'
theorem read_any (s : ByteArray) (w : World) (_hs : s.size <= maxLen) : Calls Tryz.prog 156 #[.string s] w (ReadP s w) := by
 unfold maxLen at _hs
 go_enter Tryz.func156, Tryz.ntmps156
 go_wp2
 go_loopw [5] (fun v wr => ∃ (pos n : Nat) (f : Int) (q : Bool), wr.heap[w.heap.size]? = some (.cells #[.int .i32 0, .bool false] 175 (0, 0)) /\ wr.heap[w.heap.size + 1]? = some (.cells #[.int .i32 f, .bool q] 175 (0, 0)) /\ wr.heap[w.heap.size + 2]? = some (.stringIter s pos) /\ Below w.heap.size w wr /\ v = .int .i64 n /\ Hid (zci (zai s.data.toList) n f q (zai (s.data.toList.drop pos))) /\ pos <= s.size) (fun _ wr => s.size - wr.iterPos (w.heap.size + 2))
 case atStart =>
  refine ⟨0, 0, 0, false, ?_, ?_, ?_, ?_, rfl, ?_, Nat.zero_le _⟩
  ·exact start0 w _ _ s
  ·exact start1 w _ _ s
  ·simpa using World.iter_heap ((w.alloc (.cells #[.int .i32 0, .bool false] 175)).alloc (.cells #[.int .i32 0, .bool false] 175)) s 0
  ·exact (((Below.refl _ _).alloc (Nat.le_refl _) _).alloc (by simp) _).alloc (by simp; omega) _
  ·exact .inl ⟨rfl, rfl, rfl, by simp⟩
 case round =>
  obtain ⟨pos, n, f, q, hb0, hb1, hit, hbw, rfl, H, hps⟩ := hrel
  have hn := H.out.le
  have hpos0 := zac hit
  by_cases hp : pos < s.size
  ·have hnx : ∀ ty, (Instr.next (.pointer (some ⟨w.heap.size + 2, 0, none⟩)) true ty).run Tryz.prog wr = _ := fun ty => Lib.run_next_any_at wr (w.heap.size + 2) s pos ty hit hp
   have hwd := zbT s pos
   have hwl := zbm hp
   have hit2 := Lib.iterAt_heap wr (w.heap.size + 2) s pos (pos + (Utf8.decode s pos).2) hit
   have hbw2 := Lib.below_iterAt hbw (k := w.heap.size + 2) (by omega) s (pos + (Utf8.decode s pos).2)
   have hb02 := (Lib.iterAt_other wr (w.heap.size + 2) w.heap.size s (pos + (Utf8.decode s pos).2) (by omega)).trans hb0
   have hb12 := (Lib.iterAt_other wr (w.heap.size + 2) (w.heap.size + 1) s (pos + (Utf8.decode s pos).2) (by omega)).trans hb1
   obtain ⟨W1, hW1⟩ : ∃ W1, W1 = wr.iterAt (w.heap.size + 2) s (pos + (Utf8.decode s pos).2) := ⟨_, rfl⟩
   rw [<- hW1] at hnx hit2 hbw2 hb02 hb12
   have HS := zh (zdm hp)
   obtain ⟨x, hx⟩ : ∃ x, ((Utf8.decode s pos).1 : Int) = x := ⟨_, rfl⟩
   rw [hx] at hnx HS
   have H2 := H.out
   rw [HS.out] at H2
   have HH := zh H2
   clear hW1 hit hbw hb0 hb1 H HS H2 hx
   obtain ⟨c0, c1, z0, z1, l1⟩ := zdu hb12
   obtain ⟨d0, d1, y0, y1, l0⟩ := zdu hb02
   by_cases h0 : n = 0
   ·subst h0
    obtain ⟨rfl, h3⟩ := HH.out.zero
    have H3 := zh h3
    have k0 := zh ((heap_setCell_other W1 ⟨w.heap.size + 1, 0, none⟩ w.heap.size (.int .i32 x) (by show w.heap.size ≠ w.heap.size + 1; omega)).trans hb02)
    have k1 := zh (heap_setCell_same W1 (w.heap.size + 1) 0 _ 175 (.int .i32 x) hb12)
    have k2 := zh ((heap_setCell_other W1 ⟨w.heap.size + 1, 0, none⟩ (w.heap.size + 2) (.int .i32 x) (by show w.heap.size + 2 ≠ w.heap.size + 1; omega)).trans hit2)
    have k3 := zh (hbw2.setCell (p := ⟨w.heap.size + 1, 0, none⟩) (by show w.heap.size <= w.heap.size + 1; omega) (.int .i32 x))
    clear h3 hb02 hb12 hit2 hbw2 HH
    go_wp2
    go_roundw
    case rel => exact ⟨pos + (Utf8.decode s pos).2, 1, x, false, k0.out, k1.out, k2.out, k3.out, by go_num, H3, hwl⟩
    case measure => rw [zac k2.out, hpos0]; omega
   ·by_cases h1 : n = 1 /\ x = 61
    ·obtain ⟨rfl, rfl⟩ := h1
     have H3 := zh HH.out.one
     have k0 := zh ((heap_setCell_other W1 ⟨w.heap.size + 1, 1, none⟩ w.heap.size (.bool true) (by show w.heap.size ≠ w.heap.size + 1; omega)).trans hb02)
     have k1 := zh (heap_setCell_same W1 (w.heap.size + 1) 1 _ 175 (.bool true) hb12)
     have k2 := zh ((heap_setCell_other W1 ⟨w.heap.size + 1, 1, none⟩ (w.heap.size + 2) (.bool true) (by show w.heap.size + 2 ≠ w.heap.size + 1; omega)).trans hit2)
     have k3 := zh (hbw2.setCell (p := ⟨w.heap.size + 1, 1, none⟩) (by show w.heap.size <= w.heap.size + 1; omega) (.bool true))
     clear hb02 hb12 hit2 hbw2 HH h0
     go_wp2
     go_roundw
     case rel => exact ⟨pos + (Utf8.decode s pos).2, 2, f, true, k0.out, k1.out, k2.out, k3.out, by go_num, H3, hwl⟩
     case measure => rw [zac k2.out, hpos0]; omega
    ·have HD := zh (HH.out.bad h0 h1)
     have HB := zh hbw2
     have t0 : ((n : Int) == 0) = false := beq_eq_false_iff_ne.2 (by omega)
     cases n with
     | zero => exact absurd rfl h0
     | succ n =>
       cases n with
       | zero =>
         have t1 : (x == 61) = false := beq_eq_false_iff_ne.2 (fun e => h1 ⟨rfl, e⟩)
         clear hb02 hb12 hit2 hbw2 HH h0 h1
         go_wp2
         exact bodyPost_ret (v := .tuple #[.agg #[.int .i32 0, .bool false], .bool false]) (by simp [results, Tryz.results156, go_sem, d0, d1]) rfl ⟨by rw [HD.out], (HB.out.setCell (Nat.le_refl _) _).setCell (Nat.le_refl _) _⟩
       | succ n =>
         obtain rfl : n = 0 := by omega
         clear hb02 hb12 hit2 hbw2 HH h0 h1
         go_wp2
         exact bodyPost_ret (v := .tuple #[.agg #[.int .i32 0, .bool false], .bool false]) (by simp [results, Tryz.results156, go_sem, d0, d1]) rfl ⟨by rw [HD.out], (HB.out.setCell (Nat.le_refl _) _).setCell (Nat.le_refl _) _⟩
  ·have hnx : ∀ ty, (Instr.next (.pointer (some ⟨w.heap.size + 2, 0, none⟩)) true ty).run Tryz.prog wr = _ := fun ty => Lib.run_next_end_at wr (w.heap.size + 2) s pos ty hit hp
   have H2 := H.out
   rw [zc1 hp] at H2
   have HD := zh H2.done
   clear H H2 hit
   have RD0 : ∀ W', Below wr.heap.size wr W' -> zgB w.heap.size f q W' := fun W' h => zgB.of ((h.block _ (Array.getElem?_eq_some_iff.1 hb0).1).trans hb0) ((h.block _ (Array.getElem?_eq_some_iff.1 hb1).1).trans hb1)
   obtain ⟨c0, c1, d0, d1, y0, y1⟩ := RD0 wr (Below.refl _ _)
   have l0 : w.heap.size < wr.heap.size := (Array.getElem?_eq_some_iff.1 hb0).1
   have RD := zh RD0
   have HB := zh hbw
   clear hb0 hb1 hbw RD0
   cases hr : zhv f q with
   | false =>
     have HC1 := zh (fun (W' : World) (h : Hid (Below wr.heap.size wr W')) => (ze5 f q W').mono (fun e w' k => show e = .returned (.bool false) /\ zgB w.heap.size f q w' /\ Hid (Below wr.heap.size wr w') from ⟨by rw [k.1, hr], RD.out _ (h.out.trans (k.2.mono h.out.size)), (h.out.trans (k.2.mono h.out.size))⟩))
     have HC2 := zh (fun (W' : World) (h : Hid (Below wr.heap.size wr W')) => (zdT f q W').mono (fun e w' k => show e = .returned (.bool (cmpB f q)) /\ zgB w.heap.size f q w' /\ Hid (Below wr.heap.size wr w') from ⟨by rw [k.1], RD.out _ (h.out.trans (k.2.mono h.out.size)), (h.out.trans (k.2.mono h.out.size))⟩))
     have HR := zh hr
     have r9 := zh (show Below wr.heap.size wr wr.drew from (Below.refl _ _).drew)
     clear hr
     go_wp2_with fail
     go_region_held3 (fun w' => w'.cell? ⟨w.heap.size + 1, 0, none⟩ = some (.int .i32 f) /\ w'.cell? ⟨w.heap.size + 1, 1, none⟩ = some (.bool q)) (first | exact ⟨t0, t1⟩ | exact ⟨s0, s1⟩ | exact ⟨c0, c1⟩ | exact zhg t0 t1) (first | (go_at_call 164; refine (HC1.out _ r9).mono ?_; rintro e wq ⟨rfl, ⟨s0, s1, s2, s3, s4, s5⟩, s9⟩) | (go_at_call 157; refine (HC2.out _ s9).mono ?_; rintro e wt ⟨rfl, ⟨t0, t1, t2, t3, t4, t5⟩, t9⟩))
     go_wp2
     exact bodyPost_ret (v := .tuple #[.agg #[.int .i32 f, .bool q], .bool (cmpB f q)]) (by simp [results, Tryz.results156, go_sem, t2, t3]) rfl ⟨by rw [HD.out]; simp [HR.out], ((HB.out.trans (t9.out.mono HB.out.size)).setCell (Nat.le_refl _) _).setCell (Nat.le_refl _) _⟩
   | true =>
     have HC1 := zh (fun (W' : World) (h : Hid (Below wr.heap.size wr W')) => (ze5 f q W').mono (fun e w' k => show e = .returned (.bool true) /\ zgB w.heap.size f q w' /\ Hid (Below wr.heap.size wr w') from ⟨by rw [k.1, hr], RD.out _ (h.out.trans (k.2.mono h.out.size)), (h.out.trans (k.2.mono h.out.size))⟩))
     have HR := zh hr
     have r9 := zh (show Below wr.heap.size wr wr.drew from (Below.refl _ _).drew)
     clear hr
     go_wp2_with fail
     refine wp_region_held_drew (S := fun w' => w'.cell? ⟨w.heap.size + 1, 0, none⟩ = some (.int .i32 f) /\ w'.cell? ⟨w.heap.size + 1, 1, none⟩ = some (.bool q)) (by kernel_rfl) (⟨c0, c1⟩) (fun hHeld => ?_)
     refine wpAnyH_take (i := 0) (v := ?_) rfl (by kernel_rfl) (by kernel_rfl) (by kernel_rfl) (fun _ _ _ h => h) (Or.inl ⟨by kernel_rfl, by intro w hSw; (try dsimp only at hSw); obtain ⟨g0, g1⟩ := hSw; go_simp; try with_reducible rfl⟩) hHeld ?_
     go_simp
     refine wpAnyH_take (i := 1) (v := ?_) rfl (by kernel_rfl) (by kernel_rfl) (by kernel_rfl) (fun _ _ _ h => h) (Or.inl ⟨by kernel_rfl, by intro w hSw; (try dsimp only at hSw); obtain ⟨g0, g1⟩ := hSw; go_simp; try with_reducible rfl⟩) hHeld ?_
     go_simp
     refine wpAnyH_ready (rs := [2]) (by kernel_rfl) (by simp) ?_
     refine AllReadyH.cons rfl (fun K hK => ?_) AllReadyH.nil
     clear hHeld
     go_simp
     refine (HC1.out _ r9).mono ?_; rintro e wq ⟨rfl, ⟨s0, s1, s2, s3, s4, s5⟩, s9⟩
     go_simp
     refine hK.out _ _ (⟨s0, s1⟩) (fun hHeld => ?_)
     clear hK K
     refine wpAnyH_take (i := 3) (v := ?_) rfl (by kernel_rfl) (by kernel_rfl) (by kernel_rfl) (fun _ _ _ h => h) (Or.inl ⟨by kernel_rfl, by intro w _; go_simp; try with_reducible rfl⟩) hHeld ?_
     go_simp
     refine wpAnyH_take (i := 4) (v := undef) rfl (by kernel_rfl) (by kernel_rfl) (by kernel_rfl) (fun _ _ _ h => h) (Or.inr ⟨by kernel_rfl, rfl⟩) hHeld ?_
     go_simp
     refine wpAnyH_take (i := 5) (v := undef) rfl (by kernel_rfl) (by kernel_rfl) (by kernel_rfl) (fun _ _ _ h => h) (Or.inr ⟨by kernel_rfl, rfl⟩) hHeld ?_
     go_simp
     refine wpAnyH_take (i := 6) (v := ?_) rfl (by kernel_rfl) (by kernel_rfl) (by kernel_rfl) (fun _ _ _ h => h) (Or.inl ⟨by kernel_rfl, by intro w _; go_simp; try with_reducible rfl⟩) hHeld ?_
     go_simp
     refine wpAnyH_ready (rs := [7]) (by kernel_rfl) (by simp) ?_
     refine AllReadyH.cons rfl (fun K hK => ?_) AllReadyH.nil
     clear hHeld
     go_simp
     refine hK.out _ _ (zhg s0 s1) (fun hHeld => ?_)
     clear hK K
     refine wpAnyH_take (i := 8) (v := ?_) rfl (by kernel_rfl) (by kernel_rfl) (by kernel_rfl) (fun _ _ _ h => h) (Or.inl ⟨by kernel_rfl, by intro w _; go_simp; try with_reducible rfl⟩) hHeld ?_
     go_simp
     refine wpAnyH_done (by kernel_rfl) ?_ _
     go_wp2
     exact bodyPost_ret (v := .tuple #[.agg #[.int .i32 f, .bool q], .bool true]) (by simp [results, Tryz.results156, go_sem, s2, s3]) rfl ⟨by rw [HD.out]; simp [HR.out], ((HB.out.trans (s9.out.mono HB.out.size)).setCell (Nat.le_refl _) _).setCell (Nat.le_refl _) _⟩
end Go.Proofs.YtbcemjhaecelnaaGreatDoor.Fix
end
section
namespace Go.Proofs.YtbcemjhaecelnaaGreatDoor.Fix
open Go.RowKit
theorem comp_any (s : ByteArray) (w : World) (hs : s.size <= maxLen) : Calls Tryz.prog 136 #[.string s] w fun e w' => e = .returned (.bool (comparesF s)) /\ Below w.heap.size w w' := by
 have HR := zh (fun W => read_any s W hs)
 obtain ⟨x, hx⟩ : ∃ x, ze4 (zai s.data.toList) = x := ⟨_, rfl⟩
 obtain ⟨f, q, ok⟩ := x
 have HX := zh hx
 have HR2 := zh (fun W => (HR.out W).mono fun e w' (h : ReadP s W e w') => (show e = .returned (.tuple #[.agg #[.int .i32 f, .bool q], .bool ok]) /\ Below W.heap.size W w' from by obtain ⟨h1, h2⟩ := h; rw [HX.out] at h1; exact ⟨h1, h2⟩))
 have HE := zh (show comparesF s = (ok && cmpB f q) by unfold comparesF zhH; rw [HX.out]; cases ok <;> rfl)
 have HC := zh (fun W => zdT f q W)
 clear hx HR
 rw [HE.out]
 cases ok with
 | false =>
   go_enter Tryz.func136, Tryz.ntmps136
   go_wp2_with fail
   refine (HR2.out _).mono ?_
   rintro e w1 ⟨rfl, b1⟩
   have HB := zh b1
   clear b1
   go_wp2_with fail
   go_ret
   exact ⟨rfl, HB.out.alloc HB.out.size _⟩
 | true =>
   go_enter Tryz.func136, Tryz.ntmps136
   go_wp2_with fail
   refine (HR2.out _).mono ?_
   rintro e w1 ⟨rfl, b1⟩
   have HB := zh b1
   clear b1
   go_wp2_with fail
   refine (HC.out _).mono ?_
   rintro e w2 ⟨rfl, b2⟩
   have HB2 := zh b2
   clear b2
   go_wp2
   go_ret
   exact ⟨by simp, (HB.out.alloc HB.out.size _).trans (HB2.out.mono (by have := HB.out.size; simp; omega))⟩
end Go.Proofs.YtbcemjhaecelnaaGreatDoor.Fix
end
section
namespace Go.Proofs.YtbcemjhaecelnaaGreatDoor.Win
open Go.RowKit Go.Lib
def nmOf : Nat -> ByteArray
 | 0 => ⟨#[115, 117, 109, 95, 111, 118, 101, 114]⟩
 | 1 => ⟨#[109, 105, 110, 95, 111, 118, 101, 114]⟩
 | 2 => ⟨#[109, 97, 120, 95, 111, 118, 101, 114]⟩
 | 3 => ⟨#[99, 111, 117, 110, 116, 95, 111, 118, 101, 114]⟩
 | 4 => ⟨#[97, 118, 103, 95, 111, 118, 101, 114]⟩
 | 5 => ⟨#[108, 97, 115, 116, 95, 111, 118, 101, 114]⟩
 | 6 => ⟨#[105, 110, 99, 114, 101, 97, 115, 101]⟩
 | _ => ⟨#[114, 97, 116, 101]⟩
def fnF (s : ByteArray) : Nat :=
 if s = nmOf 0 then 0 else if s = nmOf 1 then 1 else if s = nmOf 2 then 2 else if s = nmOf 3 then 3 else if s = nmOf 4 then 4 else if s = nmOf 5 then 5 else if s = nmOf 6 then 6 else if s = nmOf 7 then 7 else 8
theorem fn_nm : ∀ k, k < 8 -> fnF (nmOf k) = k := by decide +kernel
structure NoFn (s : ByteArray) : Prop where
 n0 : ¬ s.toList = [115, 117, 109, 95, 111, 118, 101, 114]
 n1 : ¬ s.toList = [109, 105, 110, 95, 111, 118, 101, 114]
 n2 : ¬ s.toList = [109, 97, 120, 95, 111, 118, 101, 114]
 n3 : ¬ s.toList = [99, 111, 117, 110, 116, 95, 111, 118, 101, 114]
 n4 : ¬ s.toList = [97, 118, 103, 95, 111, 118, 101, 114]
 n5 : ¬ s.toList = [108, 97, 115, 116, 95, 111, 118, 101, 114]
 n6 : ¬ s.toList = [105, 110, 99, 114, 101, 97, 115, 101]
 n7 : ¬ s.toList = [114, 97, 116, 101]
theorem fn_cases (s : ByteArray) : (∃ k, k < 8 /\ s = nmOf k) \/ (fnF s = 8 /\ NoFn s) := by
 by_cases h0 : s = nmOf 0; · exact .inl ⟨0, by omega, h0⟩
 by_cases h1 : s = nmOf 1; · exact .inl ⟨1, by omega, h1⟩
 by_cases h2 : s = nmOf 2; · exact .inl ⟨2, by omega, h2⟩
 by_cases h3 : s = nmOf 3; · exact .inl ⟨3, by omega, h3⟩
 by_cases h4 : s = nmOf 4; · exact .inl ⟨4, by omega, h4⟩
 by_cases h5 : s = nmOf 5; · exact .inl ⟨5, by omega, h5⟩
 by_cases h6 : s = nmOf 6; · exact .inl ⟨6, by omega, h6⟩
 by_cases h7 : s = nmOf 7; · exact .inl ⟨7, by omega, h7⟩
 have key : ∀ (l : List UInt8), ¬ s = ⟨l.toArray⟩ -> ¬ s.toList = l := fun l hl e => hl (by
  have e2 : s.data.toList = l := by rw [<- e]; exact (ByteArray.toList_eq s).symm
  cases s; congr 1; exact Array.ext' (by simpa using e2))
 exact .inr ⟨by unfold fnF; rw [if_neg h0, if_neg h1, if_neg h2, if_neg h3, if_neg h4, if_neg h5, if_neg h6, if_neg h7], key _ h0, key _ h1, key _ h2, key _ h3, key _ h4, key _ h5, key _ h6, key _ h7⟩
theorem eight_cases {p : Nat -> Prop} (h0 : p 0) (h1 : p 1) (h2 : p 2) (h3 : p 3) (h4 : p 4) (h5 : p 5) (h6 : p 6) (h7 : p 7) : ∀ k, k < 8 -> p k := by
 intro k hk
 match k, hk with
 | 0, _ => exact h0
 | 1, _ => exact h1
 | 2, _ => exact h2
 | 3, _ => exact h3
 | 4, _ => exact h4
 | 5, _ => exact h5
 | 6, _ => exact h6
 | 7, _ => exact h7
def fnV : Nat -> Value
 | 0 => .iface 186 (.agg #[])
 | 1 => .iface 187 (.agg #[])
 | 2 => .iface 188 (.agg #[])
 | 3 => .iface 189 (.agg #[])
 | 4 => .iface 190 (.agg #[])
 | 5 => .iface 191 (.agg #[])
 | 6 => .iface 192 (.agg #[])
 | 7 => .iface 193 (.agg #[])
 | _ => .nilIface
theorem read0 (w : World) : Calls Tryz.prog 151 #[.string ⟨#[115, 117, 109, 95, 111, 118, 101, 114]⟩] w fun e w' => e = .returned (.tuple #[.iface 186 (.agg #[]), .bool true]) /\ w' = w := by
 go_enter Tryz.func151, Tryz.ntmps151
 go_wp2
 go_ret2
 exact ⟨rfl, rfl⟩
theorem read1 (w : World) : Calls Tryz.prog 151 #[.string ⟨#[109, 105, 110, 95, 111, 118, 101, 114]⟩] w fun e w' => e = .returned (.tuple #[.iface 187 (.agg #[]), .bool true]) /\ w' = w := by
 go_enter Tryz.func151, Tryz.ntmps151
 go_wp2
 go_ret2
 exact ⟨rfl, rfl⟩
theorem read2 (w : World) : Calls Tryz.prog 151 #[.string ⟨#[109, 97, 120, 95, 111, 118, 101, 114]⟩] w fun e w' => e = .returned (.tuple #[.iface 188 (.agg #[]), .bool true]) /\ w' = w := by
 go_enter Tryz.func151, Tryz.ntmps151
 go_wp2
 go_ret2
 exact ⟨rfl, rfl⟩
theorem read3 (w : World) : Calls Tryz.prog 151 #[.string ⟨#[99, 111, 117, 110, 116, 95, 111, 118, 101, 114]⟩] w fun e w' => e = .returned (.tuple #[.iface 189 (.agg #[]), .bool true]) /\ w' = w := by
 go_enter Tryz.func151, Tryz.ntmps151
 go_wp2
 go_ret2
 exact ⟨rfl, rfl⟩
theorem read4 (w : World) : Calls Tryz.prog 151 #[.string ⟨#[97, 118, 103, 95, 111, 118, 101, 114]⟩] w fun e w' => e = .returned (.tuple #[.iface 190 (.agg #[]), .bool true]) /\ w' = w := by
 go_enter Tryz.func151, Tryz.ntmps151
 go_wp2
 go_ret2
 exact ⟨rfl, rfl⟩
theorem read5 (w : World) : Calls Tryz.prog 151 #[.string ⟨#[108, 97, 115, 116, 95, 111, 118, 101, 114]⟩] w fun e w' => e = .returned (.tuple #[.iface 191 (.agg #[]), .bool true]) /\ w' = w := by
 go_enter Tryz.func151, Tryz.ntmps151
 go_wp2
 go_ret2
 exact ⟨rfl, rfl⟩
theorem read6 (w : World) : Calls Tryz.prog 151 #[.string ⟨#[105, 110, 99, 114, 101, 97, 115, 101]⟩] w fun e w' => e = .returned (.tuple #[.iface 192 (.agg #[]), .bool true]) /\ w' = w := by
 go_enter Tryz.func151, Tryz.ntmps151
 go_wp2
 go_ret2
 exact ⟨rfl, rfl⟩
theorem read7 (w : World) : Calls Tryz.prog 151 #[.string ⟨#[114, 97, 116, 101]⟩] w fun e w' => e = .returned (.tuple #[.iface 193 (.agg #[]), .bool true]) /\ w' = w := by
 go_enter Tryz.func151, Tryz.ntmps151
 go_wp2
 go_ret2
 exact ⟨rfl, rfl⟩
theorem read_none (s : ByteArray) (w : World) (h : NoFn s) : Calls Tryz.prog 151 #[.string s] w fun e w' => e = .returned (.tuple #[.nilIface, .bool false]) /\ w' = w := by
 obtain ⟨n0, n1, n2, n3, n4, n5, n6, n7⟩ := h
 have t0 := beq_eq_false_iff_ne.2 n0
 have t1 := beq_eq_false_iff_ne.2 n1
 have t2 := beq_eq_false_iff_ne.2 n2
 have t3 := beq_eq_false_iff_ne.2 n3
 have t4 := beq_eq_false_iff_ne.2 n4
 have t5 := beq_eq_false_iff_ne.2 n5
 have t6 := beq_eq_false_iff_ne.2 n6
 have t7 := beq_eq_false_iff_ne.2 n7
 clear n0 n1 n2 n3 n4 n5 n6 n7
 go_enter Tryz.func151, Tryz.ntmps151
 go_wp2
 go_ret2
 exact ⟨rfl, rfl⟩
theorem read_any (s : ByteArray) (w : World) : Calls Tryz.prog 151 #[.string s] w fun e w' => e = .returned (.tuple #[fnV (fnF s), .bool (decide (fnF s < 8))]) /\ w' = w := by
 rcases fn_cases s with ⟨k, hk, rfl⟩ | ⟨e, hn⟩
 ·rw [fn_nm k hk]
  exact eight_cases (p := fun k => Calls Tryz.prog 151 #[.string (nmOf k)] w fun e w' => e = .returned (.tuple #[fnV k, .bool (decide (k < 8))]) /\ w' = w) (read0 w) (read1 w) (read2 w) (read3 w) (read4 w) (read5 w) (read6 w) (read7 w) k hk
 ·rw [e]; exact read_none s w hn
theorem fn_any (s : ByteArray) (w : World) : Calls Tryz.prog 132 #[.string s] w fun e w' => e = .returned (.bool (decide (fnF s < 8))) /\ w' = w := by
 have HR := zh (fun W => read_any s W)
 generalize fnV (fnF s) = v at HR
 generalize decide (fnF s < 8) = b at HR ⊢
 go_enter Tryz.func132, Tryz.ntmps132
 go_wp2_with fail
 refine (HR.out _).mono ?_
 rintro e w1 ⟨rfl, rfl⟩
 go_wp2
 go_ret
 exact ⟨rfl, rfl⟩
end Go.Proofs.YtbcemjhaecelnaaGreatDoor.Win
end
end
