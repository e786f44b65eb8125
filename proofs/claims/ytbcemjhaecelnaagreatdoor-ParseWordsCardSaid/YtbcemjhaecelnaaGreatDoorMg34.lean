import Derived.Test.YtbcemjhaecelnaaGreatDoorMg33
section
set_option maxHeartbeats 4000000
set_option maxRecDepth 100000
namespace Go.Proofs.YtbcemjhaecelnaaGreatDoor.Drd
open Go.RowKit Go.Lib Par Sto
def zck : List Value := [.string ⟨#[]⟩, .string ⟨#[]⟩, .int .i64 0, .int .i64 0, .slice none 0 0, .slice none 0 0, .slice none 0 0]
def zgy (w : World) (bd nn : Nat) (l : List Tq) (e : Ending) (w' : World) : Prop := e = .returned (.agg zck.toArray) /\ Rdd w' bd l nn true /\ w.grownBy w' (some bd)
theorem dprim_bad (bd : Nat) (l : List Tq) (nn : Nat) (w : World) (h : Rdd w bd l nn true) :
 Calls Tryz.prog 73 #[.pointer (some ⟨bd, 0, none⟩)] w (zgy w bd nn l) := by
 have hfar := h.lt
 have HD := zh h
 obtain ⟨o, c, h1, -⟩ := h
 obtain ⟨⟨c0, c1, c2⟩, f0, f1, f2⟩ := zav h1
 clear h1
 go_enter Tryz.func73, Tryz.ntmps73
 go_wp2
 refine bodyPost_ret (v := .agg zck.toArray) (by simp [results, Tryz.results73, go_sem, zck]) rfl ?_
 exact ⟨rfl, (HD.out.setBad true).alloc _, grown_alloc (grown_set _ _ _ _) _⟩
theorem dunary_bad (bd : Nat) (l : List Tq) (nn : Nat) (w : World) (h : Rdd w bd l nn true) :
 Calls Tryz.prog 49 #[.pointer (some ⟨bd, 0, none⟩)] w (zgy w bd nn l) := by
 have hfar := h.lt
 have HB := zh (zal w (.string ⟨#[]⟩) (.string ⟨#[]⟩) (.int .i64 0) (.int .i64 0) (.slice none 0 0) (.slice none 0 0) (.slice none 0 0))
 have HG := zh (grown_alloc (grown_refl w (some bd)) (Obj.cells #[.string ⟨#[]⟩, .string ⟨#[]⟩, .int .i64 0, .int .i64 0, .slice none 0 0, .slice none 0 0, .slice none 0 0] 27))
 have HI := zh (zby bd l nn true 5 ⟨#[45]⟩ _ (h.alloc (Obj.cells #[.string ⟨#[]⟩, .string ⟨#[]⟩, .int .i64 0, .int .i64 0, .slice none 0 0, .slice none 0 0, .slice none 0 0] 27)))
 have HP := zh (dprim_bad bd l nn _ (h.alloc (Obj.cells #[.string ⟨#[]⟩, .string ⟨#[]⟩, .int .i64 0, .int .i64 0, .slice none 0 0, .slice none 0 0, .slice none 0 0] 27)))
 rw [Bool.not_true, Bool.false_and] at HI
 clear h
 go_enter Tryz.func49, Tryz.ntmps49
 go_wp2_with fail
 refine HI.out.mono ?_
 rintro e w1 ⟨rfl, rfl⟩
 go_wp2_with fail
 refine HP.out.mono ?_
 rintro e w2 ⟨rfl, hr, hg⟩
 have HR2 := zh hr
 have HG2 := zh (grown_trans HG.out hg)
 have HB2 := zh (show Box7 w2 w.heap.size (.string ⟨#[]⟩) (.string ⟨#[]⟩) (.int .i64 0) (.int .i64 0) (.slice none 0 0) (.slice none 0 0) (.slice none 0 0) from zaa HB.out hg (by omega))
 clear hr hg
 obtain ⟨⟨q0, q1, q2, q3, q4, q5, q6⟩, f0, f1, f2, f3, f4, f5, f6⟩ := HB2.out.reads
 unfold zck
 go_wp2
 refine bodyPost_ret (v := .agg zck.toArray) (by simp [results, Tryz.results49, go_sem, zck, q0, q1, q2, q3, q4, q5, q6]) rfl ?_
 exact ⟨rfl, HR2.out.keep fun j hj => za1 w2 w.heap.size _ _ _ _ _ _ _ j (by omega), zaf HG2.out (Nat.le_refl _) _ _ _ _ _ _ _⟩
theorem zeD (bd : Nat) (l : List Tq) (nn : Nat) (w : World) (h : Rdd w bd l nn true) :
 Calls Tryz.prog 22 #[.pointer (some ⟨bd, 0, none⟩), .int .i64 3] w (zgy w bd nn l) := by
 have hfar := h.lt
 have HB := zh (zal w (.string ⟨#[]⟩) (.string ⟨#[]⟩) (.int .i64 0) (.int .i64 0) (.slice none 0 0) (.slice none 0 0) (.slice none 0 0))
 have HG := zh (grown_alloc (grown_refl w (some bd)) (Obj.cells #[.string ⟨#[]⟩, .string ⟨#[]⟩, .int .i64 0, .int .i64 0, .slice none 0 0, .slice none 0 0, .slice none 0 0] 27))
 have HP := zh (dunary_bad bd l nn _ (h.alloc (Obj.cells #[.string ⟨#[]⟩, .string ⟨#[]⟩, .int .i64 0, .int .i64 0, .slice none 0 0, .slice none 0 0, .slice none 0 0] 27)))
 clear h
 go_enter Tryz.func22, Tryz.ntmps22
 go_wp2_with fail
 refine HP.out.mono ?_
 rintro e w2 ⟨rfl, hr, hg⟩
 have HR2 := zh hr
 have HG2 := zh (grown_trans HG.out hg)
 have HB2 := zh (show Box7 w2 w.heap.size (.string ⟨#[]⟩) (.string ⟨#[]⟩) (.int .i64 0) (.int .i64 0) (.slice none 0 0) (.slice none 0 0) (.slice none 0 0) from zaa HB.out hg (by omega))
 clear hr hg
 obtain ⟨⟨q0, q1, q2, q3, q4, q5, q6⟩, f0, f1, f2, f3, f4, f5, f6⟩ := HB2.out.reads
 unfold zck
 go_wp2
 refine bodyPost_ret (v := .agg zck.toArray) (by simp [results, Tryz.results22, go_sem, zck, q0, q1, q2, q3, q4, q5, q6]) rfl ?_
 exact ⟨rfl, HR2.out.keep fun j hj => za1 w2 w.heap.size _ _ _ _ _ _ _ j (by omega), zaf HG2.out (Nat.le_refl _) _ _ _ _ _ _ _⟩
theorem dchain_lv (bd : Nat) (l : List Tq) (nn : Nat) (q q1 : Int) (hq : q <= 2) (hw : IntKind.i64.wrap (q + 1) = q1) (hP : ∀ W, Rdd W bd l nn true -> Calls Tryz.prog 22 #[.pointer (some ⟨bd, 0, none⟩), .int .i64 q1] W (zgy W bd nn l)) (w : World) (h : Rdd w bd l nn true) :
 Calls Tryz.prog 22 #[.pointer (some ⟨bd, 0, none⟩), .int .i64 q] w (zgy w bd nn l) := by
 have hfar := h.lt
 have HB := zh (zal w (.string ⟨#[]⟩) (.string ⟨#[]⟩) (.int .i64 0) (.int .i64 0) (.slice none 0 0) (.slice none 0 0) (.slice none 0 0))
 have HG := zh (grown_alloc (grown_refl w (some bd)) (Obj.cells #[.string ⟨#[]⟩, .string ⟨#[]⟩, .int .i64 0, .int .i64 0, .slice none 0 0, .slice none 0 0, .slice none 0 0] 27))
 have HP := zh (hP _ (h.alloc (Obj.cells #[.string ⟨#[]⟩, .string ⟨#[]⟩, .int .i64 0, .int .i64 0, .slice none 0 0, .slice none 0 0, .slice none 0 0] 27)))
 clear h hP
 go_enter Tryz.func22, Tryz.ntmps22
 go_wp2_with fail
 refine HP.out.mono ?_
 rintro e w2 ⟨rfl, hr, hg⟩
 have HR2 := zh (hr.alloc (Obj.cells #[.string ⟨#[]⟩, .string ⟨#[]⟩, .int .i64 0, .int .i64 0, .slice none 0 0, .slice none 0 0, .slice none 0 0] 27))
 have HG2 := zh (grown_alloc (grown_trans HG.out hg) (Obj.cells #[.string ⟨#[]⟩, .string ⟨#[]⟩, .int .i64 0, .int .i64 0, .slice none 0 0, .slice none 0 0, .slice none 0 0] 27))
 have hsz : w.heap.size + 1 <= w2.heap.size := by simpa using hg.size
 have HB2 := zh (show Box7 (w2.alloc (Obj.cells #[.string ⟨#[]⟩, .string ⟨#[]⟩, .int .i64 0, .int .i64 0, .slice none 0 0, .slice none 0 0, .slice none 0 0] 27)) w.heap.size (.string ⟨#[]⟩) (.string ⟨#[]⟩) (.int .i64 0) (.int .i64 0) (.slice none 0 0) (.slice none 0 0) (.slice none 0 0) from (Below.heap_alloc _ _ _ (by omega)).trans (zaa HB.out hg (by omega)))
 have HN2 := zh (zal w2 (.string ⟨#[]⟩) (.string ⟨#[]⟩) (.int .i64 0) (.int .i64 0) (.slice none 0 0) (.slice none 0 0) (.slice none 0 0))
 obtain ⟨w3, hw3⟩ : ∃ w3, w2.alloc (Obj.cells #[.string ⟨#[]⟩, .string ⟨#[]⟩, .int .i64 0, .int .i64 0, .slice none 0 0, .slice none 0 0, .slice none 0 0] 27) = w3 := ⟨_, rfl⟩
 have HW3 := zh hw3
 rw [hw3] at HR2 HG2 HB2 HN2
 clear hr hg hw3
 unfold zck
 go_wp2_with fail
 go_loopg [] 0 (fun _k wr => wr = w3)
 case atStart => exact HW3.out
 case round =>
  subst hrel
  obtain ⟨o, c, h1, -⟩ := HR2.out
  obtain ⟨⟨c0, c1, c2⟩, k0, k1, k2⟩ := zav h1
  clear h1
  obtain ⟨⟨q0, q1, q2, q3, q4, q5, q6⟩, f0, f1, f2, f3, f4, f5, f6⟩ := HB2.out.reads
  obtain ⟨⟨p0, p1, p2, p3, p4, p5, p6⟩, -⟩ := HN2.out.reads
  go_wp2
  refine bodyPost_ret (v := .agg zck.toArray) (by simp [results, Tryz.results22, go_sem, zck, q0, q1, q2, q3, q4, q5, q6]) rfl ?_
  exact ⟨rfl, HR2.out.keep fun j hj => za1 wr w.heap.size _ _ _ _ _ _ _ j (by omega), zaf HG2.out (Nat.le_refl _) _ _ _ _ _ _ _⟩
theorem zeE (bd : Nat) (l : List Tq) (nn : Nat) (w : World) (h : Rdd w bd l nn true) :
 Calls Tryz.prog 22 #[.pointer (some ⟨bd, 0, none⟩), .int .i64 2] w (zgy w bd nn l) :=
 dchain_lv bd l nn 2 3 (by decide) (by decide) (fun W h => zeD bd l nn W h) w h
theorem zeF (bd : Nat) (l : List Tq) (nn : Nat) (w : World) (h : Rdd w bd l nn true) :
 Calls Tryz.prog 22 #[.pointer (some ⟨bd, 0, none⟩), .int .i64 1] w (zgy w bd nn l) :=
 dchain_lv bd l nn 1 2 (by decide) (by decide) (fun W h => zeE bd l nn W h) w h
theorem zdj (bd : Nat) (l : List Tq) (nn : Nat) (w : World) (h : Rdd w bd l nn true) :
 Calls Tryz.prog 22 #[.pointer (some ⟨bd, 0, none⟩), .int .i64 0] w (zgy w bd nn l) :=
 dchain_lv bd l nn 0 1 (by decide) (by decide) (fun W h => zeF bd l nn W h) w h
end Go.Proofs.YtbcemjhaecelnaaGreatDoor.Drd
end

section
namespace Go.Proofs.YtbcemjhaecelnaaGreatDoor.Drd
open Go.RowKit Go.Lib Par Sto
theorem zhp : ∀ (n : Nat),
 (∀ t l x m, chainGo n t l = some (x, m) -> countE x + m.length <= l.length) /\
 (∀ t y l x m, zbi n t y l = some (x, m) -> countE x + m.length <= l.length + countE y) /\
 (∀ t y l x m, zbP n t y l = some (x, m) -> countE x + m.length <= l.length + countE y) /\
 (∀ l x m, zat n l = some (x, m) -> countE x + m.length <= l.length) /\
 (∀ l x m, zaz n l = some (x, m) -> countE x + m.length <= l.length) /\
 (∀ l x m, zan n l = some (x, m) -> countE x + m.length <= l.length) /\
 (∀ s l x m, zbj n s l = some (x, m) -> countE x + m.length <= l.length + 1) /\
 (∀ s l x m, fnGo n s l = some (x, m) -> countE x + m.length <= l.length + 1)
 | 0 => ⟨fun _ _ _ _ h => by simp [chainGo] at h, fun _ _ _ _ _ h => by simp [zbi] at h, fun _ _ _ _ _ h => by simp [zbP] at h, fun _ _ _ h => by simp [zat] at h, fun _ _ _ h => by simp [zaz] at h, fun _ _ _ h => by simp [zan] at h, fun _ _ _ _ h => by simp [zbj] at h, fun _ _ _ _ h => by simp [fnGo] at h⟩
 | n + 1 => by
   obtain ⟨i1, i2, i3, i4, i5, i6, i7, i8⟩ := zhp n
   refine ⟨?_, ?_, ?_, ?_, ?_, ?_, ?_, ?_⟩
   ·intro t l x m h
    rw [chainGo] at h
    split at h
    ·exact i4 _ _ _ h
    ·split at h
     ·cases h
     ·rename_i y k hk
      have := i1 _ _ _ _ hk
      have := i2 _ _ _ _ _ h
      omega
   ·intro t y l x m h
    rw [zbi] at h
    split at h
    ·split at h
     ·cases h
     ·rename_i z k hk
      have := i3 _ _ _ _ _ hk
      have := i2 _ _ _ _ _ h
      omega
    ·injection h with h; injection h with h1 h; subst h1; subst h; omega
   ·intro t y l x m h
    cases l with
    | nil => simp [zbP] at h
    | cons s l =>
      rw [zbP] at h
      split at h
      ·cases h
      ·rename_i mode names k hk
       have := zbW hk
       split at h
       ·cases h
       ·rename_i z j hj
        have := i1 _ _ _ _ hj
        injection h with h; injection h with h1 h; subst h1; subst h
        simp [countE]; omega
   ·intro l x m h
    rw [zat] at h
    split at h
    ·rename_i hc
     have := zaw hc
     split at h
     ·cases h
     ·rename_i y k hk
      have := i4 _ _ _ hk
      injection h with h; injection h with h1 h; subst h1; subst h
      simp [countE]; omega
    ·exact i5 _ _ _ h
   ·intro l x m h
    cases l with
    | nil => simp [zaz] at h
    | cons s l =>
      rw [zaz] at h
      split at h
      ·have := i6 _ _ _ h
       simp; omega
      ·split at h
       ·injection h with h; injection h with h1 h; subst h1; subst h; simp [countE]; omega
       ·split at h
        ·split at h
         ·have := i7 _ _ _ _ h; simp; omega
         ·split at h
          ·have := i8 _ _ _ _ h; simp; omega
          ·split at h
           ·cases h
           ·have h1 := (zdE h).1
            have h2 := sel_count h
            simp; omega
        ·have h1 := (zdE h).2 rfl
         have h2 := sel_count h
         omega
   ·intro l x m h
    rw [zan] at h
    split at h
    ·cases h
    ·rename_i y k hk
     have := i1 _ _ _ _ hk
     split at h
     ·injection h with h; injection h with h1 h; subst h1; subst h
      simp; omega
     ·cases h
   ·intro s l x m h
    rw [zbj] at h
    split at h
    ·cases h
    ·rename_i mode names k hk
     have := zbW hk
     split at h
     ·rename_i hc
      have := zaw hc
      split at h
      ·cases h
      ·rename_i j k2 hk2
       have := zfB hk2
       split at h
       ·cases h
       ·rename_i z k3 hk3
        have := i6 _ _ _ hk3
        injection h with h; injection h with h1 h; subst h1; subst h
        simp [countE]; omega
     ·cases h
   ·intro s l x m h
    rw [fnGo] at h
    split at h
    ·rename_i hc
     have := zaw hc
     split at h
     ·cases h
     ·rename_i z k3 hk3
      have := i6 _ _ _ hk3
      injection h with h; injection h with h1 h; subst h1; subst h
      simp [countE]; omega
    ·cases h
 where
 sel_count {t : List UInt8} {b : Bool} {l : List Tq} {x : Ex} {m : List Tq} (h : selP t b l = some (x, m)) : countE x = 1 := by
  unfold selP at h
  split at h
  ·cases h
  ·split at h
   ·rename_i k _ _
    cases hx : za4 k with
    | none => rw [hx] at h; cases h
    | some q =>
      rw [hx] at h
      injection h with h; injection h with h1 h; subst h1; rfl
   ·cases h
def DEnd (w : World) (bd nn : Nat) (l : List Tq) (bad : Bool) (r : Option (Ex × List Tq)) (e : Ending) (w' : World) : Prop :=
 ∃ a b z m o1 k1 c1 o2 k2 c2 o3 k3 c3, e = .returned (.agg #[.string a, .string b, .int .i64 z, .int .i64 m, .slice o1 k1 c1, .slice o2 k2 c2, .slice o3 k3 c3]) /\ w.grownBy w' (some bd) /\
  ∃ (l' : List Tq) (nn' : Nat) (b' : Bool), Rdd w' bd l' nn' b' /\ ((b' = false -> nn' + l'.length <= nn + l.length) /\ nn' <= nn + l.length + 1 /\ (bad = true -> nn' <= nn)) /\ (r = none -> b' = true) /\
   ∀ x y, r = some (x, y) -> b' = false /\ l' = y /\ nn' = nn + countE x /\ Nod w' (fun b => w.heap.size <= b) [.string a, .string b, .int .i64 z, .int .i64 m, .slice o1 k1 c1, .slice o2 k2 c2, .slice o3 k3 c3] x
theorem dend_of {w w' : World} {bd nn : Nat} {l : List Tq} {r : Option (Ex × List Tq)} {e : Ending} (h : DRes w bd nn l r e w') (hc : ∀ x m, r = some (x, m) -> countE x + m.length <= l.length) : DEnd w bd nn l false r e w' := by
 cases r with
 | none =>
   obtain ⟨cs, rfl, ⟨a, b, n, m, o1, k1, c1, o2, k2, c2, o3, k3, c3, rfl⟩, ⟨l', nn', hr, hl⟩, hg⟩ := h
   exact ⟨a, b, n, m, o1, k1, c1, o2, k2, c2, o3, k3, c3, rfl, hg, l', nn', true, hr, ⟨fun h => (by cases h), by omega, fun h => (by cases h)⟩, fun _ => rfl, fun _ _ h => by cases h⟩
 | some p =>
   obtain ⟨x, y⟩ := p
   obtain ⟨cs, rfl, hn, hr, hg⟩ := h
   obtain ⟨a, b, n, m, o1, k1, c1, o2, k2, c2, o3, k3, c3, rfl⟩ := hn.raw
   refine ⟨a, b, n, m, o1, k1, c1, o2, k2, c2, o3, k3, c3, rfl, hg, y, _, false, hr, ⟨fun _ => (by have := hc x y rfl; omega), by have := hc x y rfl; omega, fun h => (by cases h)⟩, (fun h => by cases h), fun x2 y2 h => ?_⟩
   injection h with h; injection h with h1 h2; subst h1; subst h2
   exact ⟨rfl, rfl, rfl, hn⟩
theorem zeG {w w' : World} {bd nn : Nat} {l : List Tq} {e : Ending} (h : zgy w bd nn l e w') : DEnd w bd nn l true none e w' := by
 obtain ⟨rfl, hr, hg⟩ := h
 exact ⟨_, _, _, _, _, _, _, _, _, _, _, _, _, rfl, hg, l, nn, true, hr, ⟨fun h => (by cases h), by omega, fun _ => Nat.le_refl _⟩, fun _ => rfl, fun _ _ h => by cases h⟩
def orB (b : Bool) (r : Option (Ex × List Tq)) : Option (Ex × List Tq) := if b then none else r
theorem orB_true (r : Option (Ex × List Tq)) : orB true r = none := rfl
theorem zcG (r : Option (Ex × List Tq)) : orB false r = r := rfl
theorem zaR {w W w4 : World} {bd nn nn4 : Nat} {l l4 : List Tq} {b4 : Bool} {r : Option (Ex × List Tq)} (hfar : bd < w.heap.size) (hgW : w.grownBy W (some bd)) (_hsz : w.heap.size < W.heap.size) (hg4 : W.grownBy w4 (some bd)) (hR : Rdd w4 bd l4 nn4 b4) (hle : (b4 = false -> nn4 + l4.length <= nn + l.length) /\ nn4 <= nn + l.length + 1)
 (a b : ByteArray) (z m : Int) (o1 : Option Addr) (k1 c1 : Nat) (o2 : Option Addr) (k2 c2 : Nat) (o3 : Option Addr) (k3 c3 : Nat) (h1 : r = none -> b4 = true)
 (h2 : ∀ x y, r = some (x, y) -> b4 = false /\ l4 = y /\ nn4 = nn + countE x /\ Nod W (fun b => w.heap.size < b) [.string a, .string b, .int .i64 z, .int .i64 m, .slice o1 k1 c1, .slice o2 k2 c2, .slice o3 k3 c3] x) (A0 A1 A2 A3 A4 A5 A6 : Value) :
 DEnd w bd nn l false r (.returned (.agg #[.string a, .string b, .int .i64 z, .int .i64 m, .slice o1 k1 c1, .slice o2 k2 c2, .slice o3 k3 c3])) (put7 w4 w.heap.size A0 A1 A2 A3 A4 A5 A6) := by
 refine ⟨a, b, z, m, o1, k1, c1, o2, k2, c2, o3, k3, c3, rfl, zaf (grown_trans hgW hg4) (Nat.le_refl _) _ _ _ _ _ _ _, l4, nn4, b4, hR.keep fun j hj => za1 w4 w.heap.size _ _ _ _ _ _ _ j (by omega), ⟨hle.1, hle.2, fun h => (by cases h)⟩, h1, fun x y h => ?_⟩
 obtain ⟨g1, g2, g3, g4⟩ := h2 x y h
 refine ⟨g1, g2, g3, zba (g4.keep (w' := w4) (Q := fun b => w.heap.size < b) fun k hk hl => ⟨hg4.block k hl (by simp; omega), hk⟩) (fun k hk => ⟨by omega, by omega⟩) _ _ _ _ _ _ _⟩
theorem zio {w2 : World} {B : Nat} {P : Nat -> Prop} {a b : ByteArray} {z m : Int} {o1 : Option Addr} {k1 c1 : Nat} {o2 : Option Addr} {k2 c2 : Nat} {o3 : Option Addr} {k3 c3 : Nat} {x : Ex}
 (h : Nod w2 P [.string a, .string b, .int .i64 z, .int .i64 m, .slice o1 k1 c1, .slice o2 k2 c2, .slice o3 k3 c3] x) (hP : ∀ b, P b -> B < b) (hB : B < w2.heap.size) :
 za2 (w2.alloc (Obj.cells #[.string a, .string b, .int .i64 z, .int .i64 m, .slice o1 k1 c1, .slice o2 k2 c2, .slice o3 k3 c3] 27)) (fun b => B < b) (some ⟨w2.heap.size, 0, none⟩) 7 [[.string a, .string b, .int .i64 z, .int .i64 m, .slice o1 k1 c1, .slice o2 k2 c2, .slice o3 k3 c3]] /\
  Nod (w2.alloc (Obj.cells #[.string a, .string b, .int .i64 z, .int .i64 m, .slice o1 k1 c1, .slice o2 k2 c2, .slice o3 k3 c3] 27)) (fun b => B < b) [.string a, .string b, .int .i64 z, .int .i64 m, .slice o1 k1 c1, .slice o2 k2 c2, .slice o3 k3 c3] x := by
 constructor
 ·refine .inr ⟨_, _, rfl, hB, by simp, fun j cs hj i v hv => ?_⟩
  match j, hj with
  | 0, hj =>
    simp at hj; subst hj
    have hb := (zal w2 (.string a) (.string b) (.int .i64 z) (.int .i64 m) (.slice o1 k1 c1) (.slice o2 k2 c2) (.slice o3 k3 c3)).reads.1
    match i, hv with
    | 0, hv => simp at hv; subst hv; exact hb.1
    | 1, hv => simp at hv; subst hv; exact hb.2.1
    | 2, hv => simp at hv; subst hv; exact hb.2.2.1
    | 3, hv => simp at hv; subst hv; exact hb.2.2.2.1
    | 4, hv => simp at hv; subst hv; exact hb.2.2.2.2.1
    | 5, hv => simp at hv; subst hv; exact hb.2.2.2.2.2.1
    | 6, hv => simp at hv; subst hv; exact hb.2.2.2.2.2.2
    | i + 7, hv => simp at hv
  | j + 1, hj => simp at hj
 ·exact h.keep fun b hb hl => ⟨by rw [Below.heap_alloc _ _ _ hl], hP b hb⟩
theorem ziJ {W : World} {P : Nat -> Prop} {x : Ex} (F : Ex -> Ex) {op tx : ByteArray} {nn mm : Nat} {names : List ByteArray} {on : Option Addr} {kn cn : Nat} {ok : Option Addr} {cs : List Value}
 (hF : opE (F x) = op /\ zfC (F x) = tx /\ nE (F x) = nn /\ zfD (F x) = mm /\ zb7 (F x) = names /\ zcD (F x) = [] /\ zaO (F x) = [x]) (hkn : names.length = kn /\ kn <= cn) (hs : za2 W P on 1 (names.map encN))
 (hk : za2 W P ok 7 [cs]) (hn : Nod W P cs x) :
 Nod W P [.string op, .string tx, .int .i64 (nn : Nat), .int .i64 (mm : Nat), .slice on kn cn, .slice none 0 0, .slice ok 1 1] (F x) := by
 obtain ⟨f1, f2, f3, f4, f5, f6, f7⟩ := hF
 have := Nod.mk (w := W) (P := P) (F x) (nn : Nat) (mm : Nat) on none ok kn cn 0 0 1 1 [cs] (by rw [f3]) (by rw [f4]) (by rw [f5]; exact hkn) (by rw [f6]; rfl) (by rw [f7]; rfl) rfl
  (by rw [f5]; exact hs) (by rw [f6]; exact .inl rfl) hk
  (fun j cs y hj hy => by
   rw [f7] at hy
   match j, hj, hy with
   | 0, hj, hy => simp at hj hy; subst hj; subst hy; exact hn
   | j + 1, hj, hy => simp at hy)
 rw [f1, f2] at this
 exact this
theorem Rdd.head {w : World} {bd nn : Nat} {s : Tq} {t : List Tq} {bad : Bool} (h : Rdd w bd (s :: t) nn bad) : ∃ (b off n c : Nat), n = t.length + 1 /\ n <= c /\ n <= 1000000 /\ b < bd /\ b < w.heap.size /\
 w.heap[bd]? = some (.cells #[.slice (some ⟨b, off, none⟩) n c, .int .i64 (nn : Nat), .bool bad] 52 (0, 0)) /\
 w.cell? ⟨b, off, none⟩ = some (.int .i64 (s.1 : Nat)) /\ (∃ z : Int, w.cell? ⟨b, off + 1, none⟩ = some (.int .i64 z)) /\ w.cell? ⟨b, off + 2, none⟩ = some (.string ⟨s.2.toArray⟩) /\
 (∀ (a c2 n2 : Nat), a = off + 3 -> n2 = n - 1 -> n2 <= c2 -> Rdd (w.setCell ⟨bd, 0, none⟩ (.slice (some ⟨b, a, none⟩) n2 c2)) bd t nn bad) /\
 (∀ (o : Option Addr) (c2 n2 : Nat), n2 = 0 -> n2 = n - 1 -> Rdd (w.setCell ⟨bd, 0, none⟩ (.slice o n2 c2)) bd t nn bad) := by
 obtain ⟨o, c, h1, hc, ⟨hm, hok⟩, h2⟩ := h
 rcases h2 with h2 | ⟨b, off, rfl, hb, hs⟩
 ·cases h2
 have d0 := hs.at0 0 s rfl
 have d1 := hs.at1 0 s rfl
 have d2 := hs.at2 0 s rfl
 simp only [Nat.zero_mul, Nat.add_zero] at d0 d1 d2
 refine ⟨b, off, t.length + 1, c, rfl, hc, hm, hb, hs.low, h1, d0, d1, d2, fun a c2 n2 ha hn hc2 => ?_, fun o2 c2 n2 hn h3 => ?_⟩
 ·exact Rdd.setL h1 hb (by rw [ha]; exact hs.tail) (by omega) hc2 ⟨by simp at hm; omega, fun x hx => hok x (List.mem_cons_of_mem _ hx)⟩
 ·have ht : t = [] := List.eq_nil_of_length_eq_zero (by omega)
  subst ht
  exact Rdd.setL0 h1 hn
def zdM (n : Nat) : Prop := ∀ (t : Nat) (l : List Tq) (bad : Bool), 1 <= t -> t <= 4 -> 9 * l.length + 8 <= n + t -> ∀ (w : World) (bd nn : Nat) (q : Int), q = (t : Int) - 1 -> nn + l.length <= 1000000 -> Rdd w bd l nn bad ->
 Calls Tryz.prog 22 #[.pointer (some ⟨bd, 0, none⟩), .int .i64 q] w (DEnd w bd nn l bad (orB bad (chainGo n t l)))
def zeH (n : Nat) : Prop := ∀ (l : List Tq), 9 * l.length + 3 <= n -> ∀ (w : World) (bd nn : Nat), nn + l.length <= 1000000 -> Rdd w bd l nn false ->
 Calls Tryz.prog 49 #[.pointer (some ⟨bd, 0, none⟩)] w (DEnd w bd nn l false (zat n l))
def zip (n : Nat) : Prop := ∀ (l : List Tq), 9 * l.length + 2 <= n -> ∀ (w : World) (bd nn : Nat), nn + l.length <= 1000000 -> Rdd w bd l nn false ->
 Calls Tryz.prog 73 #[.pointer (some ⟨bd, 0, none⟩)] w (DEnd w bd nn l false (zaz n l))
def ziK (n : Nat) : Prop := ∀ (s : Tq) (l : List Tq), s.1 = 1 -> aggB s.2 = true -> 9 * l.length + 2 <= n -> ∀ (w : World) (bd nn : Nat), nn + l.length + 1 <= 1000000 -> Rdd w bd (s :: l) nn false ->
 Calls Tryz.prog 97 #[.pointer (some ⟨bd, 0, none⟩)] w (DEnd w bd nn (s :: l) false (zbj n s.2 l))
end Go.Proofs.YtbcemjhaecelnaaGreatDoor.Drd
end

section
set_option maxHeartbeats 4000000
set_option maxRecDepth 100000
namespace Go.Proofs.YtbcemjhaecelnaaGreatDoor.Drd
open Go.RowKit Go.Lib Par Sto
structure PreS (w wx : World) (bd nn : Nat) (l : List Tq) (b : Bool) : Prop where
 rd : Rdd wx bd l nn b
 grow : w.grownBy wx (some bd)
 box : Box7 wx w.heap.size (.string ⟨#[]⟩) (.string ⟨#[]⟩) (.int .i64 0) (.int .i64 0) (.slice none 0 0) (.slice none 0 0) (.slice none 0 0)
 far : bd < w.heap.size
 big : w.heap.size < wx.heap.size
theorem PreS.start {w : World} {bd nn : Nat} {l : List Tq} {b : Bool} (h : Rdd w bd l nn b) : PreS w (w.alloc (Obj.cells #[.string ⟨#[]⟩, .string ⟨#[]⟩, .int .i64 0, .int .i64 0, .slice none 0 0, .slice none 0 0, .slice none 0 0] 27)) bd nn l b :=
 ⟨h.alloc _, grown_alloc (grown_refl _ _) _, zal w _ _ _ _ _ _ _, h.lt, by simp⟩
theorem PreS.call {w wx w' : World} {bd nn nn' : Nat} {l l' : List Tq} {b b' : Bool} (h : PreS w wx bd nn l b) (hr : Rdd w' bd l' nn' b') (hg : wx.grownBy w' (some bd)) : PreS w w' bd nn' l' b' :=
 have hf := h.far
 ⟨hr, grown_trans h.grow hg, zaa h.box hg (by omega), hf, Nat.lt_of_lt_of_le h.big hg.size⟩
theorem PreS.drop {w : World} {bd nn : Nat} {t : List Tq} {b : Bool} {v : Value} (hf : bd < w.heap.size) (h : Rdd (w.setCell ⟨bd, 0, none⟩ v) bd t nn b) : PreS w ((w.setCell ⟨bd, 0, none⟩ v).alloc (Obj.cells #[.string ⟨#[]⟩, .string ⟨#[]⟩, .int .i64 0, .int .i64 0, .slice none 0 0, .slice none 0 0, .slice none 0 0] 27)) bd nn t b := by
 refine ⟨h.alloc _, grown_alloc (grown_set _ _ _ _) _, ?_, hf, by simp⟩
 have := zal (w.setCell ⟨bd, 0, none⟩ v) (.string ⟨#[]⟩) (.string ⟨#[]⟩) (.int .i64 0) (.int .i64 0) (.slice none 0 0) (.slice none 0 0) (.slice none 0 0)
 rwa [World.size_setCell] at this
theorem dunary_of (n : Nat) (hU : zeH n) (hP : zip n) : zeH (n + 1) := by
 intro l hl w bd nn hnn h
 have hfar := h.lt
 have HS0 := zh (PreS.start h)
 have HI := zh (zby bd l nn false 5 ⟨#[45]⟩ _ HS0.out.rd)
 rw [show (⟨#[45]⟩ : ByteArray).data.toList = [45] from rfl, Bool.not_false, Bool.true_and] at HI
 cases h1 : isT 5 [45] l with
 | false =>
   rw [h1] at HI
   have HT := zh (show zat (n + 1) l = zaz n l by rw [zat, if_neg (by rw [h1]; simp)])
   have HPP := zh (hP l (by omega) _ bd nn hnn HS0.out.rd)
   rw [HT.out]
   generalize zaz n l = r at HPP ⊢
   clear h h1 hU hP hl
   go_enter Tryz.func49, Tryz.ntmps49
   go_wp2_with fail
   refine HI.out.mono ?_
   rintro e w1 ⟨rfl, rfl⟩
   go_wp2_with fail
   refine HPP.out.mono ?_
   rintro e w2 ⟨a, b, z, m, o1, k1, c1, o2, k2, c2, o3, k3, c3, rfl, hg, l', nn', b', hR, hle, hN, hS⟩
   have HSC := zh (HS0.out.call hR hg)
   have HE := zh (And.intro hle (And.intro hN hS))
   clear hg hR hle hN hS
   obtain ⟨⟨q0, q1, q2, q3, q4, q5, q6⟩, f0, f1, f2, f3, f4, f5, f6⟩ := HSC.out.box.reads
   go_wp2
   refine bodyPost_ret (v := .agg #[.string a, .string b, .int .i64 z, .int .i64 m, .slice o1 k1 c1, .slice o2 k2 c2, .slice o3 k3 c3]) (by simp [results, Tryz.results49, go_sem, q0, q1, q2, q3, q4, q5, q6]) rfl ?_
   obtain ⟨hle, hN, hS⟩ := HE.out
   refine zaR hfar HSC.out.grow HSC.out.big (grown_refl _ _) HSC.out.rd ⟨hle.1, hle.2.1⟩ _ _ _ _ _ _ _ _ _ _ _ _ _ hN (fun x y hr => ?_) _ _ _ _ _ _ _
   obtain ⟨g1, g2, g3, g4⟩ := hS x y hr
   exact ⟨g1, g2, g3, g4.keep fun k hk _ => ⟨rfl, by simp at hk; omega⟩⟩
 | true =>
   rw [h1] at HI
   obtain ⟨s, t, rfl, hs1, hs2⟩ := zen h1
   obtain ⟨T, hT⟩ : ∃ T, zat (n + 1) (s :: t) = T := ⟨_, rfl⟩
   have HT := zh (hT.symm.trans (show zat (n + 1) (s :: t) = (zat n t).map fun p => (.neg p.1, p.2) by rw [zat, if_pos h1]; simp only [List.tail_cons]; cases zat n t <;> rfl))
   rw [hT]
   simp only [List.length_cons] at hl hnn
   have HPP := zh (hU t (by omega))
   generalize zat n t = r at HPP HT
   obtain ⟨b, off, k, c, hk, hkc, hkm, hb, hbl, hrow, d0, ⟨dz, d1⟩, d2, HD, HD0⟩ := h.head
   obtain ⟨⟨c0, c1, c2⟩, f0, f1, f2⟩ := zav hrow
   have HD := zh HD
   have HD0 := zh HD0
   have HK := zh hk
   have i0 : (0 : Int) < k := by omega
   have i1 : (1 : Int) <= k := by omega
   have hkn : (k : Int) <= 1000000 := by omega
   clear h h1 hU hP hl hT hrow d0 d1 d2 hk hs1 hs2
   go_enter Tryz.func49, Tryz.ntmps49
   go_wp2_with fail
   refine HI.out.mono ?_
   rintro e w1 ⟨rfl, rfl⟩
   go_upto_region 2 with fail
   go_cut [] from 5 (fun wx => Hid (PreS w wx bd nn t false))
   case first =>
    go_wp2
    ·go_meet
     case rel => exact PreS.drop hfar (HD0.out _ _ _ (by omega) (by omega))
    ·go_meet
     case rel => exact PreS.drop hfar (HD.out _ _ _ rfl rfl (by omega))
   case rest =>
   have HSA := zh (show PreS w wc bd nn t false from Hid.out hcut)
   have HPW := zh (HPP.out wc bd nn (by omega) HSA.out.rd)
   clear hcut c0 c1 c2 f0 f1 f2 HI HS0 HPP
   go_wp2_with fail
   refine HPW.out.mono ?_
   rintro e w2 ⟨a, b, z, m, o1, k1, c1, o2, k2, c2, o3, k3, c3, rfl, hg, l', nn', b', hR, hle, hN, hS⟩
   have HSC := zh (HSA.out.call hR hg)
   have HE := zh (And.intro hle (And.intro hN hS))
   have hwsz := HSA.out.big
   have hbig := HSC.out.big
   have HND := zh (zcR bd l' nn' b' _ (hR.alloc (Obj.cells #[.string a, .string b, .int .i64 z, .int .i64 m, .slice o1 k1 c1, .slice o2 k2 c2, .slice o3 k3 c3] 27)) (by have := hle.2.1; omega) ⟨#[110, 101, 103]⟩ ⟨#[]⟩ 0 0 none 0 0 none 0 0 (some ⟨w2.heap.size, 0, none⟩) 1 1)
   clear hg hR hle hN hS
   go_wp2_with fail
   refine HND.out.mono ?_
   rintro e w4 ⟨rfl, hr4, hg4⟩
   have HR4 := zh hr4
   have HG4 := zh hg4
   have HB4 := zh (show Box7 w4 w.heap.size (.string ⟨#[]⟩) (.string ⟨#[]⟩) (.int .i64 0) (.int .i64 0) (.slice none 0 0) (.slice none 0 0) (.slice none 0 0) from zaa ((Below.heap_alloc _ _ _ (by omega)).trans HSC.out.box) hg4 (by omega))
   clear hr4 hg4
   obtain ⟨⟨q0, q1, q2, q3, q4, q5, q6⟩, f0, f1, f2, f3, f4, f5, f6⟩ := HB4.out.reads
   go_wp2
   refine bodyPost_ret (v := .agg #[.string ⟨#[110, 101, 103]⟩, .string ⟨#[]⟩, .int .i64 0, .int .i64 0, .slice none 0 0, .slice none 0 0, .slice (some ⟨w2.heap.size, 0, none⟩) 1 1]) (by simp [results, Tryz.results49, go_sem, q0, q1, q2, q3, q4, q5, q6]) rfl ?_
   obtain ⟨hle, hN, hS⟩ := HE.out
   refine zaR hfar (grown_alloc HSC.out.grow _) (by simp; omega) HG4.out HR4.out ⟨fun hb => (by have := hle.1 hb; simp only [List.length_cons]; omega), by have := hle.2.1; simp only [List.length_cons]; omega⟩ _ _ _ _ _ _ _ _ _ _ _ _ _ (fun hr => hN (by rw [HT.out] at hr; cases r with | none => rfl | some p => cases hr)) (fun x y hr => ?_) _ _ _ _ _ _ _
   rw [HT.out] at hr
   cases r with
   | none => cases hr
   | some p =>
     obtain ⟨x2, y2⟩ := p
     injection hr with hr; injection hr with h1 h2; subst h1; subst h2
     obtain ⟨g1, g2, g3, g4⟩ := hS x2 y2 rfl
     obtain ⟨v1, v2⟩ := zio g4 (B := w.heap.size) (fun k hk => by omega) hbig
     exact ⟨g1, g2, by simp [countE]; omega, ziJ Ex.neg (nn := 0) (mm := 0) (kn := 0) (cn := 0) ⟨rfl, rfl, rfl, rfl, rfl, rfl, rfl⟩ ⟨rfl, Nat.le_refl _⟩ (.inl rfl) v1 v2⟩
end Go.Proofs.YtbcemjhaecelnaaGreatDoor.Drd
end

section
namespace Go.Proofs.YtbcemjhaecelnaaGreatDoor.Drd
open Go.RowKit Go.Lib Par Sto
theorem PreS.setNew {w wx : World} {bd nn nb : Nat} {l : List Tq} {b : Bool} (h : PreS w wx bd nn l b) (hn : w.heap.size < nb) (i : Nat) (v : Value) : PreS w (wx.setCell ⟨nb, i, none⟩ v) bd nn l b :=
 have hf := h.far
 ⟨h.rd.keep fun k hk => Below.heap_setCell _ _ _ _ (by show k ≠ nb; omega), grown_setNew h.grow (by omega) i v, (Below.heap_setCell _ _ _ _ (by show w.heap.size ≠ nb; omega)).trans h.box, hf, by simpa using h.big⟩
theorem PreS.alloc {w wx : World} {bd nn : Nat} {l : List Tq} {b : Bool} (h : PreS w wx bd nn l b) (o : Obj) : PreS w (wx.alloc o) bd nn l b :=
 h.call (h.rd.alloc o) (grown_alloc (grown_refl _ _) o)
structure NodS (w wx : World) (bd nn : Nat) (l : List Tq) (b : Bool) (nb : Nat) (a0 a1 a2 a3 a4 a5 a6 : Value) : Prop where
 pre : PreS w wx bd nn l b
 box : Box7 wx nb a0 a1 a2 a3 a4 a5 a6
 low : w.heap.size < nb
theorem NodS.lt {w wx : World} {bd nn : Nat} {l : List Tq} {b : Bool} {nb : Nat} {a0 a1 a2 a3 a4 a5 a6 : Value} (h : NodS w wx bd nn l b nb a0 a1 a2 a3 a4 a5 a6) : nb < wx.heap.size := (Array.getElem?_eq_some_iff.1 h.box).1
theorem NodS.call {w wx w' : World} {bd nn nn' : Nat} {l l' : List Tq} {b b' : Bool} {nb : Nat} {a0 a1 a2 a3 a4 a5 a6 : Value} (h : NodS w wx bd nn l b nb a0 a1 a2 a3 a4 a5 a6) (hr : Rdd w' bd l' nn' b') (hg : wx.grownBy w' (some bd)) : NodS w w' bd nn' l' b' nb a0 a1 a2 a3 a4 a5 a6 :=
 have hf := h.pre.far
 have hl := h.low
 ⟨h.pre.call hr hg, zaa h.box hg (by omega), hl⟩
theorem NodS.new {w wx : World} {bd nn : Nat} {l : List Tq} {b : Bool} (h : PreS w wx bd nn l b) (a0 a1 a2 a3 a4 a5 a6 : Value) : NodS w (wx.alloc (Obj.cells #[a0, a1, a2, a3, a4, a5, a6] 27)) bd nn l b wx.heap.size a0 a1 a2 a3 a4 a5 a6 :=
 ⟨h.alloc _, zal wx _ _ _ _ _ _ _, h.big⟩
theorem NodS.alloc {w wx : World} {bd nn : Nat} {l : List Tq} {b : Bool} {nb : Nat} {a0 a1 a2 a3 a4 a5 a6 : Value} (h : NodS w wx bd nn l b nb a0 a1 a2 a3 a4 a5 a6) (o : Obj) : NodS w (wx.alloc o) bd nn l b nb a0 a1 a2 a3 a4 a5 a6 :=
 h.call (h.pre.rd.alloc o) (grown_alloc (grown_refl _ _) o)
theorem NodS.set2 {w wx : World} {bd nn : Nat} {l : List Tq} {b : Bool} {nb : Nat} {a0 a1 a2 a3 a4 a5 a6 : Value} (h : NodS w wx bd nn l b nb a0 a1 a2 a3 a4 a5 a6) (v : Value) : NodS w (wx.setCell ⟨nb, 2, none⟩ v) bd nn l b nb a0 a1 v a3 a4 a5 a6 :=
 ⟨h.pre.setNew h.low 2 v, heap_setCell_same wx nb 2 #[a0, a1, a2, a3, a4, a5, a6] 27 v h.box, h.low⟩
theorem NodS.set3 {w wx : World} {bd nn : Nat} {l : List Tq} {b : Bool} {nb : Nat} {a0 a1 a2 a3 a4 a5 a6 : Value} (h : NodS w wx bd nn l b nb a0 a1 a2 a3 a4 a5 a6) (v : Value) : NodS w (wx.setCell ⟨nb, 3, none⟩ v) bd nn l b nb a0 a1 a2 v a4 a5 a6 :=
 ⟨h.pre.setNew h.low 3 v, heap_setCell_same wx nb 3 #[a0, a1, a2, a3, a4, a5, a6] 27 v h.box, h.low⟩
theorem NodS.set4 {w wx : World} {bd nn : Nat} {l : List Tq} {b : Bool} {nb : Nat} {a0 a1 a2 a3 a4 a5 a6 : Value} (h : NodS w wx bd nn l b nb a0 a1 a2 a3 a4 a5 a6) (v : Value) : NodS w (wx.setCell ⟨nb, 4, none⟩ v) bd nn l b nb a0 a1 a2 a3 v a5 a6 :=
 ⟨h.pre.setNew h.low 4 v, heap_setCell_same wx nb 4 #[a0, a1, a2, a3, a4, a5, a6] 27 v h.box, h.low⟩
theorem NodS.set6 {w wx : World} {bd nn : Nat} {l : List Tq} {b : Bool} {nb : Nat} {a0 a1 a2 a3 a4 a5 a6 : Value} (h : NodS w wx bd nn l b nb a0 a1 a2 a3 a4 a5 a6) (v : Value) : NodS w (wx.setCell ⟨nb, 6, none⟩ v) bd nn l b nb a0 a1 a2 a3 a4 a5 v :=
 ⟨h.pre.setNew h.low 6 v, heap_setCell_same wx nb 6 #[a0, a1, a2, a3, a4, a5, a6] 27 v h.box, h.low⟩
theorem NodS.toks {w wx : World} {bd nn : Nat} {l t : List Tq} {b : Bool} {nb : Nat} {a0 a1 a2 a3 a4 a5 a6 v : Value} (h : NodS w wx bd nn l b nb a0 a1 a2 a3 a4 a5 a6) (hr : Rdd (wx.setCell ⟨bd, 0, none⟩ v) bd t nn b) : NodS w (wx.setCell ⟨bd, 0, none⟩ v) bd nn t b nb a0 a1 a2 a3 a4 a5 a6 :=
 h.call hr (grown_set _ _ _ _)
structure NamR (w : World) (nb : Nat) (r : Option ((Nat × List ByteArray) × List Tq)) (mm : Nat) (on : Option Addr) (kn cn : Nat) (l2 : List Tq) (b2 : Bool) : Prop where
 no : r = none -> b2 = true
 yes : ∀ m ns y, r = some ((m, ns), y) -> b2 = false /\ m = mm /\ y = l2 /\ ns.length = kn /\ kn <= cn /\ za2 w (fun b => nb < b) on 1 (ns.map encN)
theorem NamR.keep {w w' : World} {nb : Nat} {r : Option ((Nat × List ByteArray) × List Tq)} {mm : Nat} {on : Option Addr} {kn cn : Nat} {l2 : List Tq} {b2 : Bool} (h : NamR w nb r mm on kn cn l2 b2) (hk : ∀ k, nb < k -> k < w.heap.size -> w'.heap[k]? = w.heap[k]?) : NamR w' nb r mm on kn cn l2 b2 :=
 ⟨h.no, fun m ns y hr => by
  obtain ⟨h1, h2, h3, h4, h5, h6⟩ := h.yes m ns y hr
  exact ⟨h1, h2, h3, h4, h5, h6.keep fun b hb hl => ⟨hk b hb hl, hb⟩⟩⟩
theorem ziq {w w' : World} {bd nn nb mm : Nat} {t : List Tq} {e : Ending} (h : zgx w bd nn (if isT 5 [40] t then zbe zaZ [41] t.tail else none) e w') (hnb : nb < w.heap.size) :
 ∃ on kn cn l2 b2, e = .returned (.slice on kn cn) /\ Rdd w' bd l2 nn b2 /\ w.grownBy w' (some bd) /\ (b2 = false -> l2.length <= t.length) /\ NamR w' nb (if isT 5 [40] t then (zbe zaZ [41] t.tail).map fun p => ((mm, p.1), p.2) else none) mm on kn cn l2 b2 := by
 cases hx : isT 5 [40] t with
 | false =>
   rw [hx] at h
   obtain ⟨⟨o, n, c, rfl⟩, ⟨l, hr⟩, hg⟩ := h
   exact ⟨o, n, c, l, true, rfl, hr, hg, fun h => (by cases h), ⟨fun _ => rfl, fun m ns y hr => (by simp at hr)⟩⟩
 | true =>
   have htl := zaw hx
   rw [hx, if_pos rfl] at h
   cases hy : zbe zaZ [41] t.tail with
   | none =>
     rw [hy] at h
     obtain ⟨⟨o, n, c, rfl⟩, ⟨l, hr⟩, hg⟩ := h
     exact ⟨o, n, c, l, true, rfl, hr, hg, fun h => (by cases h), ⟨fun _ => rfl, fun m ns y hr => (by simp at hr)⟩⟩
   | some p =>
     obtain ⟨xs, y⟩ := p
     have hle := zf9 zfA hy
     rw [hy] at h
     obtain ⟨⟨o, c, rfl, hc, hs⟩, hr, hg⟩ := h
     refine ⟨o, xs.length, c, y, false, rfl, hr, hg, fun _ => by omega, ⟨fun h => (by simp at h), fun m ns y2 hr2 => ?_⟩⟩
     simp at hr2
     obtain ⟨⟨rfl, rfl⟩, rfl⟩ := hr2
     exact ⟨rfl, rfl, rfl, rfl, hc, hs.keep fun b hb _ => ⟨rfl, by omega⟩⟩
theorem zfN {k : Nat} {b : Bool} {l : List Tq} (h : badK k b l = false) : b = false /\ numP k l = some (valL (txtK k b l), resK k b l) := by
 unfold badK at h
 cases b with
 | true => cases h
 | false =>
   simp only [Bool.false_or, Bool.not_eq_false'] at h
   cases l with
   | nil => cases h
   | cons x t =>
     have hx : x.1 = k := by simpa [isK] using h
     refine ⟨rfl, ?_⟩
     unfold txtK resK badK
     rw [show isK k (x :: t) = true from h]
     simp [numP, hx, zd2]
theorem zir {k : Nat} {l : List Tq} (h : badK k false l = true) : numP k l = none := by
 unfold badK at h
 simp only [Bool.false_or, Bool.not_eq_true'] at h
 cases l with
 | nil => rfl
 | cons x t =>
   have hx : ¬ x.1 = k := by simpa [isK] using h
   simp [numP, hx]
structure NumR (name : List UInt8) (b3 : Bool) (l3 : List Tq) (kk : Nat) (l4 : List Tq) (b4 : Bool) : Prop where
 yes : b4 = false -> b3 = false /\ zdD name l3 = some (kk, l4)
 no : b4 = true -> b3 = true \/ zdD name l3 = none
theorem agg_is {n : Nat} {name : List UInt8} {l : List Tq} {r1 : Option ((Nat × List ByteArray) × List Tq)} (h1 : r1 = zbu wBy za0 l) {mm : Nat} {ns : List ByteArray} {l2 : List Tq} (h2 : r1 = some ((mm, ns), l2)) {kk : Nat} {l4 : List Tq} (h3 : isT 5 [40] l2 = true) (h4 : zdD name l2.tail = some (kk, l4)) :
 zbj (n + 2) name l = (chainGo n 1 l4).bind fun p => if isT 5 [41] p.2 then some (.agg (bz name) kk mm ns p.1, p.2.tail) else none := by
 rw [zbj, <- h1, h2]
 simp only [h3, if_true, h4]
 rw [zan]
 cases chainGo n 1 l4 with
 | none => rfl
 | some p =>
   obtain ⟨x, m⟩ := p
   simp only [Option.bind_some]
   cases isT 5 [41] m <;> rfl
theorem agg_no1 {n : Nat} {name : List UInt8} {l : List Tq} (h : zbu wBy za0 l = none) : zbj (n + 1) name l = none := by
 rw [zbj, h]
theorem agg_no2 {n : Nat} {name : List UInt8} {l : List Tq} {mm : Nat} {ns : List ByteArray} {l2 : List Tq} (h : zbu wBy za0 l = some ((mm, ns), l2)) (h3 : isT 5 [40] l2 = false) : zbj (n + 1) name l = none := by
 rw [zbj, h]
 simp [h3]
theorem agg_no3 {n : Nat} {name : List UInt8} {l : List Tq} {mm : Nat} {ns : List ByteArray} {l2 : List Tq} (h : zbu wBy za0 l = some ((mm, ns), l2)) (h4 : zdD name l2.tail = none) : zbj (n + 1) name l = none := by
 rw [zbj, h]
 simp only [h4]
 cases isT 5 [40] l2 <;> rfl
theorem agg_all {n : Nat} {s : List UInt8} {l l2 l3 l4 l' : List Tq} {R1 : Option ((Nat × List ByteArray) × List Tq)} {RC : Option (Ex × List Tq)} {b2 b3 b4 b' : Bool} {mm kk : Nat}
 (hR1 : zbu wBy za0 l = R1) (hno : R1 = none -> b2 = true) (hyes : ∀ m ns y, R1 = some ((m, ns), y) -> b2 = false /\ m = mm /\ y = l2) (hl3 : resS [40] b2 l2 = l3) (hb3 : badS [40] b2 l2 = b3) (hnum : NumR s b3 l3 kk l4 b4)
 (hRC : orB b4 (chainGo n 1 l4) = RC) (h1 : RC = none -> b' = true) (h2 : ∀ x y, RC = some (x, y) -> b' = false /\ l' = y) :
 (badS [41] b' l' = true /\ zbj (n + 2) s l = none) \/ (badS [41] b' l' = false /\ ∃ x0 ns, zbj (n + 2) s l = some (.agg (bz s) kk mm ns x0, resS [41] b' l') /\ RC = some (x0, l') /\ R1 = some ((mm, ns), l2) /\ b4 = false /\ b' = false) := by
 have bad2 : b2 = true -> b' = true := fun h => by
  have e3 : b3 = true := by rw [<- hb3, h]; rfl
  cases hb : b4 with
  | true => exact h1 (by rw [<- hRC, hb]; rfl)
  | false => exact absurd e3 (by rw [(hnum.yes hb).1]; exact Bool.false_ne_true)
 have out : b' = true -> badS [41] b' l' = true := fun h => by rw [h]; rfl
 cases hr : R1 with
 | none => exact .inl ⟨out (bad2 (hno hr)), agg_no1 (hR1.trans hr)⟩
 | some p =>
   obtain ⟨⟨m, ns⟩, y⟩ := p
   obtain ⟨e2, rfl, rfl⟩ := hyes _ _ _ hr
   subst e2
   cases h40 : isT 5 [40] y with
   | false =>
     have e3 : b3 = true := by rw [<- hb3]; show (false || !isT 5 [40] y) = true; rw [h40]; rfl
     refine .inl ⟨out ?_, agg_no2 (hR1.trans hr) h40⟩
     cases hb : b4 with
     | true => exact h1 (by rw [<- hRC, hb]; rfl)
     | false => exact absurd e3 (by rw [(hnum.yes hb).1]; exact Bool.false_ne_true)
   | true =>
     have e3' : badS [40] false y = false := by show (false || !isT 5 [40] y) = false; rw [h40]; rfl
     have e3 : b3 = false := by rw [<- hb3]; exact e3'
     have el3 : l3 = y.tail := by rw [<- hl3]; unfold resS; rw [e3', if_neg (by simp)]
     subst el3
     cases hb : b4 with
     | true =>
       refine .inl ⟨out (h1 (by rw [<- hRC, hb]; rfl)), ?_⟩
       rcases hnum.no hb with h | h
       ·rw [e3] at h; cases h
       ·exact agg_no3 (hR1.trans hr) h
     | false =>
       have hnp := (hnum.yes hb).2
       have his := agg_is (n := n) (name := s) hR1.symm hr h40 hnp
       rw [hb] at hRC
       change chainGo n 1 l4 = RC at hRC
       rw [hRC] at his
       cases hrc : RC with
       | none =>
         rw [hrc] at his
         exact .inl ⟨out (h1 hrc), his⟩
       | some q =>
         obtain ⟨x0, y0⟩ := q
         obtain ⟨g1, rfl⟩ := h2 _ _ hrc
         subst g1
         rw [hrc] at his
         simp only [Option.bind_some] at his
         cases h41 : isT 5 [41] l' with
         | false =>
           rw [h41] at his
           exact .inl ⟨by show (false || !isT 5 [41] l') = true; rw [h41]; rfl, his⟩
         | true =>
           rw [h41, if_pos rfl] at his
           have eb : badS [41] false l' = false := by show (false || !isT 5 [41] l') = false; rw [h41]; rfl
           refine .inr ⟨eb, x0, ns, ?_, rfl, rfl, rfl, rfl⟩
           rw [his]; unfold resS; rw [eb, if_neg (by simp)]
end Go.Proofs.YtbcemjhaecelnaaGreatDoor.Drd
end
