import Derived.Test.YtbcemjhaecelnaaGreatDoorMg38
import Derived.Test.YtbcemjhaecelnaaGreatDoorMg23
section
namespace Go.Proofs.YtbcemjhaecelnaaGreatDoor.Drd
open Go.RowKit Go.Lib Par Sto
theorem dchain_of (n : Nat) (hU : zeH n) (hC : ∀ k, k <= n -> zdM k) : zdM (n + 1) := by
 intro t l bad ht1 ht4 hl w bd nn q hq hnn h
 cases bad with
 | true => exact zfu ht1 ht4 hq bd l nn w h
 | false =>
   rw [zcG]
   by_cases ht : t = 4
   ·subst ht
    obtain rfl : q = 3 := by omega
    exact dchain_top n hU l (by omega) w bd nn hnn h
   ·exact dchain_low n t ht1 (by omega) hC l hl w bd nn q hq hnn h
structure DAll (n : Nat) : Prop where
 chain : zdM n
 unary : zeH n
 prim : zip n
 agg : ziK n
theorem dall_zero : DAll 0 := by
 refine ⟨?_, fun l hl => ?_, fun l hl => ?_, fun s l _ _ hl => ?_⟩
 ·intro t l bad ht1 ht4 hl w bd nn q hq hnn h
  omega
 ·omega
 ·omega
 ·omega
theorem ziu (hM : zhz) : ∀ n, ∀ k, k <= n -> DAll k
 | 0, k, hk => by
   obtain rfl : k = 0 := by omega
   exact dall_zero
 | n + 1, k, hk => by
   have ih := ziu hM n
   by_cases hkn : k <= n
   ·exact ih k hkn
   ·obtain rfl : k = n + 1 := by omega
    have i := ih n (Nat.le_refl _)
    refine ⟨dchain_of n i.unary fun j hj => (ih j hj).chain, dunary_of n i.unary i.prim, dprim_of hM n (fun j hj => (ih j hj).chain) i.agg, ?_⟩
    cases n with
    | zero => intro s l _ _ hl; omega
    | succ m => exact dagg_of m (ih m (by omega)).chain
theorem dexpr_any (hM : zhz) (l : List Tq) (w : World) (bd nn : Nat) (hnn : nn + l.length <= 1000000) (h : Rdd w bd l nn false) :
 Calls Tryz.prog 22 #[.pointer (some ⟨bd, 0, none⟩), .int .i64 0] w (DEnd w bd nn l false (chainGo (9 * l.length + 9) 1 l)) :=
 (ziu hM (9 * l.length + 9) _ (Nat.le_refl _)).chain 1 l false (by omega) (by omega) (by omega) w bd nn 0 rfl hnn h
end Go.Proofs.YtbcemjhaecelnaaGreatDoor.Drd
end

section
namespace Go.Proofs.YtbcemjhaecelnaaGreatDoor.Drd
open Go.RowKit Go.Lib Par Sto
theorem first_wd {l : List UInt8} {t : Tk} (hne : l ≠ []) (h : zam l = some t) : t.1 = 1 -> t.2.1 ≠ [] := by
 intro h1 h2
 have hlen := zb5 hne h
 unfold zam at h
 split at h
 ·split at h
  ·cases h
   have h3 := congrArg List.length h2
   have hl : 0 < l.length := List.length_pos_iff.2 hne
   simp only [List.length_take, List.length_nil] at h3 hlen
   omega
  ·cases h
 ·split at h
  ·have := (zhK h).1
   omega
  ·split at h
   ·split at h
    ·cases h; simp at h1
    ·cases h
   ·unfold zc5 at h
    split at h
    ·cases h; simp at h1
    ·split at h
     ·cases h; simp at h1
     ·cases h
theorem lexAt_wd (l : List UInt8) : ∀ (a : Nat) (ws : List Wd), zbr a l = some ws -> ∀ w ∈ ws, w.1 = 1 -> w.2.2 ≠ [] := by
 induction l using zd8 with
 | h0 => intro a ws h; obtain rfl : [] = ws := Option.some.inj h; exact fun w hw => by cases hw
 | h1 l hne ih =>
   intro a ws h
   have hl : 0 < l.length := List.length_pos_iff.2 hne
   by_cases h3 : zaj (rune l) = 3
   ·rw [zbM a hne h3] at h
    exact ih _ (by rw [List.length_drop]; omega) _ _ h
   ·cases hf : zam l with
    | none => rw [zcg a hne h3 hf] at h; cases h
    | some t =>
      have hb1 := zb5 hne hf
      rw [zc6 a hne h3 hf] at h
      cases hx : zbr (a + t.2.2) (l.drop t.2.2) with
      | none => rw [hx] at h; cases h
      | some vs =>
        rw [hx] at h
        obtain rfl := Option.some.inj h
        intro w hw
        rcases List.mem_cons.1 hw with rfl | hw
        ·exact first_wd hne hf
        ·exact ih _ (by rw [List.length_drop]; omega) _ _ hx w hw
theorem lexL_wd {l : List UInt8} {ws : List Wd} (h : lexL l = some ws) : ∀ w ∈ ws, w.1 = 1 -> w.2.2 ≠ [] := lexAt_wd l 0 ws h
theorem tok_rowD {w : World} {B g n c : Nat} {ws : List Wd} (h : w.ownsRow B 78 3 (.slice (some ⟨g, 0, none⟩) n c) ws.length (zcU ws)) : TokD w g 0 (ws.map tq) := by
 obtain ⟨h1, h2, h3⟩ := zhZ h
 refine ⟨h3.low, h3.at0, fun j x hx => ?_, h3.at2⟩
 rw [List.getElem?_map] at hx
 cases hy : ws[j]? with
 | none => rw [hy] at hx; cases hx
 | some y =>
   have := h.cells (g := g) rfl (j * 3 + 1) _ (ze7 encT 3 (fun _ => rfl) ws j y hy 1 _ rfl)
   exact ⟨_, by simpa [Addr.add_lit] using this⟩
theorem rdd_start {w : World} {B : Nat} {v : Value} {ws : List Wd} (h : w.ownsRow B 78 3 v ws.length (zcU ws)) (hl : ws.length <= 1000000) (hok : ∀ x ∈ ws, TokW (tq x)) : ∃ o c, v = .slice o ws.length c /\ Rdd (w.alloc (Obj.cells #[.slice o ws.length c, .int .i64 0, .bool false] 52)) w.heap.size (ws.map tq) 0 false := by
 have hok2 : ∀ x ∈ ws.map tq, TokW x := fun x hx => by
  obtain ⟨y, hy, rfl⟩ := List.mem_map.1 hx
  exact hok y hy
 rcases h.2 with ⟨rfl, h0⟩ | ⟨g, cap, cur, rfl, hB, hg, hle, _⟩
 ·obtain rfl := List.eq_nil_of_length_eq_zero h0
  exact ⟨none, 0, rfl, none, 0, Array.getElem?_push_size, Nat.le_refl _, ⟨Nat.zero_le _, fun s hs => by simp at hs⟩, .inl rfl⟩
 ·have h3 := tok_rowD h
  have hgl := (Array.getElem?_eq_some_iff.1 hg).1
  refine ⟨_, cap, rfl, some ⟨g, 0, none⟩, cap, by rw [List.length_map]; exact Array.getElem?_push_size, by rw [List.length_map]; exact hle, ⟨by rw [List.length_map]; exact hl, hok2⟩, .inr ⟨g, 0, rfl, hgl, h3.keep (Below.heap_alloc _ _ _ hgl)⟩⟩
theorem put7_on10 {w : World} {k : Nat} {x0 x1 x2 x3 x4 x5 x6 x7 x8 x9 : Value} (h : zbb w k x0 x1 x2 x3 x4 x5 x6 x7 x8 x9) (a b c d e f g : Value) : zbb (put7 w k a b c d e f g) k a b c d e f g x7 x8 x9 := by
 have e0 : (w.setCell ⟨k, 0, none⟩ a).heap[k]? = _ := heap_setCell_same w k 0 #[x0, x1, x2, x3, x4, x5, x6, x7, x8, x9] 29 a h
 have e1 : ((w.setCell ⟨k, 0, none⟩ a).setCell ⟨k, 1, none⟩ b).heap[k]? = _ := heap_setCell_same _ k 1 #[a, x1, x2, x3, x4, x5, x6, x7, x8, x9] 29 b e0
 have e2 : (((w.setCell ⟨k, 0, none⟩ a).setCell ⟨k, 1, none⟩ b).setCell ⟨k, 2, none⟩ c).heap[k]? = _ := heap_setCell_same _ k 2 #[a, b, x2, x3, x4, x5, x6, x7, x8, x9] 29 c e1
 have e3 : ((((w.setCell ⟨k, 0, none⟩ a).setCell ⟨k, 1, none⟩ b).setCell ⟨k, 2, none⟩ c).setCell ⟨k, 3, none⟩ d).heap[k]? = _ := heap_setCell_same _ k 3 #[a, b, c, x3, x4, x5, x6, x7, x8, x9] 29 d e2
 have e4 : (((((w.setCell ⟨k, 0, none⟩ a).setCell ⟨k, 1, none⟩ b).setCell ⟨k, 2, none⟩ c).setCell ⟨k, 3, none⟩ d).setCell ⟨k, 4, none⟩ e).heap[k]? = _ := heap_setCell_same _ k 4 #[a, b, c, d, x4, x5, x6, x7, x8, x9] 29 e e3
 have e5 : ((((((w.setCell ⟨k, 0, none⟩ a).setCell ⟨k, 1, none⟩ b).setCell ⟨k, 2, none⟩ c).setCell ⟨k, 3, none⟩ d).setCell ⟨k, 4, none⟩ e).setCell ⟨k, 5, none⟩ f).heap[k]? = _ := heap_setCell_same _ k 5 #[a, b, c, d, e, x5, x6, x7, x8, x9] 29 f e4
 exact heap_setCell_same _ k 6 #[a, b, c, d, e, f, x6, x7, x8, x9] 29 g e5
structure RdQ (w wx : World) (bd qb : Nat) (r1 : Option (Ex × List Tq)) (l : List Tq) (nn : Nat) (b : Bool) (a tx : ByteArray) (z m : Int) (o1 : Option Addr) (k1 c1 : Nat) (o2 : Option Addr) (k2 c2 : Nat) (o3 : Option Addr) (k3 c3 : Nat) (od li ob : Int) : Prop where
 rd : Rdd wx bd l nn b
 res : zbb wx w.heap.size (.string ⟨#[]⟩) (.string ⟨#[]⟩) (.int .i64 0) (.int .i64 0) (.slice none 0 0) (.slice none 0 0) (.slice none 0 0) (.int .i64 0) (.int .i64 0) (.int .i64 0)
 box : zbb wx qb (.string a) (.string tx) (.int .i64 z) (.int .i64 m) (.slice o1 k1 c1) (.slice o2 k2 c2) (.slice o3 k3 c3) (.int .i64 od) (.int .i64 li) (.int .i64 ob)
 below : Below w.heap.size w wx
 far : w.heap.size < bd
 up : bd < qb
 nod : ∀ x y, r1 = some (x, y) -> Nod wx (fun k => qb < k) [.string a, .string tx, .int .i64 z, .int .i64 m, .slice o1 k1 c1, .slice o2 k2 c2, .slice o3 k3 c3] x
section
variable {w wx w' : World} {bd qb : Nat} {r1 : Option (Ex × List Tq)} {l l' : List Tq} {nn nn' : Nat} {b b' : Bool} {a tx : ByteArray} {z m : Int} {o1 : Option Addr} {k1 c1 : Nat} {o2 : Option Addr} {k2 c2 : Nat} {o3 : Option Addr} {k3 c3 : Nat} {od li ob : Int}
theorem RdQ.call (h : RdQ w wx bd qb r1 l nn b a tx z m o1 k1 c1 o2 k2 c2 o3 k3 c3 od li ob) (hr : Rdd w' bd l' nn' b') (hg : wx.grownBy w' (some bd)) : RdQ w w' bd qb r1 l' nn' b' a tx z m o1 k1 c1 o2 k2 c2 o3 k3 c3 od li ob :=
 have hf := h.far
 have hu := h.up
 have hlt := h.rd.lt
 ⟨hr, zaa h.res hg (by omega), zaa h.box hg (by omega), ⟨hg.os.trans h.below.os, hg.tape.trans h.below.tape, hg.output.trans h.below.output, Nat.le_trans h.below.size hg.size, fun j hj => (hg.block j (by omega) (by simp; omega)).trans (h.below.block j hj)⟩, hf, hu, fun x y he => (h.nod x y he).keep fun _ hk hkl => ⟨hg.block _ hkl (by simp; omega), hk⟩⟩
theorem RdQ.at (h : RdQ w wx bd qb r1 l nn b a tx z m o1 k1 c1 o2 k2 c2 o3 k3 c3 od li ob) (i : Nat) (v : Value) {od' li' ob' : Int} (hb : zbb (wx.setCell ⟨qb, i, none⟩ v) qb (.string a) (.string tx) (.int .i64 z) (.int .i64 m) (.slice o1 k1 c1) (.slice o2 k2 c2) (.slice o3 k3 c3) (.int .i64 od') (.int .i64 li') (.int .i64 ob')) : RdQ w (wx.setCell ⟨qb, i, none⟩ v) bd qb r1 l nn b a tx z m o1 k1 c1 o2 k2 c2 o3 k3 c3 od' li' ob' :=
 have hf := h.far
 have hu := h.up
 ⟨h.rd.keep fun k hk => Below.heap_setCell _ _ _ _ (by show k ≠ qb; omega), (Below.heap_setCell _ _ _ _ (by show w.heap.size ≠ qb; omega)).trans h.res, hb, h.below.setCell (p := ⟨qb, i, none⟩) (by show w.heap.size <= qb; omega) v, hf, hu, fun x y he => (h.nod x y he).keep fun k hk _ => ⟨Below.heap_setCell _ _ _ _ (by show k ≠ qb; omega), hk⟩⟩
theorem RdQ.set7 (h : RdQ w wx bd qb r1 l nn b a tx z m o1 k1 c1 o2 k2 c2 o3 k3 c3 od li ob) (n : Int) : RdQ w (wx.setCell ⟨qb, 7, none⟩ (.int .i64 n)) bd qb r1 l nn b a tx z m o1 k1 c1 o2 k2 c2 o3 k3 c3 n li ob :=
 h.at 7 _ (heap_setCell_same wx qb 7 #[_, _, _, _, _, _, _, _, _, _] 29 (.int .i64 n) h.box)
theorem RdQ.set8 (h : RdQ w wx bd qb r1 l nn b a tx z m o1 k1 c1 o2 k2 c2 o3 k3 c3 od li ob) (n : Int) : RdQ w (wx.setCell ⟨qb, 8, none⟩ (.int .i64 n)) bd qb r1 l nn b a tx z m o1 k1 c1 o2 k2 c2 o3 k3 c3 od n ob :=
 h.at 8 _ (heap_setCell_same wx qb 8 #[_, _, _, _, _, _, _, _, _, _] 29 (.int .i64 n) h.box)
theorem RdQ.set9 (h : RdQ w wx bd qb r1 l nn b a tx z m o1 k1 c1 o2 k2 c2 o3 k3 c3 od li ob) (n : Int) : RdQ w (wx.setCell ⟨qb, 9, none⟩ (.int .i64 n)) bd qb r1 l nn b a tx z m o1 k1 c1 o2 k2 c2 o3 k3 c3 od li n :=
 h.at 9 _ (heap_setCell_same wx qb 9 #[_, _, _, _, _, _, _, _, _, _] 29 (.int .i64 n) h.box)
theorem RdQ.toks {v : Value} (h : RdQ w wx bd qb r1 l nn b a tx z m o1 k1 c1 o2 k2 c2 o3 k3 c3 od li ob) (hr : Rdd (wx.setCell ⟨bd, 0, none⟩ v) bd l' nn b) : RdQ w (wx.setCell ⟨bd, 0, none⟩ v) bd qb r1 l' nn b a tx z m o1 k1 c1 o2 k2 c2 o3 k3 c3 od li ob :=
 h.call hr (grown_set _ _ _ _)
theorem RdQ.bad (h : RdQ w wx bd qb r1 l nn b a tx z m o1 k1 c1 o2 k2 c2 o3 k3 c3 od li ob) (b' : Bool) : RdQ w (wx.setCell ⟨bd, 2, none⟩ (.bool b')) bd qb r1 l nn b' a tx z m o1 k1 c1 o2 k2 c2 o3 k3 c3 od li ob :=
 h.call (h.rd.setBad b') (grown_set _ _ _ _)
end
theorem below_put7 {B : Nat} {w w2 : World} (h : Below B w w2) {k : Nat} (hk : B <= k) (a b c d e f g : Value) : Below B w (put7 w2 k a b c d e f g) :=
 have h0 := h.setCell (p := ⟨k, 0, none⟩) hk a
 have h1 := h0.setCell (p := ⟨k, 1, none⟩) hk b
 have h2 := h1.setCell (p := ⟨k, 2, none⟩) hk c
 have h3 := h2.setCell (p := ⟨k, 3, none⟩) hk d
 have h4 := h3.setCell (p := ⟨k, 4, none⟩) hk e
 have h5 := h4.setCell (p := ⟨k, 5, none⟩) hk f
 h5.setCell (p := ⟨k, 6, none⟩) hk g
theorem RdQ.root {w w2 : World} {bd nn : Nat} {r1 : Option (Ex × List Tq)} {l : List Tq} {b : Bool} {a tx : ByteArray} {z m : Int} {o1 : Option Addr} {k1 c1 : Nat} {o2 : Option Addr} {k2 c2 : Nat} {o3 : Option Addr} {k3 c3 : Nat} {x0 x1 x2 x3 x4 x5 x6 : Value}
 (hR : Rdd w2 bd l nn b) (hres : zbb w2 w.heap.size (.string ⟨#[]⟩) (.string ⟨#[]⟩) (.int .i64 0) (.int .i64 0) (.slice none 0 0) (.slice none 0 0) (.slice none 0 0) (.int .i64 0) (.int .i64 0) (.int .i64 0)) (hbox : zbb w2 (bd + 1) x0 x1 x2 x3 x4 x5 x6 (.int .i64 0) (.int .i64 (-1)) (.int .i64 (-1)))
 (hb : Below w.heap.size w w2) (hf : w.heap.size < bd) (hn : ∀ x y, r1 = some (x, y) -> Nod w2 (fun k => bd + 1 < k) [.string a, .string tx, .int .i64 z, .int .i64 m, .slice o1 k1 c1, .slice o2 k2 c2, .slice o3 k3 c3] x) :
 RdQ w (put7 w2 (bd + 1) (.string a) (.string tx) (.int .i64 z) (.int .i64 m) (.slice o1 k1 c1) (.slice o2 k2 c2) (.slice o3 k3 c3)) bd (bd + 1) r1 l nn b a tx z m o1 k1 c1 o2 k2 c2 o3 k3 c3 0 (-1) (-1) where
 rd := hR.keep fun j hj => za1 w2 (bd + 1) (.string a) (.string tx) (.int .i64 z) (.int .i64 m) (.slice o1 k1 c1) (.slice o2 k2 c2) (.slice o3 k3 c3) j (by omega)
 res := (za1 w2 (bd + 1) (.string a) (.string tx) (.int .i64 z) (.int .i64 m) (.slice o1 k1 c1) (.slice o2 k2 c2) (.slice o3 k3 c3) w.heap.size (by omega)).trans hres
 box := put7_on10 hbox (.string a) (.string tx) (.int .i64 z) (.int .i64 m) (.slice o1 k1 c1) (.slice o2 k2 c2) (.slice o3 k3 c3)
 below := below_put7 hb (by omega) (.string a) (.string tx) (.int .i64 z) (.int .i64 m) (.slice o1 k1 c1) (.slice o2 k2 c2) (.slice o3 k3 c3)
 far := hf
 up := Nat.lt_succ_self bd
 nod := fun x y he => zba (hn x y he) (fun k hk => ⟨Nat.ne_of_gt hk, hk⟩) (.string a) (.string tx) (.int .i64 z) (.int .i64 m) (.slice o1 k1 c1) (.slice o2 k2 c2) (.slice o3 k3 c3)
def zcy (w : List UInt8) (l : List Tq) : Option (Int × List Tq) :=
 if isT 1 w l then (match numP 2 l.tail with
  | none => none
  | some (n, m) => some ((n : Int), m)) else some (-1, l)
structure StR {α : Type} (b : Bool) (r : Option (α × List Tq)) (z : α) (l' : List Tq) (b' : Bool) : Prop where
 yes : b' = false -> b = false /\ r = some (z, l')
 no : b' = true -> b = true \/ r = none
theorem ziv {w : List UInt8} {l : List Tq} {z : Int} {l' : List Tq} (h : zcy w l = some (z, l')) : zcC w l = if z <= 2000 then some (z, l') else none := by
 unfold zcy at h
 unfold zcC
 split at h
 ·rename_i hc
  rw [if_pos hc]
  cases hn : numP 2 l.tail with
  | none => rw [hn] at h; cases h
  | some p =>
    obtain ⟨n, m⟩ := p
    rw [hn] at h
    dsimp only at h ⊢
    injection h with h; injection h with h1 h2; subst h1; subst h2
    by_cases hle : n <= 2000
    ·rw [if_pos hle, if_pos (by omega)]
    ·rw [if_neg hle, if_neg (by omega)]
 ·rename_i hc
  rw [if_neg hc]
  injection h with h; injection h with h1 h2; subst h1; subst h2
  rw [if_pos (by omega)]
theorem ziw {w : List UInt8} {l : List Tq} (h : zcy w l = none) : zcC w l = none := by
 unfold zcy at h
 unfold zcC
 split at h
 ·rename_i hc
  rw [if_pos hc]
  cases hn : numP 2 l.tail with
  | none => rfl
  | some p => rw [hn] at h; cases h
 ·cases h
theorem word_take (t : List Tq) : ((txtK 1 false t == wAsc) = true -> isT 1 wAsc t = true /\ resK 1 false t = t.tail /\ badK 1 false t = false) /\ ((txtK 1 false t == zde) = true -> isT 1 zde t = true /\ resK 1 false t = t.tail /\ badK 1 false t = false) /\
 ((txtK 1 false t == wAsc) = false -> isT 1 wAsc t = false) /\ ((txtK 1 false t == zde) = false -> isT 1 zde t = false) := by
 cases t with
 | nil => exact ⟨fun h => by simp [txtK, badK, isK, wAsc] at h, fun h => by simp [txtK, badK, isK, zde] at h, fun _ => rfl, fun _ => rfl⟩
 | cons x m =>
   by_cases hx : x.1 = 1
   ·have e : badK 1 false (x :: m) = false := by simp [badK, isK, hx]
    have e2 : txtK 1 false (x :: m) = x.2 := zhs hx
    have e3 : resK 1 false (x :: m) = m := by unfold resK; rw [e, if_neg (by simp)]; rfl
    rw [e, e2, e3]
    refine ⟨fun h => ⟨by simp [isT, hx]; simpa using h, rfl, rfl⟩, fun h => ⟨by simp [isT, hx]; simpa using h, rfl, rfl⟩, fun h => by simp [isT, hx]; simpa using h, fun h => by simp [isT, hx]; simpa using h⟩
   ·have e : badK 1 false (x :: m) = true := by simp [badK, isK, hx]
    have e2 : txtK 1 false (x :: m) = [] := by unfold txtK; rw [e, if_pos rfl]
    rw [e2]
    refine ⟨fun h => by simp [wAsc] at h, fun h => by simp [zde] at h, fun _ => by simp [isT, hx], fun _ => by simp [isT, hx]⟩
theorem read_steps {l0 l1 l2 l3 l4 : List Tq} {r1 : Option (Ex × List Tq)} {b1 b2 b3 b4 : Bool} {nn : Nat} {od : Nat} {li ob : Int} (h0 : chainGo (9 * l0.length + 9) 1 l0 = r1)
 (h1 : r1 = none -> b1 = true) (h1' : ∀ x m, r1 = some (x, m) -> b1 = false /\ l1 = m /\ nn = countE x) (h2 : StR b1 (zbE l1) od l2 b2) (h3 : StR b2 (zcy zbD l2) li l3 b3) (h4 : StR b3 (zcy zbd l3) ob l4 b4) :
 ((b4 = true \/ l4 ≠ [] \/ 200 < nn \/ 2000 < li \/ 2000 < ob) /\ zf8 l0 = none) \/ (b4 = false /\ l4 = [] /\ nn <= 200 /\ li <= 2000 /\ ob <= 2000 /\ ∃ x, r1 = some (x, l1) /\ zf8 l0 = some ⟨x, od, li, ob⟩) := by
 have bads : ∀ c, b4 = true -> (b4 = true \/ c) := fun c h => .inl h
 have up3 : b3 = true -> b4 = true := fun h => by
  cases hb : b4 with
  | true => rfl
  | false => rw [(h4.yes hb).1] at h; cases h
 have up2 : b2 = true -> b4 = true := fun h => by
  cases hb : b3 with
  | true => exact up3 hb
  | false => rw [(h3.yes hb).1] at h; cases h
 have up1 : b1 = true -> b4 = true := fun h => by
  cases hb : b2 with
  | true => exact up2 hb
  | false => rw [(h2.yes hb).1] at h; cases h
 unfold zf8
 rw [h0]
 cases hr : r1 with
 | none => exact .inl ⟨.inl (up1 (h1 hr)), rfl⟩
 | some p =>
   obtain ⟨x, m⟩ := p
   obtain ⟨e1, rfl, e3⟩ := h1' x m hr
   dsimp only
   unfold zcX
   cases hb2 : b2 with
   | true =>
     rcases h2.no hb2 with h | h
     ·rw [e1] at h; cases h
     ·rw [h]; exact .inl ⟨.inl (up2 hb2), rfl⟩
   | false =>
   rw [(h2.yes hb2).2]
   dsimp only
   cases hb3 : b3 with
   | true =>
     rcases h3.no hb3 with h | h
     ·rw [hb2] at h; cases h
     ·rw [ziw h]; exact .inl ⟨.inl (up3 hb3), rfl⟩
   | false =>
   rw [ziv (h3.yes hb3).2]
   by_cases hli : li <= 2000
   ·rw [if_pos hli]
    dsimp only
    cases hb4 : b4 with
    | true =>
      rcases h4.no hb4 with h | h
      ·rw [hb3] at h; cases h
      ·rw [ziw h]; exact .inl ⟨.inl rfl, rfl⟩
    | false =>
    rw [ziv (h4.yes hb4).2]
    by_cases hob : ob <= 2000
    ·rw [if_pos hob]
     dsimp only
     by_cases hl4 : l4 = []
     ·by_cases hn : nn <= 200
      ·refine .inr ⟨rfl, hl4, hn, hli, hob, x, rfl, ?_⟩
       rw [hl4, if_pos (by simp; omega)]
      ·exact .inl ⟨.inr (.inr (.inl (by omega))), by rw [if_neg (by simp; omega)]⟩
     ·refine .inl ⟨.inr (.inl hl4), by rw [if_neg]; intro h; simp only [Bool.and_eq_true, List.isEmpty_iff] at h; exact hl4 h.1⟩
    ·rw [if_neg hob]; exact .inl ⟨.inr (.inr (.inr (.inr (by omega)))), rfl⟩
   ·rw [if_neg hli]; exact .inl ⟨.inr (.inr (.inr (.inl (by omega)))), rfl⟩
end Go.Proofs.YtbcemjhaecelnaaGreatDoor.Drd
end
