import Derived.Test.YtbcemjhaecelnaaGreatDoorMg36
section
namespace Go.Proofs.YtbcemjhaecelnaaGreatDoor.Drd
open Go.RowKit Go.Lib Par Sto
theorem level_off {l : List Tq} (h : isK 5 l = false) : levelT l = 0 := by
 cases l with
 | nil => rfl
 | cons x t =>
   have : ¬ x.1 = 5 := by simpa [isK] using h
   show (if x.1 = 5 then _ else _) = _
   rw [if_neg this]
theorem level_on {s : Tq} {t : List Tq} (h : s.1 = 5) : levelT (s :: t) = levelS s.2 := by
 show (if s.1 = 5 then _ else _) = _
 rw [if_pos h]
theorem kid_2 {w2 : World} {B : Nat} {P Q : Nat -> Prop} {la lb : ByteArray} {lz lm : Int} {lo1 : Option Addr} {lk1 lc1 : Nat} {lo2 : Option Addr} {lk2 lc2 : Nat} {lo3 : Option Addr} {lk3 lc3 : Nat} {a b : ByteArray} {z m : Int} {o1 : Option Addr} {k1 c1 : Nat} {o2 : Option Addr} {k2 c2 : Nat} {o3 : Option Addr} {k3 c3 : Nat} {x y : Ex} {nb : Nat}
 (hl : Nod w2 P [.string la, .string lb, .int .i64 lz, .int .i64 lm, .slice lo1 lk1 lc1, .slice lo2 lk2 lc2, .slice lo3 lk3 lc3] x) (hP : ∀ b, P b -> B < b /\ b ≠ nb)
 (h : Nod w2 Q [.string a, .string b, .int .i64 z, .int .i64 m, .slice o1 k1 c1, .slice o2 k2 c2, .slice o3 k3 c3] y) (hQ : ∀ b, Q b -> B < b /\ b ≠ nb) (hB : B < w2.heap.size) (hnb : nb < w2.heap.size) :
 za2 (w2.alloc (Obj.cells #[.string la, .string lb, .int .i64 lz, .int .i64 lm, .slice lo1 lk1 lc1, .slice lo2 lk2 lc2, .slice lo3 lk3 lc3, .string a, .string b, .int .i64 z, .int .i64 m, .slice o1 k1 c1, .slice o2 k2 c2, .slice o3 k3 c3] 27)) (fun b => B < b /\ b ≠ nb) (some ⟨w2.heap.size, 0, none⟩) 7 [[.string la, .string lb, .int .i64 lz, .int .i64 lm, .slice lo1 lk1 lc1, .slice lo2 lk2 lc2, .slice lo3 lk3 lc3], [.string a, .string b, .int .i64 z, .int .i64 m, .slice o1 k1 c1, .slice o2 k2 c2, .slice o3 k3 c3]] /\
  Nod (w2.alloc (Obj.cells #[.string la, .string lb, .int .i64 lz, .int .i64 lm, .slice lo1 lk1 lc1, .slice lo2 lk2 lc2, .slice lo3 lk3 lc3, .string a, .string b, .int .i64 z, .int .i64 m, .slice o1 k1 c1, .slice o2 k2 c2, .slice o3 k3 c3] 27)) (fun b => B < b /\ b ≠ nb) [.string la, .string lb, .int .i64 lz, .int .i64 lm, .slice lo1 lk1 lc1, .slice lo2 lk2 lc2, .slice lo3 lk3 lc3] x /\
  Nod (w2.alloc (Obj.cells #[.string la, .string lb, .int .i64 lz, .int .i64 lm, .slice lo1 lk1 lc1, .slice lo2 lk2 lc2, .slice lo3 lk3 lc3, .string a, .string b, .int .i64 z, .int .i64 m, .slice o1 k1 c1, .slice o2 k2 c2, .slice o3 k3 c3] 27)) (fun b => B < b /\ b ≠ nb) [.string a, .string b, .int .i64 z, .int .i64 m, .slice o1 k1 c1, .slice o2 k2 c2, .slice o3 k3 c3] y := by
 refine ⟨?_, hl.keep fun b hb hl => ⟨by rw [Below.heap_alloc _ _ _ hl], hP b hb⟩, h.keep fun b hb hl => ⟨by rw [Below.heap_alloc _ _ _ hl], hQ b hb⟩⟩
 have hnew : (w2.alloc (Obj.cells #[.string la, .string lb, .int .i64 lz, .int .i64 lm, .slice lo1 lk1 lc1, .slice lo2 lk2 lc2, .slice lo3 lk3 lc3, .string a, .string b, .int .i64 z, .int .i64 m, .slice o1 k1 c1, .slice o2 k2 c2, .slice o3 k3 c3] 27)).heap[w2.heap.size]? = some (Obj.cells #[.string la, .string lb, .int .i64 lz, .int .i64 lm, .slice lo1 lk1 lc1, .slice lo2 lk2 lc2, .slice lo3 lk3 lc3, .string a, .string b, .int .i64 z, .int .i64 m, .slice o1 k1 c1, .slice o2 k2 c2, .slice o3 k3 c3] 27) := Array.getElem?_push_size
 refine .inr ⟨_, _, rfl, ⟨hB, by omega⟩, by simp, fun j cs hj i v hv => ?_⟩
 match j, hj with
 | 0, hj =>
   simp at hj; subst hj
   match i, hv with
   | 0, hv => simp at hv; subst hv; unfold World.cell?; simp only [hnew]; rfl
   | 1, hv => simp at hv; subst hv; unfold World.cell?; simp only [hnew]; rfl
   | 2, hv => simp at hv; subst hv; unfold World.cell?; simp only [hnew]; rfl
   | 3, hv => simp at hv; subst hv; unfold World.cell?; simp only [hnew]; rfl
   | 4, hv => simp at hv; subst hv; unfold World.cell?; simp only [hnew]; rfl
   | 5, hv => simp at hv; subst hv; unfold World.cell?; simp only [hnew]; rfl
   | 6, hv => simp at hv; subst hv; unfold World.cell?; simp only [hnew]; rfl
   | i + 7, hv => simp at hv
 | 1, hj =>
   simp at hj; subst hj
   match i, hv with
   | 0, hv => simp at hv; subst hv; unfold World.cell?; simp only [hnew]; rfl
   | 1, hv => simp at hv; subst hv; unfold World.cell?; simp only [hnew]; rfl
   | 2, hv => simp at hv; subst hv; unfold World.cell?; simp only [hnew]; rfl
   | 3, hv => simp at hv; subst hv; unfold World.cell?; simp only [hnew]; rfl
   | 4, hv => simp at hv; subst hv; unfold World.cell?; simp only [hnew]; rfl
   | 5, hv => simp at hv; subst hv; unfold World.cell?; simp only [hnew]; rfl
   | 6, hv => simp at hv; subst hv; unfold World.cell?; simp only [hnew]; rfl
   | i + 7, hv => simp at hv
 | j + 2, hj => simp at hj
theorem nod_2 {W : World} {P : Nat -> Prop} {x y : Ex} {op : ByteArray} {mm : Nat} {names : List ByteArray} {on : Option Addr} {kn cn : Nat} {ok : Option Addr} {cs ds : List Value}
 (hkn : names.length = kn /\ kn <= cn) (hs : za2 W P on 1 (names.map encN)) (hk : za2 W P ok 7 [cs, ds]) (hx : Nod W P cs x) (hy : Nod W P ds y) :
 Nod W P [.string ⟨#[98, 105, 110]⟩, .string op, .int .i64 0, .int .i64 (mm : Nat), .slice on kn cn, .slice none 0 0, .slice ok 2 2] (.bin op mm names x y) :=
 Nod.mk (w := W) (P := P) (.bin op mm names x y) 0 (mm : Nat) on none ok kn cn 0 0 2 2 [cs, ds] rfl rfl hkn rfl rfl rfl hs (.inl rfl) hk
  (fun j c e hj he => by
   match j, hj, he with
   | 0, hj, he => simp [zaO] at hj he; subst hj; subst he; exact hx
   | 1, hj, he => simp [zaO] at hj he; subst hj; subst he; exact hy
   | j + 2, hj, he => simp at hj)
structure ChS (w wr : World) (bd nn nb : Nat) (l0 : List Tq) (n t : Nat) (T : Option (Ex × List Tq)) (l1 : List Tq) (b1 : Bool) (nn1 : Nat) (a b : ByteArray) (z m : Int) (o1 : Option Addr) (k1 c1 : Nat) (o2 : Option Addr) (k2 c2 : Nat) (o3 : Option Addr) (k3 c3 : Nat) : Prop where
 nod : NodS w wr bd nn1 l1 b1 nb (.string a) (.string b) (.int .i64 z) (.int .i64 m) (.slice o1 k1 c1) (.slice o2 k2 c2) (.slice o3 k3 c3)
 few : (b1 = false -> nn1 + l1.length <= nn + l0.length) /\ nn1 <= nn + l0.length + 1
 no : b1 = true -> T = none
 yes : b1 = false -> ∃ N x, N <= n /\ 9 * l1.length + 1 <= N /\ zbi N t x l1 = T /\ nn1 = nn + countE x /\ Nod wr (fun b => w.heap.size < b /\ b ≠ nb) [.string a, .string b, .int .i64 z, .int .i64 m, .slice o1 k1 c1, .slice o2 k2 c2, .slice o3 k3 c3] x
theorem ChS.fin {w wr : World} {bd nn nb : Nat} {l0 : List Tq} {n t : Nat} {T : Option (Ex × List Tq)} {l1 : List Tq} {b1 : Bool} {nn1 : Nat} {a b : ByteArray} {z m : Int} {o1 : Option Addr} {k1 c1 : Nat} {o2 : Option Addr} {k2 c2 : Nat} {o3 : Option Addr} {k3 c3 : Nat}
 (h : ChS w wr bd nn nb l0 n t T l1 b1 nn1 a b z m o1 k1 c1 o2 k2 c2 o3 k3 c3) (hlv : b1 = false -> levelT l1 ≠ t) (A0 A1 A2 A3 A4 A5 A6 : Value) :
 DEnd w bd nn l0 false T (.returned (.agg #[.string a, .string b, .int .i64 z, .int .i64 m, .slice o1 k1 c1, .slice o2 k2 c2, .slice o3 k3 c3])) (put7 wr w.heap.size A0 A1 A2 A3 A4 A5 A6) := by
 have hf := h.nod.pre.far
 cases b1 with
 | true =>
   rw [h.no rfl]
   exact zaR hf h.nod.pre.grow h.nod.pre.big (grown_refl _ _) h.nod.pre.rd h.few _ _ _ _ _ _ _ _ _ _ _ _ _ (fun _ => rfl) (fun x y hr => by cases hr) _ _ _ _ _ _ _
 | false =>
   obtain ⟨N, x, h1, h2, h3, h4, h5⟩ := h.yes rfl
   obtain ⟨N, rfl⟩ : ∃ M, N = M + 1 := ⟨N - 1, by omega⟩
   rw [zbi, if_neg (hlv rfl)] at h3
   rw [<- h3]
   refine zaR hf h.nod.pre.grow h.nod.pre.big (grown_refl _ _) h.nod.pre.rd h.few _ _ _ _ _ _ _ _ _ _ _ _ _ (fun hr => by cases hr) (fun x y hr => ?_) _ _ _ _ _ _ _
   injection hr with hr; injection hr with e1 e2; subst e1; subst e2
   exact ⟨rfl, rfl, h4, h5.keep fun k hk _ => ⟨rfl, hk.1⟩⟩
end Go.Proofs.YtbcemjhaecelnaaGreatDoor.Drd
end

section
namespace Go.Proofs.YtbcemjhaecelnaaGreatDoor.Drd
open Go.RowKit Go.Lib Par Sto
structure BinS (w wx : World) (bd nn : Nat) (l : List Tq) (b : Bool) (nb xb : Nat) (x : Ex) (la lb : ByteArray) (lz lm : Int) (lo1 : Option Addr) (lk1 lc1 : Nat) (lo2 : Option Addr) (lk2 lc2 : Nat) (lo3 : Option Addr) (lk3 lc3 : Nat) (op : ByteArray) (mv nv kv : Value) : Prop where
 nod : NodS w wx bd nn l b nb (.string la) (.string lb) (.int .i64 lz) (.int .i64 lm) (.slice lo1 lk1 lc1) (.slice lo2 lk2 lc2) (.slice lo3 lk3 lc3)
 box : Box7 wx xb (.string ⟨#[98, 105, 110]⟩) (.string op) (.int .i64 0) mv nv (.slice none 0 0) kv
 far : nb < xb
 left : Nod wx (fun b => w.heap.size < b /\ b ≠ nb /\ b < xb) [.string la, .string lb, .int .i64 lz, .int .i64 lm, .slice lo1 lk1 lc1, .slice lo2 lk2 lc2, .slice lo3 lk3 lc3] x
section
variable {w wx w' : World} {bd nn nn' : Nat} {l l' : List Tq} {b b' : Bool} {nb xb : Nat} {x : Ex} {la lb : ByteArray} {lz lm : Int} {lo1 : Option Addr} {lk1 lc1 : Nat} {lo2 : Option Addr} {lk2 lc2 : Nat} {lo3 : Option Addr} {lk3 lc3 : Nat} {op : ByteArray} {mv nv kv : Value}
theorem BinS.lt (h : BinS w wx bd nn l b nb xb x la lb lz lm lo1 lk1 lc1 lo2 lk2 lc2 lo3 lk3 lc3 op mv nv kv) : xb < wx.heap.size := (Array.getElem?_eq_some_iff.1 h.box).1
theorem BinS.call (h : BinS w wx bd nn l b nb xb x la lb lz lm lo1 lk1 lc1 lo2 lk2 lc2 lo3 lk3 lc3 op mv nv kv) (hr : Rdd w' bd l' nn' b') (hg : wx.grownBy w' (some bd)) : BinS w w' bd nn' l' b' nb xb x la lb lz lm lo1 lk1 lc1 lo2 lk2 lc2 lo3 lk3 lc3 op mv nv kv :=
 have hf := h.nod.pre.far
 have hl := h.nod.low
 have hx := h.far
 ⟨h.nod.call hr hg, zaa h.box hg (by omega), hx, h.left.keep fun _k hk hl => ⟨hg.block _ hl (by simp; omega), hk⟩⟩
theorem BinS.set3 (h : BinS w wx bd nn l b nb xb x la lb lz lm lo1 lk1 lc1 lo2 lk2 lc2 lo3 lk3 lc3 op mv nv kv) (v : Value) : BinS w (wx.setCell ⟨xb, 3, none⟩ v) bd nn l b nb xb x la lb lz lm lo1 lk1 lc1 lo2 lk2 lc2 lo3 lk3 lc3 op v nv kv :=
 have hl := h.nod.low
 have hx := h.far
 ⟨⟨h.nod.pre.setNew (by omega) 3 v, (Below.heap_setCell _ _ _ _ (by show nb ≠ xb; omega)).trans h.nod.box, hl⟩, heap_setCell_same wx xb 3 #[_, _, _, _, _, _, _] 27 v h.box, hx, h.left.keep fun k hk _ => ⟨Below.heap_setCell _ _ _ _ (by show k ≠ xb; omega), hk⟩⟩
theorem BinS.set4 (h : BinS w wx bd nn l b nb xb x la lb lz lm lo1 lk1 lc1 lo2 lk2 lc2 lo3 lk3 lc3 op mv nv kv) (v : Value) : BinS w (wx.setCell ⟨xb, 4, none⟩ v) bd nn l b nb xb x la lb lz lm lo1 lk1 lc1 lo2 lk2 lc2 lo3 lk3 lc3 op mv v kv :=
 have hl := h.nod.low
 have hx := h.far
 ⟨⟨h.nod.pre.setNew (by omega) 4 v, (Below.heap_setCell _ _ _ _ (by show nb ≠ xb; omega)).trans h.nod.box, hl⟩, heap_setCell_same wx xb 4 #[_, _, _, _, _, _, _] 27 v h.box, hx, h.left.keep fun k hk _ => ⟨Below.heap_setCell _ _ _ _ (by show k ≠ xb; omega), hk⟩⟩
theorem BinS.set6 (h : BinS w wx bd nn l b nb xb x la lb lz lm lo1 lk1 lc1 lo2 lk2 lc2 lo3 lk3 lc3 op mv nv kv) (v : Value) : BinS w (wx.setCell ⟨xb, 6, none⟩ v) bd nn l b nb xb x la lb lz lm lo1 lk1 lc1 lo2 lk2 lc2 lo3 lk3 lc3 op mv nv v :=
 have hl := h.nod.low
 have hx := h.far
 ⟨⟨h.nod.pre.setNew (by omega) 6 v, (Below.heap_setCell _ _ _ _ (by show nb ≠ xb; omega)).trans h.nod.box, hl⟩, heap_setCell_same wx xb 6 #[_, _, _, _, _, _, _] 27 v h.box, hx, h.left.keep fun k hk _ => ⟨Below.heap_setCell _ _ _ _ (by show k ≠ xb; omega), hk⟩⟩
theorem BinS.alloc (h : BinS w wx bd nn l b nb xb x la lb lz lm lo1 lk1 lc1 lo2 lk2 lc2 lo3 lk3 lc3 op mv nv kv) (o : Obj) : BinS w (wx.alloc o) bd nn l b nb xb x la lb lz lm lo1 lk1 lc1 lo2 lk2 lc2 lo3 lk3 lc3 op mv nv kv :=
 h.call (h.nod.pre.rd.alloc o) (grown_alloc (grown_refl _ _) o)
theorem BinS.drew (h : BinS w wx bd nn l b nb xb x la lb lz lm lo1 lk1 lc1 lo2 lk2 lc2 lo3 lk3 lc3 op mv nv kv) : BinS w wx.drew bd nn l b nb xb x la lb lz lm lo1 lk1 lc1 lo2 lk2 lc2 lo3 lk3 lc3 op mv nv kv :=
 h.call (h.nod.pre.rd.below (Below.refl _ _).drew) ⟨rfl, rfl, rfl, Nat.le_refl _, fun _ _ _ => rfl⟩
theorem BinS.toks {t : List Tq} {v : Value} (h : BinS w wx bd nn l b nb xb x la lb lz lm lo1 lk1 lc1 lo2 lk2 lc2 lo3 lk3 lc3 op mv nv kv) (hr : Rdd (wx.setCell ⟨bd, 0, none⟩ v) bd t nn b) : BinS w (wx.setCell ⟨bd, 0, none⟩ v) bd nn t b nb xb x la lb lz lm lo1 lk1 lc1 lo2 lk2 lc2 lo3 lk3 lc3 op mv nv kv :=
 h.call hr (grown_set _ _ _ _)
theorem BinS.new (h : NodS w wx bd nn l b nb (.string la) (.string lb) (.int .i64 lz) (.int .i64 lm) (.slice lo1 lk1 lc1) (.slice lo2 lk2 lc2) (.slice lo3 lk3 lc3)) (hl : Nod wx (fun b => w.heap.size < b /\ b ≠ nb) [.string la, .string lb, .int .i64 lz, .int .i64 lm, .slice lo1 lk1 lc1, .slice lo2 lk2 lc2, .slice lo3 lk3 lc3] x) (op : ByteArray) :
 BinS w (wx.alloc (Obj.cells #[.string ⟨#[98, 105, 110]⟩, .string op, .int .i64 0, .int .i64 0, .slice none 0 0, .slice none 0 0, .slice none 0 0] 27)) bd nn l b nb wx.heap.size x la lb lz lm lo1 lk1 lc1 lo2 lk2 lc2 lo3 lk3 lc3 op (.int .i64 0) (.slice none 0 0) (.slice none 0 0) :=
 ⟨h.alloc _, zal wx _ _ _ _ _ _ _, h.lt, hl.keep fun _k hk hkl => ⟨Below.heap_alloc _ _ _ hkl, hk.1, hk.2, hkl⟩⟩
end
theorem zfu {t : Nat} (ht1 : 1 <= t) (ht4 : t <= 4) {q : Int} (hq : q = (t : Int) - 1) (bd : Nat) (l : List Tq) (nn : Nat) (w : World) (h : Rdd w bd l nn true) :
 Calls Tryz.prog 22 #[.pointer (some ⟨bd, 0, none⟩), .int .i64 q] w (DEnd w bd nn l true none) := by
 have key : ∀ k : Nat, k = t -> Calls Tryz.prog 22 #[.pointer (some ⟨bd, 0, none⟩), .int .i64 q] w (zgy w bd nn l) := fun k hk => by
  match k, hk with
  | 0, hk => omega
  | 1, hk =>
    obtain rfl : q = 0 := by omega
    exact zdj bd l nn w h
  | 2, hk =>
    obtain rfl : q = 1 := by omega
    exact zeF bd l nn w h
  | 3, hk =>
    obtain rfl : q = 2 := by omega
    exact zeE bd l nn w h
  | 4, hk =>
    obtain rfl : q = 3 := by omega
    exact zeD bd l nn w h
  | _ + 5, hk => omega
 exact (key t rfl).mono fun e w' hz => zeG hz
theorem bin_step {N t : Nat} {x : Ex} {s : Tq} {l2 lm : List Tq} {T : Option (Ex × List Tq)} {b2 : Bool} {mm : Nat} {R1 : Option ((Nat × List ByteArray) × List Tq)} {RC : Option (Ex × List Tq)} (hlv : levelT (s :: l2) = t) (hT : zbi (N + 2) t x (s :: l2) = T) (hR1 : zbu wOn wIgn l2 = R1)
 (hno : R1 = none -> b2 = true) (hyes : ∀ m ns y, R1 = some ((m, ns), y) -> b2 = false /\ m = mm /\ y = lm) (hRC : orB b2 (chainGo N (t + 1) lm) = RC) :
 (RC = none -> T = none) /\ ∀ y k, RC = some (y, k) -> ∃ ns, R1 = some ((mm, ns), lm) /\ b2 = false /\ zbi (N + 1) t (.bin (bz s.2) mm ns x y) k = T /\ chainGo N (t + 1) lm = some (y, k) := by
 rw [zbi, if_pos hlv, zbP, hR1] at hT
 cases hr : R1 with
 | none =>
   rw [hr] at hT
   have hb := hno hr
   subst hb
   rw [orB_true] at hRC
   refine ⟨fun _ => hT.symm, fun y k h => ?_⟩
   rw [<- hRC] at h; cases h
 | some p =>
   obtain ⟨⟨m, ns⟩, y0⟩ := p
   obtain ⟨rfl, rfl, rfl⟩ := hyes _ _ _ hr
   rw [hr] at hT
   rw [zcG] at hRC
   dsimp only at hT
   rw [hRC] at hT
   refine ⟨fun h => ?_, fun y k h => ?_⟩
   ·rw [h] at hT; exact hT.symm
   ·rw [h] at hT
    exact ⟨ns, rfl, rfl, hT, hRC.trans h⟩
theorem bin_kids {w w3 : World} {bd nn : Nat} {l : List Tq} {b : Bool} {nb xb : Nat} {x : Ex} {la lb : ByteArray} {lz lm : Int} {lo1 : Option Addr} {lk1 lc1 : Nat} {lo2 : Option Addr} {lk2 lc2 : Nat} {lo3 : Option Addr} {lk3 lc3 : Nat} {op : ByteArray} {mv nv kv : Value} {ra rb : ByteArray} {rz rm : Int} {p1 : Option Addr} {j1 d1 : Nat} {p2 : Option Addr} {j2 d2 : Nat} {p3 : Option Addr} {j3 d3 : Nat} {y : Ex} {Q : Nat -> Prop}
 (h : BinS w w3 bd nn l b nb xb x la lb lz lm lo1 lk1 lc1 lo2 lk2 lc2 lo3 lk3 lc3 op mv nv kv) (hr : Nod w3 Q [.string ra, .string rb, .int .i64 rz, .int .i64 rm, .slice p1 j1 d1, .slice p2 j2 d2, .slice p3 j3 d3] y) (hQ : ∀ k, Q k -> xb < k) (v : Value) :
 za2 ((w3.setCell ⟨xb, 6, none⟩ v).alloc (Obj.cells #[.string la, .string lb, .int .i64 lz, .int .i64 lm, .slice lo1 lk1 lc1, .slice lo2 lk2 lc2, .slice lo3 lk3 lc3, .string ra, .string rb, .int .i64 rz, .int .i64 rm, .slice p1 j1 d1, .slice p2 j2 d2, .slice p3 j3 d3] 27)) (fun b => w.heap.size < b /\ b ≠ nb) (some ⟨w3.heap.size, 0, none⟩) 7 [[.string la, .string lb, .int .i64 lz, .int .i64 lm, .slice lo1 lk1 lc1, .slice lo2 lk2 lc2, .slice lo3 lk3 lc3], [.string ra, .string rb, .int .i64 rz, .int .i64 rm, .slice p1 j1 d1, .slice p2 j2 d2, .slice p3 j3 d3]] /\
  Nod ((w3.setCell ⟨xb, 6, none⟩ v).alloc (Obj.cells #[.string la, .string lb, .int .i64 lz, .int .i64 lm, .slice lo1 lk1 lc1, .slice lo2 lk2 lc2, .slice lo3 lk3 lc3, .string ra, .string rb, .int .i64 rz, .int .i64 rm, .slice p1 j1 d1, .slice p2 j2 d2, .slice p3 j3 d3] 27)) (fun b => w.heap.size < b /\ b ≠ nb) [.string la, .string lb, .int .i64 lz, .int .i64 lm, .slice lo1 lk1 lc1, .slice lo2 lk2 lc2, .slice lo3 lk3 lc3] x /\ Nod ((w3.setCell ⟨xb, 6, none⟩ v).alloc (Obj.cells #[.string la, .string lb, .int .i64 lz, .int .i64 lm, .slice lo1 lk1 lc1, .slice lo2 lk2 lc2, .slice lo3 lk3 lc3, .string ra, .string rb, .int .i64 rz, .int .i64 rm, .slice p1 j1 d1, .slice p2 j2 d2, .slice p3 j3 d3] 27)) (fun b => w.heap.size < b /\ b ≠ nb) [.string ra, .string rb, .int .i64 rz, .int .i64 rm, .slice p1 j1 d1, .slice p2 j2 d2, .slice p3 j3 d3] y := by
 have hlow := h.nod.low
 have hfar := h.far
 have hlt := h.lt
 have v1 : Nod (w3.setCell ⟨xb, 6, none⟩ v) (fun b => w.heap.size < b /\ b ≠ nb) [.string la, .string lb, .int .i64 lz, .int .i64 lm, .slice lo1 lk1 lc1, .slice lo2 lk2 lc2, .slice lo3 lk3 lc3] x := h.left.keep fun k hk _ => ⟨Below.heap_setCell _ _ _ _ (Nat.ne_of_lt hk.2.2), hk.1, hk.2.1⟩
 have v2 : Nod (w3.setCell ⟨xb, 6, none⟩ v) (fun b => w.heap.size < b /\ b ≠ nb) [.string ra, .string rb, .int .i64 rz, .int .i64 rm, .slice p1 j1 d1, .slice p2 j2 d2, .slice p3 j3 d3] y := hr.keep fun k hk _ => by
  have hk2 := hQ k hk
  exact ⟨Below.heap_setCell _ _ _ _ (Nat.ne_of_gt hk2), by omega, by omega⟩
 have := kid_2 v1 (fun _ hk => hk) v2 (fun _ hk => hk) (by rw [World.size_setCell]; omega) (by rw [World.size_setCell]; omega)
 rw [World.size_setCell] at this
 exact this
end Go.Proofs.YtbcemjhaecelnaaGreatDoor.Drd
end
