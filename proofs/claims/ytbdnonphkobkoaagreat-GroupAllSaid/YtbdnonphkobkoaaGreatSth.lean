/- slices' stable sort at elements of two cells: what a walk wants of places of the row. -/
import Derived.Test.YtbdnonphkobkoaaGreatSta1
import Derived.Test.YtbdnonphkobkoaaGreatGa
import Derived.Deep.RegionHeld3
import Derived.Shelf.SlSortCmp.KitK
namespace Go.Proofs.YtbdnonphkobkoaaGreat.Stb
open Go.RowKit Go.Lib Go.Sort Go.Shelf

section
variable {α : Type} [Inhabited α] {enc : α → List Value} {w0 : World} {blk off : Nat} {d0 : Array α}

/-- What a walk wants of two places of a row of elements of two cells, to exchange them. -/
structure Swap2 (enc : α → List Value) (w0 : World) (blk off : Nat) (l2 : List α) (i j : Nat) (x0 x1 y0 y1 : Value) (W : World) : Prop where
  on : SWK enc 2 w0 blk off l2.toArray ((((W.drew.setCell ⟨blk, off + i * 2, none⟩ y0).setCell ⟨blk, off + i * 2 + 1, none⟩ y1).setCell ⟨blk, off + j * 2, none⟩ x0).setCell ⟨blk, off + j * 2 + 1, none⟩ x1)
  a0 : W.drew.cell? ⟨blk, off + i * 2, none⟩ = some x0
  a1 : W.drew.cell? ⟨blk, off + i * 2 + 1, none⟩ = some x1
  b0 : W.drew.cell? ⟨blk, off + j * 2, none⟩ = some y0
  b1 : W.drew.cell? ⟨blk, off + j * 2 + 1, none⟩ = some y1
  f0 : W.drew.frozen? ⟨blk, off + i * 2, none⟩ = false
  s1 : (∃ v, (W.drew.setCell ⟨blk, off + i * 2, none⟩ y0).cell? ⟨blk, off + i * 2 + 1, none⟩ = some v) ∧ (W.drew.setCell ⟨blk, off + i * 2, none⟩ y0).frozen? ⟨blk, off + i * 2 + 1, none⟩ = false
  s2 : (∃ v, ((W.drew.setCell ⟨blk, off + i * 2, none⟩ y0).setCell ⟨blk, off + i * 2 + 1, none⟩ y1).cell? ⟨blk, off + j * 2, none⟩ = some v) ∧ ((W.drew.setCell ⟨blk, off + i * 2, none⟩ y0).setCell ⟨blk, off + i * 2 + 1, none⟩ y1).frozen? ⟨blk, off + j * 2, none⟩ = false
  s3 : (∃ v, (((W.drew.setCell ⟨blk, off + i * 2, none⟩ y0).setCell ⟨blk, off + i * 2 + 1, none⟩ y1).setCell ⟨blk, off + j * 2, none⟩ x0).cell? ⟨blk, off + j * 2 + 1, none⟩ = some v) ∧ (((W.drew.setCell ⟨blk, off + i * 2, none⟩ y0).setCell ⟨blk, off + i * 2 + 1, none⟩ y1).setCell ⟨blk, off + j * 2, none⟩ x0).frozen? ⟨blk, off + j * 2 + 1, none⟩ = false

theorem holds_one {W : World} {F : Array Value} (h : Holds id W blk off F) (t : Nat) (v : Value) (ht : t < F.size) : Holds id (W.setCell ⟨blk, off + t, none⟩ v) blk off (setMany F t [v]) :=
  holds_setCells_c h t [v] (show t + 1 ≤ F.size from ht)

theorem two_of {α : Type} {enc : α → List Value} (h : ∀ x, (enc x).length = 2) (x : α) : ∃ p q, enc x = [p, q] := by
  have := h x
  match e : enc x, this with
  | [p, q], _ => exact ⟨p, q, rfl⟩

theorem cells2 (R : RowK enc 2 w0 blk off d0) {l : List α} {W : World} (h : SWK enc 2 w0 blk off l.toArray W) (hd : l.length = d0.size) {i : Nat} {x : α} {x0 x1 : Value} (hx : l.toArray[i]! = x) (hi : i < l.length) (e : enc x = [x0, x1]) :
    W.cell? ⟨blk, off + i * 2, none⟩ = some x0 ∧ W.cell? ⟨blk, off + i * 2 + 1, none⟩ = some x1 := by
  have hH := h.holds R.hblk R.hH (show l.toArray.size = d0.size by simpa using hd)
  have hc := HoldsK.cells hH R.hk (i := i) (by simpa using hi)
  rw [hx, e] at hc
  have h1 := hc 0 x0 rfl
  have h2 := hc 1 x1 rfl
  rw [Addr.add_lit] at h1 h2
  exact ⟨h1, h2⟩

theorem swap2 (R : RowK enc 2 w0 blk off d0) {l l2 : List α} {W : World} (h : SWK enc 2 w0 blk off l.toArray W) (hd : l.length = d0.size) {i j : Nat} {x y : α} (hx : l.toArray[i]! = x) (hy : l.toArray[j]! = y) (hi : i < l.length) (hj : j < l.length) (h2 : swp l.toArray i j = l2.toArray) {x0 x1 y0 y1 : Value} (ex : enc x = [x0, x1]) (ey : enc y = [y0, y1]) :
    Swap2 enc w0 blk off l2 i j x0 x1 y0 y1 W := by
  have hi' : i < l.toArray.size := by simpa using hi
  have hj' : j < l.toArray.size := by simpa using hj
  have hs : l.toArray.size = d0.size := by simpa using hd
  have e1 := h.swapped R i j hi' hj'
  rw [hx, hy, h2, ex, ey] at e1
  have c1 := cells2 R h.drew hd hx hi ex
  have c2 := cells2 R h.drew hd hy hj ey
  have hH : Holds id W.drew blk off (flatK enc 2 l.toArray) := h.drew.holds R.hblk R.hH hs
  have hz : (flatK enc 2 l.toArray).size = l.length * 2 := by rw [size_flatK]; simp
  have k1 := holds_one hH (i * 2) y0 (by omega)
  have k2 := holds_one k1 (i * 2 + 1) y1 (by rw [size_setMany]; omega)
  have k3 := holds_one k2 (j * 2) x0 (by rw [size_setMany, size_setMany]; omega)
  have g0 := hH (i * 2) (by omega)
  have g1 := k1 (i * 2 + 1) (by rw [size_setMany]; omega)
  have g2 := k2 (j * 2) (by rw [size_setMany, size_setMany]; omega)
  have g3 := k3 (j * 2 + 1) (by rw [size_setMany, size_setMany, size_setMany]; omega)
  refine ⟨e1, c1.1, c1.2, c2.1, c2.2, g0.2, ⟨⟨_, g1.1⟩, g1.2⟩, ⟨⟨_, g2.1⟩, g2.2⟩, ⟨⟨_, g3.1⟩, g3.2⟩⟩

/-- What a walk wants of two places of the row, to compare them. -/
structure Cmp2 (g : Nat) (blk off i j : Nat) (r : Int) (x0 x1 y0 y1 : Value) (W : World) : Prop where
  a0 : ∀ n os, (grow (W.drewN n) os).cell? ⟨blk, off + i * 2, none⟩ = some x0
  a1 : ∀ n os, (grow (W.drewN n) os).cell? ⟨blk, off + i * 2 + 1, none⟩ = some x1
  b0 : ∀ n os, (grow (W.drewN n) os).cell? ⟨blk, off + j * 2, none⟩ = some y0
  b1 : ∀ n os, (grow (W.drewN n) os).cell? ⟨blk, off + j * 2 + 1, none⟩ = some y1
  call : ∀ n os, Calls Tryz.prog g #[.agg #[x0, x1], .agg #[y0, y1]] (grow (W.drewN n) os) fun e w' => e = .returned (.int .i64 r) ∧ ∃ q os', w' = grow ((grow (W.drewN n) os).drewN q) os'

theorem cmp2 (R : RowK enc 2 w0 blk off d0) {g : Nat} {cf : α → α → Int} {N : Nat} (hC : CmpLays Tryz.prog g #[] enc 2 cf blk off N w0) {l : List α} {W : World} (h : SWK enc 2 w0 blk off l.toArray W) (hd : l.length = d0.size) (hN : l.length = N) {i j : Nat} {x y : α} (hx : l.toArray[i]! = x) (hy : l.toArray[j]! = y) (hi : i < l.length) (hj : j < l.length) {x0 x1 y0 y1 : Value} (ex : enc x = [x0, x1]) (ey : enc y = [y0, y1]) :
    Cmp2 g blk off i j (cf x y) x0 x1 y0 y1 W := by
  refine ⟨fun n os => (cells2 R (h.grown n os) hd hx hi ex).1, fun n os => (cells2 R (h.grown n os) hd hx hi ex).2, fun n os => (cells2 R (h.grown n os) hd hy hj ey).1, fun n os => (cells2 R (h.grown n os) hd hy hj ey).2, fun n os => ?_⟩
  have := h.cmp hC (by simpa using hN) x y n os
  rw [ex, ey] at this
  exact this
end
end Go.Proofs.YtbdnonphkobkoaaGreat.Stb
