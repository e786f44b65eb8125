/- Walks (kind): the kind of every part. -/
import Derived.Test.YtddglepimbfdkaaGreatDoorYc
import Derived.Deep.RegionHeld3
namespace Go.Proofs.YtddglepimbfdkaaGreatDoor.Knd
open Go.RowKit Go.Lib
open Go.Proofs.YtddglepimbfdkaaGreatDoor.Par

/-- What a part's kind is found to be. -/
def OfC (x : Ex) : Prop := ∀ (P : Nat → Prop) (w : World) (a b : ByteArray) (z m : Int) (o1 : Option Addr) (k1 c1 : Nat) (o2 : Option Addr) (k2 c2 : Nat) (o3 : Option Addr) (k3 c3 : Nat), Nod w P [.string a, .string b, .int .i64 z, .int .i64 m, .slice o1 k1 c1, .slice o2 k2 c2, .slice o3 k3 c3] x →
  Calls Tryz.prog 56 #[.agg #[.string a, .string b, .int .i64 z, .int .i64 m, .slice o1 k1 c1, .slice o2 k2 c2, .slice o3 k3 c3]] w fun e w' => e = .returned (kv (kindE x)) ∧ Below w.heap.size w w'
/-- A part's kids in memory: the first one's cells. -/
theorem kid_at {w : World} {P : Nat → Prop} {o : Option Addr} {css : List (List Value)} {l : List Ex} (h : SeesR w P o 7 css) (hc : css.length = l.length) (hk : ∀ (j : Nat) cs y, css[j]? = some cs → l[j]? = some y → Nod w P cs y) {j : Nat} {y : Ex} (hj : l[j]? = some y) :
    ∃ blk off, o = some ⟨blk, off, none⟩ ∧ blk < w.heap.size ∧ ∃ (a b : ByteArray) (z m : Int) (o1 : Option Addr) (k1 c1 : Nat) (o2 : Option Addr) (k2 c2 : Nat) (o3 : Option Addr) (k3 c3 : Nat), Nod w P [.string a, .string b, .int .i64 z, .int .i64 m, .slice o1 k1 c1, .slice o2 k2 c2, .slice o3 k3 c3] y ∧ (w.cell? ⟨blk, off + j * 7 + 0, none⟩ = some (.string a) ∧ w.cell? ⟨blk, off + j * 7 + 1, none⟩ = some (.string b) ∧ w.cell? ⟨blk, off + j * 7 + 2, none⟩ = some (.int .i64 z) ∧ w.cell? ⟨blk, off + j * 7 + 3, none⟩ = some (.int .i64 m) ∧ w.cell? ⟨blk, off + j * 7 + 4, none⟩ = some (.slice o1 k1 c1) ∧ w.cell? ⟨blk, off + j * 7 + 5, none⟩ = some (.slice o2 k2 c2) ∧ w.cell? ⟨blk, off + j * 7 + 6, none⟩ = some (.slice o3 k3 c3)) := by
  obtain ⟨cs, hcs⟩ : ∃ cs, css[j]? = some cs := ⟨_, List.getElem?_eq_getElem (by have := (List.getElem?_eq_some_iff.1 hj).1; omega)⟩
  obtain ⟨blk, off, rfl, hl, hcell⟩ := h.at hcs
  have hn := hk j cs y hcs hj
  obtain ⟨a, b, z, m, o1, k1, c1, o2, k2, c2, o3, k3, c3, rfl⟩ := hn.raw
  exact ⟨blk, off, rfl, hl, a, b, z, m, o1, k1, c1, o2, k2, c2, o3, k3, c3, hn, hcell 0 _ rfl, hcell 1 _ rfl, hcell 2 _ rfl, hcell 3 _ rfl, hcell 4 _ rfl, hcell 5 _ rfl, hcell 6 _ rfl⟩

set_option maxHeartbeats 2000000 in
set_option maxRecDepth 100000 in
theorem of_leaf (a b : ByteArray) (z m : Int) (o1 : Option Addr) (k1 c1 : Nat) (o2 : Option Addr) (k2 c2 : Nat) (o3 : Option Addr) (k3 c3 : Nat) (v : Value) (h0 : k3 = 0) (HC : ∀ W, Calls Tryz.prog 120 #[.agg #[.string a, .string b, .int .i64 z, .int .i64 m, .slice o1 k1 c1, .slice o2 k2 c2, .slice o3 k3 c3]] W fun e w' => e = .returned v ∧ Below W.heap.size W w') (w : World) :
    Calls Tryz.prog 56 #[.agg #[.string a, .string b, .int .i64 z, .int .i64 m, .slice o1 k1 c1, .slice o2 k2 c2, .slice o3 k3 c3]] w fun e w' => e = .returned v ∧ Below w.heap.size w w' := by
  subst h0
  have HB := Lib.hid (box_below w (NBox a b z m o1 k1 c1 o2 k2 c2 o3 0 c3))
  have HCC := Lib.hid HC
  clear HC
  go_enter Tryz.func56, Tryz.ntmps56
  go_wp2_with fail
  refine (HCC.out _).mono ?_
  rintro e w1 ⟨rfl, b1⟩
  have B1 := Lib.hid (HB.out.trans (b1.mono HB.out.size))
  clear b1
  go_wp2
  go_ret
  exact ⟨rfl, B1.out⟩

set_option maxHeartbeats 8000000 in
set_option maxRecDepth 100000 in
theorem of_one (a b : ByteArray) (z m : Int) (o1 : Option Addr) (k1 c1 : Nat) (o2 : Option Addr) (k2 c2 : Nat) (c3 : Nat) (w : World) (a' b' : ByteArray) (z' m' : Int) (o1' : Option Addr) (k1' c1' : Nat) (o2' : Option Addr) (k2' c2' : Nat) (o3' : Option Addr) (k3' c3' : Nat) (blk off : Nat) (hl : blk < w.heap.size) (d0 : w.cell? ⟨blk, off, none⟩ = some (.string a')) (d1 : w.cell? ⟨blk, off + 1, none⟩ = some (.string b')) (d2 : w.cell? ⟨blk, off + 2, none⟩ = some (.int .i64 z')) (d3 : w.cell? ⟨blk, off + 3, none⟩ = some (.int .i64 m')) (d4 : w.cell? ⟨blk, off + 4, none⟩ = some (.slice o1' k1' c1')) (d5 : w.cell? ⟨blk, off + 5, none⟩ = some (.slice o2' k2' c2')) (d6 : w.cell? ⟨blk, off + 6, none⟩ = some (.slice o3' k3' c3')) (u r : Value)
    (HC1 : ∀ W, Below w.heap.size w W → Calls Tryz.prog 56 #[.agg #[.string a', .string b', .int .i64 z', .int .i64 m', .slice o1' k1' c1', .slice o2' k2' c2', .slice o3' k3' c3']] W fun e w' => e = .returned u ∧ Below W.heap.size W w')
    (HC : ∀ W, Calls Tryz.prog 121 #[.agg #[.string a, .string b, .int .i64 z, .int .i64 m, .slice o1 k1 c1, .slice o2 k2 c2, .slice (some ⟨blk, off, none⟩) 1 c3], u] W fun e w' => e = .returned r ∧ Below W.heap.size W w') :
    Calls Tryz.prog 56 #[.agg #[.string a, .string b, .int .i64 z, .int .i64 m, .slice o1 k1 c1, .slice o2 k2 c2, .slice (some ⟨blk, off, none⟩) 1 c3]] w fun e w' => e = .returned r ∧ Below w.heap.size w w' := by
  obtain ⟨W0, hW0⟩ : ∃ W0, w.alloc (NBox a b z m o1 k1 c1 o2 k2 c2 (some ⟨blk, off, none⟩) 1 c3) = W0 := ⟨_, rfl⟩
  have HB := Lib.hid (show Below w.heap.size w W0 by rw [← hW0]; exact box_below w _)
  have HSZ := Lib.hid (show W0.heap.size = w.heap.size + 1 by rw [← hW0]; simp)
  have HKS := Lib.hid (fun W (hb : Below W0.heap.size W0 W) => (show W.cell? ⟨w.heap.size, 0, none⟩ = some (.string a) ∧ W.cell? ⟨w.heap.size, 1, none⟩ = some (.string b) ∧ W.cell? ⟨w.heap.size, 2, none⟩ = some (.int .i64 z) ∧ W.cell? ⟨w.heap.size, 3, none⟩ = some (.int .i64 m) ∧ W.cell? ⟨w.heap.size, 4, none⟩ = some (.slice o1 k1 c1) ∧ W.cell? ⟨w.heap.size, 5, none⟩ = some (.slice o2 k2 c2) ∧ W.cell? ⟨w.heap.size, 6, none⟩ = some (.slice (some ⟨blk, off, none⟩) 1 c3) ∧ W.cell? ⟨blk, off, none⟩ = some (.string a') ∧ W.cell? ⟨blk, off + 1, none⟩ = some (.string b') ∧ W.cell? ⟨blk, off + 2, none⟩ = some (.int .i64 z') ∧ W.cell? ⟨blk, off + 3, none⟩ = some (.int .i64 m') ∧ W.cell? ⟨blk, off + 4, none⟩ = some (.slice o1' k1' c1') ∧ W.cell? ⟨blk, off + 5, none⟩ = some (.slice o2' k2' c2') ∧ W.cell? ⟨blk, off + 6, none⟩ = some (.slice o3' k3' c3') from by
    obtain ⟨p0, p1, p2, p3, p4, p5, p6⟩ := nbox_reads w W a b z m o1 k1 c1 o2 k2 c2 (some ⟨blk, off, none⟩) 1 c3 (by rw [hW0]; exact hb.mono (by rw [HSZ.out]; exact Nat.le_refl _))
    have hlow := (HB.out.trans (hb.mono HB.out.size))
    exact ⟨p0, p1, p2, p3, p4, p5, p6, (hlow.cell (p := ⟨blk, off, none⟩) hl).trans d0, (hlow.cell (p := ⟨blk, off + 1, none⟩) hl).trans d1, (hlow.cell (p := ⟨blk, off + 2, none⟩) hl).trans d2, (hlow.cell (p := ⟨blk, off + 3, none⟩) hl).trans d3, (hlow.cell (p := ⟨blk, off + 4, none⟩) hl).trans d4, (hlow.cell (p := ⟨blk, off + 5, none⟩) hl).trans d5, (hlow.cell (p := ⟨blk, off + 6, none⟩) hl).trans d6⟩))
  have CA := Lib.hid (fun (W : World) (hb : Hid (Below W0.heap.size W0 W)) => (HC1 W (HB.out.trans (hb.out.mono HB.out.size))).mono (R' := fun e w' => e = .returned u ∧ (w'.cell? ⟨w.heap.size, 0, none⟩ = some (.string a) ∧ w'.cell? ⟨w.heap.size, 1, none⟩ = some (.string b) ∧ w'.cell? ⟨w.heap.size, 2, none⟩ = some (.int .i64 z) ∧ w'.cell? ⟨w.heap.size, 3, none⟩ = some (.int .i64 m) ∧ w'.cell? ⟨w.heap.size, 4, none⟩ = some (.slice o1 k1 c1) ∧ w'.cell? ⟨w.heap.size, 5, none⟩ = some (.slice o2 k2 c2) ∧ w'.cell? ⟨w.heap.size, 6, none⟩ = some (.slice (some ⟨blk, off, none⟩) 1 c3) ∧ w'.cell? ⟨blk, off, none⟩ = some (.string a') ∧ w'.cell? ⟨blk, off + 1, none⟩ = some (.string b') ∧ w'.cell? ⟨blk, off + 2, none⟩ = some (.int .i64 z') ∧ w'.cell? ⟨blk, off + 3, none⟩ = some (.int .i64 m') ∧ w'.cell? ⟨blk, off + 4, none⟩ = some (.slice o1' k1' c1') ∧ w'.cell? ⟨blk, off + 5, none⟩ = some (.slice o2' k2' c2') ∧ w'.cell? ⟨blk, off + 6, none⟩ = some (.slice o3' k3' c3')) ∧ Hid (Below W0.heap.size W0 w')) (fun e w' q => have hq := hb.out.trans (q.2.mono hb.out.size); ⟨q.1, HKS.out w' hq, hq⟩))
  have CO := Lib.hid (fun (W : World) (hb : Hid (Below W0.heap.size W0 W)) => (HC W).mono (R' := fun e w' => e = .returned r ∧ (w'.cell? ⟨w.heap.size, 0, none⟩ = some (.string a) ∧ w'.cell? ⟨w.heap.size, 1, none⟩ = some (.string b) ∧ w'.cell? ⟨w.heap.size, 2, none⟩ = some (.int .i64 z) ∧ w'.cell? ⟨w.heap.size, 3, none⟩ = some (.int .i64 m) ∧ w'.cell? ⟨w.heap.size, 4, none⟩ = some (.slice o1 k1 c1) ∧ w'.cell? ⟨w.heap.size, 5, none⟩ = some (.slice o2 k2 c2) ∧ w'.cell? ⟨w.heap.size, 6, none⟩ = some (.slice (some ⟨blk, off, none⟩) 1 c3) ∧ w'.cell? ⟨blk, off, none⟩ = some (.string a') ∧ w'.cell? ⟨blk, off + 1, none⟩ = some (.string b') ∧ w'.cell? ⟨blk, off + 2, none⟩ = some (.int .i64 z') ∧ w'.cell? ⟨blk, off + 3, none⟩ = some (.int .i64 m') ∧ w'.cell? ⟨blk, off + 4, none⟩ = some (.slice o1' k1' c1') ∧ w'.cell? ⟨blk, off + 5, none⟩ = some (.slice o2' k2' c2') ∧ w'.cell? ⟨blk, off + 6, none⟩ = some (.slice o3' k3' c3')) ∧ Hid (Below W0.heap.size W0 w')) (fun e w' q => have hq := hb.out.trans (q.2.mono hb.out.size); ⟨q.1, HKS.out w' hq, hq⟩))
  obtain ⟨r0, r1, r2, r3, r4, r5, r6, r7, r8, r9, r10, r11, r12, r13⟩ := HKS.out W0 (Below.refl _ _)
  have rb := Lib.hid (show Below W0.heap.size W0 W0.drew from (Below.refl _ _).drew)
  have HW0 := Lib.hid hW0
  clear hW0 HC HC1 d0 d1 d2 d3 d4 d5 d6
  go_enter Tryz.func56, Tryz.ntmps56
  go_wp2_with fail
  rw [show w.alloc (Obj.cells #[.string a, .string b, .int .i64 z, .int .i64 m, .slice o1 k1 c1, .slice o2 k2 c2, .slice (some ⟨blk, off, none⟩) 1 c3] 27) = W0 from HW0.out]
  go_region_held3 (fun w' => w'.cell? ⟨w.heap.size, 0, none⟩ = some (.string a) ∧ w'.cell? ⟨w.heap.size, 1, none⟩ = some (.string b) ∧ w'.cell? ⟨w.heap.size, 2, none⟩ = some (.int .i64 z) ∧ w'.cell? ⟨w.heap.size, 3, none⟩ = some (.int .i64 m) ∧ w'.cell? ⟨w.heap.size, 4, none⟩ = some (.slice o1 k1 c1) ∧ w'.cell? ⟨w.heap.size, 5, none⟩ = some (.slice o2 k2 c2) ∧ w'.cell? ⟨w.heap.size, 6, none⟩ = some (.slice (some ⟨blk, off, none⟩) 1 c3) ∧ w'.cell? ⟨blk, off, none⟩ = some (.string a') ∧ w'.cell? ⟨blk, off + 1, none⟩ = some (.string b') ∧ w'.cell? ⟨blk, off + 2, none⟩ = some (.int .i64 z') ∧ w'.cell? ⟨blk, off + 3, none⟩ = some (.int .i64 m') ∧ w'.cell? ⟨blk, off + 4, none⟩ = some (.slice o1' k1' c1') ∧ w'.cell? ⟨blk, off + 5, none⟩ = some (.slice o2' k2' c2') ∧ w'.cell? ⟨blk, off + 6, none⟩ = some (.slice o3' k3' c3')) (first | exact ⟨s0, s1, s2, s3, s4, s5, s6, s7, s8, s9, s10, s11, s12, s13⟩ | exact ⟨r0, r1, r2, r3, r4, r5, r6, r7, r8, r9, r10, r11, r12, r13⟩) (first
      | (go_at_call 56; go_fit (CA.out _ rb); rintro e wq ⟨rfl, ⟨s0, s1, s2, s3, s4, s5, s6, s7, s8, s9, s10, s11, s12, s13⟩, sb⟩)
      | (go_at_call 56; go_fit (CA.out _ sb); rintro e wq ⟨rfl, ⟨s0, s1, s2, s3, s4, s5, s6, s7, s8, s9, s10, s11, s12, s13⟩, sb⟩)
      | (go_at_call 121; go_fit (CO.out _ rb); rintro e wq ⟨rfl, ⟨s0, s1, s2, s3, s4, s5, s6, s7, s8, s9, s10, s11, s12, s13⟩, sb⟩)
      | (go_at_call 121; go_fit (CO.out _ sb); rintro e wq ⟨rfl, ⟨s0, s1, s2, s3, s4, s5, s6, s7, s8, s9, s10, s11, s12, s13⟩, sb⟩))
  all_goals
    go_wp2
    go_ret
    exact ⟨rfl, HB.out.trans (sb.out.mono HB.out.size)⟩

set_option maxHeartbeats 8000000 in
set_option maxRecDepth 100000 in
theorem of_two (a b : ByteArray) (z m : Int) (o1 : Option Addr) (k1 c1 : Nat) (o2 : Option Addr) (k2 c2 : Nat) (c3 : Nat) (w : World) (a' b' : ByteArray) (z' m' : Int) (o1' : Option Addr) (k1' c1' : Nat) (o2' : Option Addr) (k2' c2' : Nat) (o3' : Option Addr) (k3' c3' : Nat) (a'' b'' : ByteArray) (z'' m'' : Int) (o1'' : Option Addr) (k1'' c1'' : Nat) (o2'' : Option Addr) (k2'' c2'' : Nat) (o3'' : Option Addr) (k3'' c3'' : Nat) (blk off : Nat) (hl : blk < w.heap.size) (d0 : w.cell? ⟨blk, off, none⟩ = some (.string a')) (d1 : w.cell? ⟨blk, off + 1, none⟩ = some (.string b')) (d2 : w.cell? ⟨blk, off + 2, none⟩ = some (.int .i64 z')) (d3 : w.cell? ⟨blk, off + 3, none⟩ = some (.int .i64 m')) (d4 : w.cell? ⟨blk, off + 4, none⟩ = some (.slice o1' k1' c1')) (d5 : w.cell? ⟨blk, off + 5, none⟩ = some (.slice o2' k2' c2')) (d6 : w.cell? ⟨blk, off + 6, none⟩ = some (.slice o3' k3' c3')) (e0 : w.cell? ⟨blk, off + 7, none⟩ = some (.string a'')) (e1 : w.cell? ⟨blk, off + 7 + 1, none⟩ = some (.string b'')) (e2 : w.cell? ⟨blk, off + 7 + 2, none⟩ = some (.int .i64 z'')) (e3 : w.cell? ⟨blk, off + 7 + 3, none⟩ = some (.int .i64 m'')) (e4 : w.cell? ⟨blk, off + 7 + 4, none⟩ = some (.slice o1'' k1'' c1'')) (e5 : w.cell? ⟨blk, off + 7 + 5, none⟩ = some (.slice o2'' k2'' c2'')) (e6 : w.cell? ⟨blk, off + 7 + 6, none⟩ = some (.slice o3'' k3'' c3'')) (u v r : Value)
    (HC1 : ∀ W, Below w.heap.size w W → Calls Tryz.prog 56 #[.agg #[.string a', .string b', .int .i64 z', .int .i64 m', .slice o1' k1' c1', .slice o2' k2' c2', .slice o3' k3' c3']] W fun e w' => e = .returned u ∧ Below W.heap.size W w')
    (HC2 : ∀ W, Below w.heap.size w W → Calls Tryz.prog 56 #[.agg #[.string a'', .string b'', .int .i64 z'', .int .i64 m'', .slice o1'' k1'' c1'', .slice o2'' k2'' c2'', .slice o3'' k3'' c3'']] W fun e w' => e = .returned v ∧ Below W.heap.size W w')
    (HC : ∀ W, Calls Tryz.prog 122 #[.agg #[.string a, .string b, .int .i64 z, .int .i64 m, .slice o1 k1 c1, .slice o2 k2 c2, .slice (some ⟨blk, off, none⟩) 2 c3], u, v] W fun e w' => e = .returned r ∧ Below W.heap.size W w') :
    Calls Tryz.prog 56 #[.agg #[.string a, .string b, .int .i64 z, .int .i64 m, .slice o1 k1 c1, .slice o2 k2 c2, .slice (some ⟨blk, off, none⟩) 2 c3]] w fun e w' => e = .returned r ∧ Below w.heap.size w w' := by
  obtain ⟨W0, hW0⟩ : ∃ W0, w.alloc (NBox a b z m o1 k1 c1 o2 k2 c2 (some ⟨blk, off, none⟩) 2 c3) = W0 := ⟨_, rfl⟩
  have HB := Lib.hid (show Below w.heap.size w W0 by rw [← hW0]; exact box_below w _)
  have HSZ := Lib.hid (show W0.heap.size = w.heap.size + 1 by rw [← hW0]; simp)
  have HKS := Lib.hid (fun W (hb : Below W0.heap.size W0 W) => (show W.cell? ⟨w.heap.size, 0, none⟩ = some (.string a) ∧ W.cell? ⟨w.heap.size, 1, none⟩ = some (.string b) ∧ W.cell? ⟨w.heap.size, 2, none⟩ = some (.int .i64 z) ∧ W.cell? ⟨w.heap.size, 3, none⟩ = some (.int .i64 m) ∧ W.cell? ⟨w.heap.size, 4, none⟩ = some (.slice o1 k1 c1) ∧ W.cell? ⟨w.heap.size, 5, none⟩ = some (.slice o2 k2 c2) ∧ W.cell? ⟨w.heap.size, 6, none⟩ = some (.slice (some ⟨blk, off, none⟩) 2 c3) ∧ W.cell? ⟨blk, off, none⟩ = some (.string a') ∧ W.cell? ⟨blk, off + 1, none⟩ = some (.string b') ∧ W.cell? ⟨blk, off + 2, none⟩ = some (.int .i64 z') ∧ W.cell? ⟨blk, off + 3, none⟩ = some (.int .i64 m') ∧ W.cell? ⟨blk, off + 4, none⟩ = some (.slice o1' k1' c1') ∧ W.cell? ⟨blk, off + 5, none⟩ = some (.slice o2' k2' c2') ∧ W.cell? ⟨blk, off + 6, none⟩ = some (.slice o3' k3' c3') ∧ W.cell? ⟨blk, off + 7, none⟩ = some (.string a'') ∧ W.cell? ⟨blk, off + 7 + 1, none⟩ = some (.string b'') ∧ W.cell? ⟨blk, off + 7 + 2, none⟩ = some (.int .i64 z'') ∧ W.cell? ⟨blk, off + 7 + 3, none⟩ = some (.int .i64 m'') ∧ W.cell? ⟨blk, off + 7 + 4, none⟩ = some (.slice o1'' k1'' c1'') ∧ W.cell? ⟨blk, off + 7 + 5, none⟩ = some (.slice o2'' k2'' c2'') ∧ W.cell? ⟨blk, off + 7 + 6, none⟩ = some (.slice o3'' k3'' c3'') from by
    obtain ⟨p0, p1, p2, p3, p4, p5, p6⟩ := nbox_reads w W a b z m o1 k1 c1 o2 k2 c2 (some ⟨blk, off, none⟩) 2 c3 (by rw [hW0]; exact hb.mono (by rw [HSZ.out]; exact Nat.le_refl _))
    have hlow := (HB.out.trans (hb.mono HB.out.size))
    exact ⟨p0, p1, p2, p3, p4, p5, p6, (hlow.cell (p := ⟨blk, off, none⟩) hl).trans d0, (hlow.cell (p := ⟨blk, off + 1, none⟩) hl).trans d1, (hlow.cell (p := ⟨blk, off + 2, none⟩) hl).trans d2, (hlow.cell (p := ⟨blk, off + 3, none⟩) hl).trans d3, (hlow.cell (p := ⟨blk, off + 4, none⟩) hl).trans d4, (hlow.cell (p := ⟨blk, off + 5, none⟩) hl).trans d5, (hlow.cell (p := ⟨blk, off + 6, none⟩) hl).trans d6, (hlow.cell (p := ⟨blk, off + 7, none⟩) hl).trans e0, (hlow.cell (p := ⟨blk, off + 7 + 1, none⟩) hl).trans e1, (hlow.cell (p := ⟨blk, off + 7 + 2, none⟩) hl).trans e2, (hlow.cell (p := ⟨blk, off + 7 + 3, none⟩) hl).trans e3, (hlow.cell (p := ⟨blk, off + 7 + 4, none⟩) hl).trans e4, (hlow.cell (p := ⟨blk, off + 7 + 5, none⟩) hl).trans e5, (hlow.cell (p := ⟨blk, off + 7 + 6, none⟩) hl).trans e6⟩))
  have CA := Lib.hid (fun (W : World) (hb : Hid (Below W0.heap.size W0 W)) => (HC1 W (HB.out.trans (hb.out.mono HB.out.size))).mono (R' := fun e w' => e = .returned u ∧ (w'.cell? ⟨w.heap.size, 0, none⟩ = some (.string a) ∧ w'.cell? ⟨w.heap.size, 1, none⟩ = some (.string b) ∧ w'.cell? ⟨w.heap.size, 2, none⟩ = some (.int .i64 z) ∧ w'.cell? ⟨w.heap.size, 3, none⟩ = some (.int .i64 m) ∧ w'.cell? ⟨w.heap.size, 4, none⟩ = some (.slice o1 k1 c1) ∧ w'.cell? ⟨w.heap.size, 5, none⟩ = some (.slice o2 k2 c2) ∧ w'.cell? ⟨w.heap.size, 6, none⟩ = some (.slice (some ⟨blk, off, none⟩) 2 c3) ∧ w'.cell? ⟨blk, off, none⟩ = some (.string a') ∧ w'.cell? ⟨blk, off + 1, none⟩ = some (.string b') ∧ w'.cell? ⟨blk, off + 2, none⟩ = some (.int .i64 z') ∧ w'.cell? ⟨blk, off + 3, none⟩ = some (.int .i64 m') ∧ w'.cell? ⟨blk, off + 4, none⟩ = some (.slice o1' k1' c1') ∧ w'.cell? ⟨blk, off + 5, none⟩ = some (.slice o2' k2' c2') ∧ w'.cell? ⟨blk, off + 6, none⟩ = some (.slice o3' k3' c3') ∧ w'.cell? ⟨blk, off + 7, none⟩ = some (.string a'') ∧ w'.cell? ⟨blk, off + 7 + 1, none⟩ = some (.string b'') ∧ w'.cell? ⟨blk, off + 7 + 2, none⟩ = some (.int .i64 z'') ∧ w'.cell? ⟨blk, off + 7 + 3, none⟩ = some (.int .i64 m'') ∧ w'.cell? ⟨blk, off + 7 + 4, none⟩ = some (.slice o1'' k1'' c1'') ∧ w'.cell? ⟨blk, off + 7 + 5, none⟩ = some (.slice o2'' k2'' c2'') ∧ w'.cell? ⟨blk, off + 7 + 6, none⟩ = some (.slice o3'' k3'' c3'')) ∧ Hid (Below W0.heap.size W0 w')) (fun e w' q => have hq := hb.out.trans (q.2.mono hb.out.size); ⟨q.1, HKS.out w' hq, hq⟩))
  have CB := Lib.hid (fun (W : World) (hb : Hid (Below W0.heap.size W0 W)) => (HC2 W (HB.out.trans (hb.out.mono HB.out.size))).mono (R' := fun e w' => e = .returned v ∧ (w'.cell? ⟨w.heap.size, 0, none⟩ = some (.string a) ∧ w'.cell? ⟨w.heap.size, 1, none⟩ = some (.string b) ∧ w'.cell? ⟨w.heap.size, 2, none⟩ = some (.int .i64 z) ∧ w'.cell? ⟨w.heap.size, 3, none⟩ = some (.int .i64 m) ∧ w'.cell? ⟨w.heap.size, 4, none⟩ = some (.slice o1 k1 c1) ∧ w'.cell? ⟨w.heap.size, 5, none⟩ = some (.slice o2 k2 c2) ∧ w'.cell? ⟨w.heap.size, 6, none⟩ = some (.slice (some ⟨blk, off, none⟩) 2 c3) ∧ w'.cell? ⟨blk, off, none⟩ = some (.string a') ∧ w'.cell? ⟨blk, off + 1, none⟩ = some (.string b') ∧ w'.cell? ⟨blk, off + 2, none⟩ = some (.int .i64 z') ∧ w'.cell? ⟨blk, off + 3, none⟩ = some (.int .i64 m') ∧ w'.cell? ⟨blk, off + 4, none⟩ = some (.slice o1' k1' c1') ∧ w'.cell? ⟨blk, off + 5, none⟩ = some (.slice o2' k2' c2') ∧ w'.cell? ⟨blk, off + 6, none⟩ = some (.slice o3' k3' c3') ∧ w'.cell? ⟨blk, off + 7, none⟩ = some (.string a'') ∧ w'.cell? ⟨blk, off + 7 + 1, none⟩ = some (.string b'') ∧ w'.cell? ⟨blk, off + 7 + 2, none⟩ = some (.int .i64 z'') ∧ w'.cell? ⟨blk, off + 7 + 3, none⟩ = some (.int .i64 m'') ∧ w'.cell? ⟨blk, off + 7 + 4, none⟩ = some (.slice o1'' k1'' c1'') ∧ w'.cell? ⟨blk, off + 7 + 5, none⟩ = some (.slice o2'' k2'' c2'') ∧ w'.cell? ⟨blk, off + 7 + 6, none⟩ = some (.slice o3'' k3'' c3'')) ∧ Hid (Below W0.heap.size W0 w')) (fun e w' q => have hq := hb.out.trans (q.2.mono hb.out.size); ⟨q.1, HKS.out w' hq, hq⟩))
  have CO := Lib.hid (fun (W : World) (hb : Hid (Below W0.heap.size W0 W)) => (HC W).mono (R' := fun e w' => e = .returned r ∧ (w'.cell? ⟨w.heap.size, 0, none⟩ = some (.string a) ∧ w'.cell? ⟨w.heap.size, 1, none⟩ = some (.string b) ∧ w'.cell? ⟨w.heap.size, 2, none⟩ = some (.int .i64 z) ∧ w'.cell? ⟨w.heap.size, 3, none⟩ = some (.int .i64 m) ∧ w'.cell? ⟨w.heap.size, 4, none⟩ = some (.slice o1 k1 c1) ∧ w'.cell? ⟨w.heap.size, 5, none⟩ = some (.slice o2 k2 c2) ∧ w'.cell? ⟨w.heap.size, 6, none⟩ = some (.slice (some ⟨blk, off, none⟩) 2 c3) ∧ w'.cell? ⟨blk, off, none⟩ = some (.string a') ∧ w'.cell? ⟨blk, off + 1, none⟩ = some (.string b') ∧ w'.cell? ⟨blk, off + 2, none⟩ = some (.int .i64 z') ∧ w'.cell? ⟨blk, off + 3, none⟩ = some (.int .i64 m') ∧ w'.cell? ⟨blk, off + 4, none⟩ = some (.slice o1' k1' c1') ∧ w'.cell? ⟨blk, off + 5, none⟩ = some (.slice o2' k2' c2') ∧ w'.cell? ⟨blk, off + 6, none⟩ = some (.slice o3' k3' c3') ∧ w'.cell? ⟨blk, off + 7, none⟩ = some (.string a'') ∧ w'.cell? ⟨blk, off + 7 + 1, none⟩ = some (.string b'') ∧ w'.cell? ⟨blk, off + 7 + 2, none⟩ = some (.int .i64 z'') ∧ w'.cell? ⟨blk, off + 7 + 3, none⟩ = some (.int .i64 m'') ∧ w'.cell? ⟨blk, off + 7 + 4, none⟩ = some (.slice o1'' k1'' c1'') ∧ w'.cell? ⟨blk, off + 7 + 5, none⟩ = some (.slice o2'' k2'' c2'') ∧ w'.cell? ⟨blk, off + 7 + 6, none⟩ = some (.slice o3'' k3'' c3'')) ∧ Hid (Below W0.heap.size W0 w')) (fun e w' q => have hq := hb.out.trans (q.2.mono hb.out.size); ⟨q.1, HKS.out w' hq, hq⟩))
  obtain ⟨r0, r1, r2, r3, r4, r5, r6, r7, r8, r9, r10, r11, r12, r13, r14, r15, r16, r17, r18, r19, r20⟩ := HKS.out W0 (Below.refl _ _)
  have rb := Lib.hid (show Below W0.heap.size W0 W0.drew from (Below.refl _ _).drew)
  have HW0 := Lib.hid hW0
  clear hW0 HC HC1 HC2 d0 d1 d2 d3 d4 d5 d6 e0 e1 e2 e3 e4 e5 e6
  go_enter Tryz.func56, Tryz.ntmps56
  go_wp2_with fail
  rw [show w.alloc (Obj.cells #[.string a, .string b, .int .i64 z, .int .i64 m, .slice o1 k1 c1, .slice o2 k2 c2, .slice (some ⟨blk, off, none⟩) 2 c3] 27) = W0 from HW0.out]
  go_region_held3 (fun w' => w'.cell? ⟨w.heap.size, 0, none⟩ = some (.string a) ∧ w'.cell? ⟨w.heap.size, 1, none⟩ = some (.string b) ∧ w'.cell? ⟨w.heap.size, 2, none⟩ = some (.int .i64 z) ∧ w'.cell? ⟨w.heap.size, 3, none⟩ = some (.int .i64 m) ∧ w'.cell? ⟨w.heap.size, 4, none⟩ = some (.slice o1 k1 c1) ∧ w'.cell? ⟨w.heap.size, 5, none⟩ = some (.slice o2 k2 c2) ∧ w'.cell? ⟨w.heap.size, 6, none⟩ = some (.slice (some ⟨blk, off, none⟩) 2 c3) ∧ w'.cell? ⟨blk, off, none⟩ = some (.string a') ∧ w'.cell? ⟨blk, off + 1, none⟩ = some (.string b') ∧ w'.cell? ⟨blk, off + 2, none⟩ = some (.int .i64 z') ∧ w'.cell? ⟨blk, off + 3, none⟩ = some (.int .i64 m') ∧ w'.cell? ⟨blk, off + 4, none⟩ = some (.slice o1' k1' c1') ∧ w'.cell? ⟨blk, off + 5, none⟩ = some (.slice o2' k2' c2') ∧ w'.cell? ⟨blk, off + 6, none⟩ = some (.slice o3' k3' c3') ∧ w'.cell? ⟨blk, off + 7, none⟩ = some (.string a'') ∧ w'.cell? ⟨blk, off + 7 + 1, none⟩ = some (.string b'') ∧ w'.cell? ⟨blk, off + 7 + 2, none⟩ = some (.int .i64 z'') ∧ w'.cell? ⟨blk, off + 7 + 3, none⟩ = some (.int .i64 m'') ∧ w'.cell? ⟨blk, off + 7 + 4, none⟩ = some (.slice o1'' k1'' c1'') ∧ w'.cell? ⟨blk, off + 7 + 5, none⟩ = some (.slice o2'' k2'' c2'') ∧ w'.cell? ⟨blk, off + 7 + 6, none⟩ = some (.slice o3'' k3'' c3'')) (first | exact ⟨s0, s1, s2, s3, s4, s5, s6, s7, s8, s9, s10, s11, s12, s13, s14, s15, s16, s17, s18, s19, s20⟩ | exact ⟨r0, r1, r2, r3, r4, r5, r6, r7, r8, r9, r10, r11, r12, r13, r14, r15, r16, r17, r18, r19, r20⟩) (first
      | (go_at_call 56; go_fit (CA.out _ rb); rintro e wq ⟨rfl, ⟨s0, s1, s2, s3, s4, s5, s6, s7, s8, s9, s10, s11, s12, s13, s14, s15, s16, s17, s18, s19, s20⟩, sb⟩)
      | (go_at_call 56; go_fit (CA.out _ sb); rintro e wq ⟨rfl, ⟨s0, s1, s2, s3, s4, s5, s6, s7, s8, s9, s10, s11, s12, s13, s14, s15, s16, s17, s18, s19, s20⟩, sb⟩)
      | (go_at_call 56; go_fit (CB.out _ rb); rintro e wq ⟨rfl, ⟨s0, s1, s2, s3, s4, s5, s6, s7, s8, s9, s10, s11, s12, s13, s14, s15, s16, s17, s18, s19, s20⟩, sb⟩)
      | (go_at_call 56; go_fit (CB.out _ sb); rintro e wq ⟨rfl, ⟨s0, s1, s2, s3, s4, s5, s6, s7, s8, s9, s10, s11, s12, s13, s14, s15, s16, s17, s18, s19, s20⟩, sb⟩)
      | (go_at_call 122; go_fit (CO.out _ rb); rintro e wq ⟨rfl, ⟨s0, s1, s2, s3, s4, s5, s6, s7, s8, s9, s10, s11, s12, s13, s14, s15, s16, s17, s18, s19, s20⟩, sb⟩)
      | (go_at_call 122; go_fit (CO.out _ sb); rintro e wq ⟨rfl, ⟨s0, s1, s2, s3, s4, s5, s6, s7, s8, s9, s10, s11, s12, s13, s14, s15, s16, s17, s18, s19, s20⟩, sb⟩))
  all_goals
    go_wp2
    go_ret
    exact ⟨rfl, HB.out.trans (sb.out.mono HB.out.size)⟩

theorem of_any : ∀ (n : Nat) (x : Ex), countE x ≤ n → OfC x
  | 0, x, h => by cases x <;> simp [countE] at h
  | n + 1, x, hx => by
    intro P w a b z m o1 k1 c1 o2 k2 c2 o3 k3 c3 hN
    obtain ⟨⟨ea, eb, ez, em⟩, ⟨l1, l2, l3⟩, s1, s2, css, h4, s3, hk⟩ := hN.open7
    have hcl : css.length = (kidsE x).length := h4.trans l3.symm
    have hlow : ∀ (y : Ex), y ∈ kidsE x → countE y ≤ n := fun y hy => by have := kids_lt hy; omega
    have hone : ∀ (y : Ex), kidsE x = [y] → ∀ r, (∀ W, Calls Tryz.prog 121 #[.agg #[.string a, .string b, .int .i64 z, .int .i64 m, .slice o1 k1 c1, .slice o2 k2 c2, .slice o3 k3 c3], kv (kindE y)] W fun e w' => e = .returned r ∧ Below W.heap.size W w') →
        Calls Tryz.prog 56 #[.agg #[.string a, .string b, .int .i64 z, .int .i64 m, .slice o1 k1 c1, .slice o2 k2 c2, .slice o3 k3 c3]] w fun e w' => e = .returned r ∧ Below w.heap.size w w' := by
      intro y hy r HC
      obtain ⟨blk, off, rfl, hl, a', b', z', m', o1', k1', c1', o2', k2', c2', o3', k3', c3', hn, d0, d1, d2, d3, d4, d5, d6⟩ := kid_at s3 hcl hk (j := 0) (y := y) (by rw [hy]; rfl)
      obtain rfl : 1 = k3 := by rw [← l3, hy]; rfl
      simp only [Nat.zero_mul, Nat.add_zero] at d0 d1 d2 d3 d4 d5 d6
      exact of_one a b z m o1 k1 c1 o2 k2 c2 c3 w a' b' z' m' o1' k1' c1' o2' k2' c2' o3' k3' c3' blk off hl d0 d1 d2 d3 d4 d5 d6 (kv (kindE y)) r (fun W hb => of_any n y (hlow y (by rw [hy]; simp)) P W _ _ _ _ _ _ _ _ _ _ _ _ _ (hn.under hb)) HC
    cases x with
    | num v =>
      obtain rfl := ea
      exact of_leaf _ _ _ _ _ _ _ _ _ _ _ _ _ _ l3.symm (fun W => leaf_num _ _ _ _ _ _ _ _ _ _ _ _ W) w
    | sel mt v ms =>
      obtain rfl := ea
      have hz : z = (v : Nat) := ez
      rw [kindE]
      by_cases hv : 0 < v
      · rw [if_pos hv]
        exact of_leaf _ _ _ _ _ _ _ _ _ _ _ _ _ _ l3.symm (fun W => leaf_range _ _ _ _ _ _ _ _ _ _ _ _ (by omega) W) w
      · rw [if_neg hv]
        exact of_leaf _ _ _ _ _ _ _ _ _ _ _ _ _ _ l3.symm (fun W => leaf_sel _ _ _ _ _ _ _ _ _ _ _ _ (by omega) W) w
    | neg y =>
      refine hone y rfl _ fun W => ?_
      obtain rfl := ea
      exact one_neg _ _ _ _ _ _ _ _ _ _ _ _ (kindE y) (kindE_le y) W
    | fn nm y =>
      refine hone y rfl _ fun W => ?_
      obtain rfl := ea
      exact one_fn _ _ _ _ _ _ _ _ _ _ _ _ (kindE y) (kindE_le y) W
    | agg nm v md names y =>
      refine hone y rfl _ fun W => ?_
      obtain rfl := ea
      obtain rfl := eb
      have hz : z = (v : Nat) := ez
      subst hz
      exact one_agg _ _ _ _ _ _ _ _ _ _ _ _ (kindE y) (kindE_le y) W
    | bin op md names l r =>
      obtain rfl := ea
      have hm : m = (md : Nat) := em
      subst hm
      obtain ⟨blk, off, rfl, hl, a', b', z', m', o1', k1', c1', o2', k2', c2', o3', k3', c3', hn, d0, d1, d2, d3, d4, d5, d6⟩ := kid_at s3 hcl hk (j := 0) (y := l) rfl
      obtain ⟨blk2, off2, hoo, hl2, a'', b'', z'', m'', o1'', k1'', c1'', o2'', k2'', c2'', o3'', k3'', c3'', hn2, e0, e1, e2, e3, e4, e5, e6⟩ := kid_at s3 hcl hk (j := 1) (y := r) rfl
      injection hoo with hoo
      injection hoo with h1 h2 _
      subst h1; subst h2
      obtain rfl : 2 = k3 := by rw [← l3]; rfl
      simp only [Nat.zero_mul, Nat.add_zero, Nat.one_mul] at d0 d1 d2 d3 d4 d5 d6 e0 e1 e2 e3 e4 e5 e6
      exact of_two _ b z _ o1 k1 c1 o2 k2 c2 c3 w a' b' z' m' o1' k1' c1' o2' k2' c2' o3' k3' c3' a'' b'' z'' m'' o1'' k1'' c1'' o2'' k2'' c2'' o3'' k3'' c3'' blk off hl d0 d1 d2 d3 d4 d5 d6 e0 e1 e2 e3 e4 e5 e6 (kv (kindE l)) (kv (kindE r)) _ (fun W hb => of_any n l (hlow l (by simp [kidsE])) P W _ _ _ _ _ _ _ _ _ _ _ _ _ (hn.under hb)) (fun W hb => of_any n r (hlow r (by simp [kidsE])) P W _ _ _ _ _ _ _ _ _ _ _ _ _ (hn2.under hb)) (fun W => two_bin _ _ _ _ _ _ _ _ _ _ _ _ _ _ (kindE_le l) (kindE_le r) W)
end Go.Proofs.YtddglepimbfdkaaGreatDoor.Knd
