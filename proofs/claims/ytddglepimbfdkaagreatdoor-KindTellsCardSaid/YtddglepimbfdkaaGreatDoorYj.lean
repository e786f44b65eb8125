/- Walks (kind): the document's kind of a part. -/
import Derived.Test.YtddglepimbfdkaaGreatDoorYe
import Derived.Deep.CutRange
namespace Go.Proofs.YtddglepimbfdkaaGreatDoor.Knd
open Go.RowKit Go.Lib
open Go.Proofs.YtddglepimbfdkaaGreatDoor.Par

set_option maxHeartbeats 4000000 in
set_option maxRecDepth 100000 in
theorem rof_num (b : ByteArray) (z m : Int) (o1 : Option Addr) (k1 c1 : Nat) (o2 : Option Addr) (k2 c2 : Nat) (o3 : Option Addr) (k3 c3 : Nat) (w : World) :
    Calls Tryz.prog 23 #[.agg #[.string ⟨#[110, 117, 109]⟩, .string b, .int .i64 z, .int .i64 m, .slice o1 k1 c1, .slice o2 k2 c2, .slice o3 k3 c3]] w fun e w' => e = .returned (.int .i64 1) ∧ Below w.heap.size w w' := by
  go_enter Tryz.func23, Tryz.ntmps23
  go_wp2
  go_ret
  exact ⟨rfl, box_below _ _⟩

set_option maxHeartbeats 4000000 in
set_option maxRecDepth 100000 in
theorem rof_range (b : ByteArray) (z m : Int) (o1 : Option Addr) (k1 c1 : Nat) (o2 : Option Addr) (k2 c2 : Nat) (o3 : Option Addr) (k3 c3 : Nat) (w : World) (hz : 0 < z) :
    Calls Tryz.prog 23 #[.agg #[.string ⟨#[115, 101, 108]⟩, .string b, .int .i64 z, .int .i64 m, .slice o1 k1 c1, .slice o2 k2 c2, .slice o3 k3 c3]] w fun e w' => e = .returned (.int .i64 3) ∧ Below w.heap.size w w' := by
  have h1 : z > 0 := hz
  go_enter Tryz.func23, Tryz.ntmps23
  go_wp2
  go_ret
  exact ⟨rfl, box_below _ _⟩

set_option maxHeartbeats 4000000 in
set_option maxRecDepth 100000 in
theorem rof_sel (b : ByteArray) (z m : Int) (o1 : Option Addr) (k1 c1 : Nat) (o2 : Option Addr) (k2 c2 : Nat) (o3 : Option Addr) (k3 c3 : Nat) (w : World) (hz : ¬ 0 < z) :
    Calls Tryz.prog 23 #[.agg #[.string ⟨#[115, 101, 108]⟩, .string b, .int .i64 z, .int .i64 m, .slice o1 k1 c1, .slice o2 k2 c2, .slice o3 k3 c3]] w fun e w' => e = .returned (.int .i64 2) ∧ Below w.heap.size w w' := by
  have h1 : ¬ z > 0 := hz
  go_enter Tryz.func23, Tryz.ntmps23
  go_wp2
  go_ret
  exact ⟨rfl, box_below _ _⟩

set_option maxHeartbeats 4000000 in
set_option maxRecDepth 100000 in
theorem rof_fn (b : ByteArray) (z m : Int) (o1 : Option Addr) (k1 c1 : Nat) (o2 : Option Addr) (k2 c2 : Nat) (c3 : Nat) (w : World) (a' b' : ByteArray) (z' m' : Int) (o1' : Option Addr) (k1' c1' : Nat) (o2' : Option Addr) (k2' c2' : Nat) (o3' : Option Addr) (k3' c3' : Nat) (blk off : Nat) (hl : blk < w.heap.size) (d0 : w.cell? ⟨blk, off, none⟩ = some (.string a')) (d1 : w.cell? ⟨blk, off + 1, none⟩ = some (.string b')) (d2 : w.cell? ⟨blk, off + 2, none⟩ = some (.int .i64 z')) (d3 : w.cell? ⟨blk, off + 3, none⟩ = some (.int .i64 m')) (d4 : w.cell? ⟨blk, off + 4, none⟩ = some (.slice o1' k1' c1')) (d5 : w.cell? ⟨blk, off + 5, none⟩ = some (.slice o2' k2' c2')) (d6 : w.cell? ⟨blk, off + 6, none⟩ = some (.slice o3' k3' c3')) (k : Nat) (hk : k ≤ 3)
    (HC : ∀ W, Below w.heap.size w W → Calls Tryz.prog 23 #[.agg #[.string a', .string b', .int .i64 z', .int .i64 m', .slice o1' k1' c1', .slice o2' k2' c2', .slice o3' k3' c3']] W fun e w' => e = .returned (.int .i64 (k : Nat)) ∧ Below W.heap.size W w') :
    Calls Tryz.prog 23 #[.agg #[.string ⟨#[102, 110]⟩, .string b, .int .i64 z, .int .i64 m, .slice o1 k1 c1, .slice o2 k2 c2, .slice (some ⟨blk, off, none⟩) 1 c3]] w fun e w' => e = .returned (.int .i64 ((if k = 3 then 2 else 0 : Nat) : Int)) ∧ Below w.heap.size w w' := by
  have HB := Lib.hid (box_below w (NBox ⟨#[102, 110]⟩ b z m o1 k1 c1 o2 k2 c2 (some ⟨blk, off, none⟩) 1 c3))
  have HX := Lib.hid (fun W (h : Below (w.heap.size + 1) (w.alloc (NBox ⟨#[102, 110]⟩ b z m o1 k1 c1 o2 k2 c2 (some ⟨blk, off, none⟩) 1 c3)) W) => nbox_reads w W _ _ _ _ _ _ _ _ _ _ _ _ _ h)
  have HCC := Lib.hid (HC _ HB.out)
  have e0 := (HB.out.cell (p := ⟨blk, off, none⟩) hl).trans d0
  have e1 := (HB.out.cell (p := ⟨blk, off + 1, none⟩) hl).trans d1
  have e2 := (HB.out.cell (p := ⟨blk, off + 2, none⟩) hl).trans d2
  have e3 := (HB.out.cell (p := ⟨blk, off + 3, none⟩) hl).trans d3
  have e4 := (HB.out.cell (p := ⟨blk, off + 4, none⟩) hl).trans d4
  have e5 := (HB.out.cell (p := ⟨blk, off + 5, none⟩) hl).trans d5
  have e6 := (HB.out.cell (p := ⟨blk, off + 6, none⟩) hl).trans d6
  clear d0 d1 d2 d3 d4 d5 d6 HC
  by_cases h3 : k = 3
  · subst h3
    rw [if_pos rfl]
    go_enter Tryz.func23, Tryz.ntmps23
    go_wp2_with fail
    refine HCC.out.mono ?_
    rintro e w1 ⟨rfl, b1⟩
    have B1 := Lib.hid (HB.out.trans (b1.mono HB.out.size))
    obtain ⟨p0, p1, p2, p3, p4, p5, p6⟩ := HX.out w1 (nbox_on b1)
    clear b1
    go_wp2
    go_ret
    exact ⟨rfl, B1.out⟩
  · rw [if_neg h3]
    have e8 : ((k : Int) == 3) = false := by simp; omega
    have e9 : ¬ (k : Int) = 3 := by omega
    clear h3 hk
    go_enter Tryz.func23, Tryz.ntmps23
    go_wp2_with fail
    refine HCC.out.mono ?_
    rintro e w1 ⟨rfl, b1⟩
    have B1 := Lib.hid (HB.out.trans (b1.mono HB.out.size))
    obtain ⟨p0, p1, p2, p3, p4, p5, p6⟩ := HX.out w1 (nbox_on b1)
    clear b1
    go_wp2
    go_ret
    exact ⟨rfl, B1.out⟩

set_option maxHeartbeats 4000000 in
set_option maxRecDepth 100000 in
theorem rof_neg (b : ByteArray) (z m : Int) (o1 : Option Addr) (k1 c1 : Nat) (o2 : Option Addr) (k2 c2 : Nat) (c3 : Nat) (w : World) (a' b' : ByteArray) (z' m' : Int) (o1' : Option Addr) (k1' c1' : Nat) (o2' : Option Addr) (k2' c2' : Nat) (o3' : Option Addr) (k3' c3' : Nat) (blk off : Nat) (hl : blk < w.heap.size) (d0 : w.cell? ⟨blk, off, none⟩ = some (.string a')) (d1 : w.cell? ⟨blk, off + 1, none⟩ = some (.string b')) (d2 : w.cell? ⟨blk, off + 2, none⟩ = some (.int .i64 z')) (d3 : w.cell? ⟨blk, off + 3, none⟩ = some (.int .i64 m')) (d4 : w.cell? ⟨blk, off + 4, none⟩ = some (.slice o1' k1' c1')) (d5 : w.cell? ⟨blk, off + 5, none⟩ = some (.slice o2' k2' c2')) (d6 : w.cell? ⟨blk, off + 6, none⟩ = some (.slice o3' k3' c3')) (k : Nat) (hk : k ≤ 3)
    (HC : ∀ W, Below w.heap.size w W → Calls Tryz.prog 23 #[.agg #[.string a', .string b', .int .i64 z', .int .i64 m', .slice o1' k1' c1', .slice o2' k2' c2', .slice o3' k3' c3']] W fun e w' => e = .returned (.int .i64 (k : Nat)) ∧ Below W.heap.size W w') :
    Calls Tryz.prog 23 #[.agg #[.string ⟨#[110, 101, 103]⟩, .string b, .int .i64 z, .int .i64 m, .slice o1 k1 c1, .slice o2 k2 c2, .slice (some ⟨blk, off, none⟩) 1 c3]] w fun e w' => e = .returned (.int .i64 ((if k = 3 then 0 else k : Nat) : Int)) ∧ Below w.heap.size w w' := by
  have HB := Lib.hid (box_below w (NBox ⟨#[110, 101, 103]⟩ b z m o1 k1 c1 o2 k2 c2 (some ⟨blk, off, none⟩) 1 c3))
  have HX := Lib.hid (fun W (h : Below (w.heap.size + 1) (w.alloc (NBox ⟨#[110, 101, 103]⟩ b z m o1 k1 c1 o2 k2 c2 (some ⟨blk, off, none⟩) 1 c3)) W) => nbox_reads w W _ _ _ _ _ _ _ _ _ _ _ _ _ h)
  have HCC := Lib.hid (HC _ HB.out)
  have e0 := (HB.out.cell (p := ⟨blk, off, none⟩) hl).trans d0
  have e1 := (HB.out.cell (p := ⟨blk, off + 1, none⟩) hl).trans d1
  have e2 := (HB.out.cell (p := ⟨blk, off + 2, none⟩) hl).trans d2
  have e3 := (HB.out.cell (p := ⟨blk, off + 3, none⟩) hl).trans d3
  have e4 := (HB.out.cell (p := ⟨blk, off + 4, none⟩) hl).trans d4
  have e5 := (HB.out.cell (p := ⟨blk, off + 5, none⟩) hl).trans d5
  have e6 := (HB.out.cell (p := ⟨blk, off + 6, none⟩) hl).trans d6
  clear d0 d1 d2 d3 d4 d5 d6 HC
  by_cases h3 : k = 3
  · subst h3
    rw [if_pos rfl]
    go_enter Tryz.func23, Tryz.ntmps23
    go_wp2_with fail
    refine HCC.out.mono ?_
    rintro e w1 ⟨rfl, b1⟩
    have B1 := Lib.hid (HB.out.trans (b1.mono HB.out.size))
    obtain ⟨p0, p1, p2, p3, p4, p5, p6⟩ := HX.out w1 (nbox_on b1)
    clear b1
    go_wp2
    go_ret
    exact ⟨rfl, B1.out⟩
  · rw [if_neg h3]
    have e8 : ((k : Int) == 3) = false := by simp; omega
    have e9 : ¬ (k : Int) = 3 := by omega
    clear h3 hk
    go_enter Tryz.func23, Tryz.ntmps23
    go_wp2_with fail
    refine HCC.out.mono ?_
    rintro e w1 ⟨rfl, b1⟩
    have B1 := Lib.hid (HB.out.trans (b1.mono HB.out.size))
    obtain ⟨p0, p1, p2, p3, p4, p5, p6⟩ := HX.out w1 (nbox_on b1)
    clear b1
    go_wp2
    go_ret
    exact ⟨rfl, B1.out⟩

set_option maxHeartbeats 8000000 in
set_option maxRecDepth 100000 in
theorem rof_agg (b : ByteArray) (n : Nat) (m : Int) (o1 : Option Addr) (k1 c1 : Nat) (o2 : Option Addr) (k2 c2 : Nat) (c3 : Nat) (w : World) (a' b' : ByteArray) (z' m' : Int) (o1' : Option Addr) (k1' c1' : Nat) (o2' : Option Addr) (k2' c2' : Nat) (o3' : Option Addr) (k3' c3' : Nat) (blk off : Nat) (hl : blk < w.heap.size) (d0 : w.cell? ⟨blk, off, none⟩ = some (.string a')) (d1 : w.cell? ⟨blk, off + 1, none⟩ = some (.string b')) (d2 : w.cell? ⟨blk, off + 2, none⟩ = some (.int .i64 z')) (d3 : w.cell? ⟨blk, off + 3, none⟩ = some (.int .i64 m')) (d4 : w.cell? ⟨blk, off + 4, none⟩ = some (.slice o1' k1' c1')) (d5 : w.cell? ⟨blk, off + 5, none⟩ = some (.slice o2' k2' c2')) (d6 : w.cell? ⟨blk, off + 6, none⟩ = some (.slice o3' k3' c3')) (k : Nat) (hk : k ≤ 3)
    (HC : ∀ W, Below w.heap.size w W → Calls Tryz.prog 23 #[.agg #[.string a', .string b', .int .i64 z', .int .i64 m', .slice o1' k1' c1', .slice o2' k2' c2', .slice o3' k3' c3']] W fun e w' => e = .returned (.int .i64 (k : Nat)) ∧ Below W.heap.size W w') :
    Calls Tryz.prog 23 #[.agg #[.string ⟨#[97, 103, 103]⟩, .string b, .int .i64 (n : Nat), .int .i64 m, .slice o1 k1 c1, .slice o2 k2 c2, .slice (some ⟨blk, off, none⟩) 1 c3]] w fun e w' => e = .returned (.int .i64 ((if k = 2 ∧ fitsN b n = true then 2 else 0 : Nat) : Int)) ∧ Below w.heap.size w w' := by
  have HB := Lib.hid (box_below w (NBox ⟨#[97, 103, 103]⟩ b (n : Nat) m o1 k1 c1 o2 k2 c2 (some ⟨blk, off, none⟩) 1 c3))
  have HX := Lib.hid (fun W (h : Below (w.heap.size + 1) (w.alloc (NBox ⟨#[97, 103, 103]⟩ b (n : Nat) m o1 k1 c1 o2 k2 c2 (some ⟨blk, off, none⟩) 1 c3)) W) => nbox_reads w W _ _ _ _ _ _ _ _ _ _ _ _ _ h)
  have HCC := Lib.hid (HC _ HB.out)
  have e0 := (HB.out.cell (p := ⟨blk, off, none⟩) hl).trans d0
  have e1 := (HB.out.cell (p := ⟨blk, off + 1, none⟩) hl).trans d1
  have e2 := (HB.out.cell (p := ⟨blk, off + 2, none⟩) hl).trans d2
  have e3 := (HB.out.cell (p := ⟨blk, off + 3, none⟩) hl).trans d3
  have e4 := (HB.out.cell (p := ⟨blk, off + 4, none⟩) hl).trans d4
  have e5 := (HB.out.cell (p := ⟨blk, off + 5, none⟩) hl).trans d5
  have e6 := (HB.out.cell (p := ⟨blk, off + 6, none⟩) hl).trans d6
  clear d0 d1 d2 d3 d4 d5 d6 HC
  by_cases h2 : k = 2
  rotate_left
  · have e8 : ((k : Int) != 2) = true := by simp; omega
    have e9 : ¬ (k : Int) = 2 := by omega
    rw [show ((if k = 2 ∧ fitsN b n = true then 2 else 0 : Nat) : Int) = 0 by rw [if_neg (fun h => h2 h.1)]; rfl]
    clear h2 hk
    go_enter Tryz.func23, Tryz.ntmps23
    go_wp2_with fail
    refine HCC.out.mono ?_
    rintro e w1 ⟨rfl, b1⟩
    have B1 := Lib.hid (HB.out.trans (b1.mono HB.out.size))
    obtain ⟨p0, p1, p2, p3, p4, p5, p6⟩ := HX.out w1 (nbox_on b1)
    clear b1
    go_wp2
    go_ret
    exact ⟨rfl, B1.out⟩
  · subst h2
    by_cases hq : b = tQuantile
    · subst hq
      by_cases hn : n ≤ 100
      · have j1 : ¬ (n : Int) > 100 := by omega
        rw [show ((if 2 = 2 ∧ fitsN tQuantile n = true then 2 else 0 : Nat) : Int) = 2 by rw [if_pos ⟨rfl, by unfold fitsN; rw [if_pos rfl]; exact decide_eq_true hn⟩]; rfl]
        unfold tQuantile at *
        clear hn hk
        go_enter Tryz.func23, Tryz.ntmps23
        go_wp2_with fail
        refine HCC.out.mono ?_
        rintro e w1 ⟨rfl, b1⟩
        have B1 := Lib.hid (HB.out.trans (b1.mono HB.out.size))
        obtain ⟨p0, p1, p2, p3, p4, p5, p6⟩ := HX.out w1 (nbox_on b1)
        clear b1
        go_wp2
        go_ret
        exact ⟨rfl, B1.out⟩
      · have j1 : (n : Int) > 100 := by omega
        rw [show ((if 2 = 2 ∧ fitsN tQuantile n = true then 2 else 0 : Nat) : Int) = 0 by rw [if_neg (fun h => by have h := h.2; unfold fitsN at h; rw [if_pos rfl] at h; exact hn (of_decide_eq_true h))]; rfl]
        unfold tQuantile at *
        clear hn hk
        go_enter Tryz.func23, Tryz.ntmps23
        go_wp2_with fail
        refine HCC.out.mono ?_
        rintro e w1 ⟨rfl, b1⟩
        have B1 := Lib.hid (HB.out.trans (b1.mono HB.out.size))
        obtain ⟨p0, p1, p2, p3, p4, p5, p6⟩ := HX.out w1 (nbox_on b1)
        clear b1
        go_wp2
        go_ret
        exact ⟨rfl, B1.out⟩
    · obtain ⟨n1, n2, n3⟩ := str_ne_list (s := b) (l := [113, 117, 97, 110, 116, 105, 108, 101]) hq
      by_cases ht : b = tTopk
      · subst ht
        have hf : fitsN tTopk n = decide (1 ≤ n ∧ n ≤ 2000) := by unfold fitsN; rw [if_neg hq, if_pos rfl]
        rw [hf]
        clear hf n1 n2 n3
        by_cases h1 : 1 ≤ n
        · have j1 : ¬ (n : Int) < 1 := by omega
          by_cases h9 : n ≤ 2000
          · have j2 : ¬ (n : Int) > 2000 := by omega
            rw [show ((if 2 = 2 ∧ decide (1 ≤ n ∧ n ≤ 2000) = true then 2 else 0 : Nat) : Int) = 2 by rw [if_pos ⟨rfl, decide_eq_true ⟨h1, h9⟩⟩]; rfl]
            unfold tTopk at *
            clear hq h1 h9 hk
            go_enter Tryz.func23, Tryz.ntmps23
            go_wp2_with fail
            refine HCC.out.mono ?_
            rintro e w1 ⟨rfl, b1⟩
            have B1 := Lib.hid (HB.out.trans (b1.mono HB.out.size))
            obtain ⟨p0, p1, p2, p3, p4, p5, p6⟩ := HX.out w1 (nbox_on b1)
            clear b1
            go_wp2
            go_ret
            exact ⟨rfl, B1.out⟩
          · have j2 : (n : Int) > 2000 := by omega
            rw [show ((if 2 = 2 ∧ decide (1 ≤ n ∧ n ≤ 2000) = true then 2 else 0 : Nat) : Int) = 0 by rw [if_neg (fun h => h9 (of_decide_eq_true h.2).2)]; rfl]
            unfold tTopk at *
            clear hq h1 h9 hk
            go_enter Tryz.func23, Tryz.ntmps23
            go_wp2_with fail
            refine HCC.out.mono ?_
            rintro e w1 ⟨rfl, b1⟩
            have B1 := Lib.hid (HB.out.trans (b1.mono HB.out.size))
            obtain ⟨p0, p1, p2, p3, p4, p5, p6⟩ := HX.out w1 (nbox_on b1)
            clear b1
            go_wp2
            go_ret
            exact ⟨rfl, B1.out⟩
        · have j1 : (n : Int) < 1 := by omega
          rw [show ((if 2 = 2 ∧ decide (1 ≤ n ∧ n ≤ 2000) = true then 2 else 0 : Nat) : Int) = 0 by rw [if_neg (fun h => h1 (of_decide_eq_true h.2).1)]; rfl]
          unfold tTopk at *
          clear hq h1 hk
          go_enter Tryz.func23, Tryz.ntmps23
          go_wp2_with fail
          refine HCC.out.mono ?_
          rintro e w1 ⟨rfl, b1⟩
          have B1 := Lib.hid (HB.out.trans (b1.mono HB.out.size))
          obtain ⟨p0, p1, p2, p3, p4, p5, p6⟩ := HX.out w1 (nbox_on b1)
          clear b1
          go_wp2
          go_ret
          exact ⟨rfl, B1.out⟩
      · obtain ⟨m1, m2, m3⟩ := str_ne_list (s := b) (l := [116, 111, 112, 107]) ht
        rw [show ((if 2 = 2 ∧ fitsN b n = true then 2 else 0 : Nat) : Int) = 2 by rw [if_pos ⟨rfl, by unfold fitsN; rw [if_neg hq, if_neg ht]⟩]; rfl]
        clear hq ht hk
        go_enter Tryz.func23, Tryz.ntmps23
        go_wp2_with fail
        refine HCC.out.mono ?_
        rintro e w1 ⟨rfl, b1⟩
        have B1 := Lib.hid (HB.out.trans (b1.mono HB.out.size))
        obtain ⟨p0, p1, p2, p3, p4, p5, p6⟩ := HX.out w1 (nbox_on b1)
        clear b1
        go_wp2
        go_ret
        exact ⟨rfl, B1.out⟩

set_option maxHeartbeats 16000000 in
set_option maxRecDepth 100000 in
theorem rof_two (b : ByteArray) (z : Int) (md : Nat) (o1 : Option Addr) (k1 c1 : Nat) (o2 : Option Addr) (k2 c2 : Nat) (c3 : Nat) (w : World) (a' b' : ByteArray) (z' m' : Int) (o1' : Option Addr) (k1' c1' : Nat) (o2' : Option Addr) (k2' c2' : Nat) (o3' : Option Addr) (k3' c3' : Nat) (a'' b'' : ByteArray) (z'' m'' : Int) (o1'' : Option Addr) (k1'' c1'' : Nat) (o2'' : Option Addr) (k2'' c2'' : Nat) (o3'' : Option Addr) (k3'' c3'' : Nat) (blk off : Nat) (hl : blk < w.heap.size) (d0 : w.cell? ⟨blk, off, none⟩ = some (.string a')) (d1 : w.cell? ⟨blk, off + 1, none⟩ = some (.string b')) (d2 : w.cell? ⟨blk, off + 2, none⟩ = some (.int .i64 z')) (d3 : w.cell? ⟨blk, off + 3, none⟩ = some (.int .i64 m')) (d4 : w.cell? ⟨blk, off + 4, none⟩ = some (.slice o1' k1' c1')) (d5 : w.cell? ⟨blk, off + 5, none⟩ = some (.slice o2' k2' c2')) (d6 : w.cell? ⟨blk, off + 6, none⟩ = some (.slice o3' k3' c3')) (e0 : w.cell? ⟨blk, off + 7, none⟩ = some (.string a'')) (e1 : w.cell? ⟨blk, off + 7 + 1, none⟩ = some (.string b'')) (e2 : w.cell? ⟨blk, off + 7 + 2, none⟩ = some (.int .i64 z'')) (e3 : w.cell? ⟨blk, off + 7 + 3, none⟩ = some (.int .i64 m'')) (e4 : w.cell? ⟨blk, off + 7 + 4, none⟩ = some (.slice o1'' k1'' c1'')) (e5 : w.cell? ⟨blk, off + 7 + 5, none⟩ = some (.slice o2'' k2'' c2'')) (e6 : w.cell? ⟨blk, off + 7 + 6, none⟩ = some (.slice o3'' k3'' c3'')) (ka kb : Nat) (ha : ka ≤ 3) (hb : kb ≤ 3)
    (HC1 : ∀ W, Below w.heap.size w W → Calls Tryz.prog 23 #[.agg #[.string a', .string b', .int .i64 z', .int .i64 m', .slice o1' k1' c1', .slice o2' k2' c2', .slice o3' k3' c3']] W fun e w' => e = .returned (.int .i64 (ka : Nat)) ∧ Below W.heap.size W w')
    (HC2 : ∀ W, Below w.heap.size w W → Calls Tryz.prog 23 #[.agg #[.string a'', .string b'', .int .i64 z'', .int .i64 m'', .slice o1'' k1'' c1'', .slice o2'' k2'' c2'', .slice o3'' k3'' c3'']] W fun e w' => e = .returned (.int .i64 (kb : Nat)) ∧ Below W.heap.size W w') :
    Calls Tryz.prog 23 #[.agg #[.string ⟨#[98, 105, 110]⟩, .string b, .int .i64 z, .int .i64 (md : Nat), .slice o1 k1 c1, .slice o2 k2 c2, .slice (some ⟨blk, off, none⟩) 2 c3]] w fun e w' => e = .returned (.int .i64 (twoK md ka kb : Nat)) ∧ Below w.heap.size w w' := by
  obtain ⟨W0, hW0⟩ : ∃ W0, w.alloc (NBox ⟨#[98, 105, 110]⟩ b z (md : Nat) o1 k1 c1 o2 k2 c2 (some ⟨blk, off, none⟩) 2 c3) = W0 := ⟨_, rfl⟩
  have HB := Lib.hid (show Below w.heap.size w W0 by rw [← hW0]; exact box_below w _)
  have HSZ := Lib.hid (show W0.heap.size = w.heap.size + 1 by rw [← hW0]; simp)
  have HKS := Lib.hid (fun W (hb : Below W0.heap.size W0 W) => (show W.cell? ⟨w.heap.size, 0, none⟩ = some (.string ⟨#[98, 105, 110]⟩) ∧ W.cell? ⟨w.heap.size, 1, none⟩ = some (.string b) ∧ W.cell? ⟨w.heap.size, 2, none⟩ = some (.int .i64 z) ∧ W.cell? ⟨w.heap.size, 3, none⟩ = some (.int .i64 (md : Nat)) ∧ W.cell? ⟨w.heap.size, 4, none⟩ = some (.slice o1 k1 c1) ∧ W.cell? ⟨w.heap.size, 5, none⟩ = some (.slice o2 k2 c2) ∧ W.cell? ⟨w.heap.size, 6, none⟩ = some (.slice (some ⟨blk, off, none⟩) 2 c3) ∧ W.cell? ⟨blk, off, none⟩ = some (.string a') ∧ W.cell? ⟨blk, off + 1, none⟩ = some (.string b') ∧ W.cell? ⟨blk, off + 2, none⟩ = some (.int .i64 z') ∧ W.cell? ⟨blk, off + 3, none⟩ = some (.int .i64 m') ∧ W.cell? ⟨blk, off + 4, none⟩ = some (.slice o1' k1' c1') ∧ W.cell? ⟨blk, off + 5, none⟩ = some (.slice o2' k2' c2') ∧ W.cell? ⟨blk, off + 6, none⟩ = some (.slice o3' k3' c3') ∧ W.cell? ⟨blk, off + 7, none⟩ = some (.string a'') ∧ W.cell? ⟨blk, off + 7 + 1, none⟩ = some (.string b'') ∧ W.cell? ⟨blk, off + 7 + 2, none⟩ = some (.int .i64 z'') ∧ W.cell? ⟨blk, off + 7 + 3, none⟩ = some (.int .i64 m'') ∧ W.cell? ⟨blk, off + 7 + 4, none⟩ = some (.slice o1'' k1'' c1'') ∧ W.cell? ⟨blk, off + 7 + 5, none⟩ = some (.slice o2'' k2'' c2'') ∧ W.cell? ⟨blk, off + 7 + 6, none⟩ = some (.slice o3'' k3'' c3'') from by
    obtain ⟨p0, p1, p2, p3, p4, p5, p6⟩ := nbox_reads w W ⟨#[98, 105, 110]⟩ b z (md : Nat) o1 k1 c1 o2 k2 c2 (some ⟨blk, off, none⟩) 2 c3 (by rw [hW0]; exact hb.mono (by rw [HSZ.out]; exact Nat.le_refl _))
    have hlow := (HB.out.trans (hb.mono HB.out.size))
    exact ⟨p0, p1, p2, p3, p4, p5, p6, (hlow.cell (p := ⟨blk, off, none⟩) hl).trans d0, (hlow.cell (p := ⟨blk, off + 1, none⟩) hl).trans d1, (hlow.cell (p := ⟨blk, off + 2, none⟩) hl).trans d2, (hlow.cell (p := ⟨blk, off + 3, none⟩) hl).trans d3, (hlow.cell (p := ⟨blk, off + 4, none⟩) hl).trans d4, (hlow.cell (p := ⟨blk, off + 5, none⟩) hl).trans d5, (hlow.cell (p := ⟨blk, off + 6, none⟩) hl).trans d6, (hlow.cell (p := ⟨blk, off + 7, none⟩) hl).trans e0, (hlow.cell (p := ⟨blk, off + 7 + 1, none⟩) hl).trans e1, (hlow.cell (p := ⟨blk, off + 7 + 2, none⟩) hl).trans e2, (hlow.cell (p := ⟨blk, off + 7 + 3, none⟩) hl).trans e3, (hlow.cell (p := ⟨blk, off + 7 + 4, none⟩) hl).trans e4, (hlow.cell (p := ⟨blk, off + 7 + 5, none⟩) hl).trans e5, (hlow.cell (p := ⟨blk, off + 7 + 6, none⟩) hl).trans e6⟩))
  have CA := Lib.hid (fun (W : World) (hb : Hid (Below W0.heap.size W0 W)) => (HC1 W (HB.out.trans (hb.out.mono HB.out.size))).mono (R' := fun e w' => e = .returned (.int .i64 (ka : Nat)) ∧ (w'.cell? ⟨w.heap.size, 0, none⟩ = some (.string ⟨#[98, 105, 110]⟩) ∧ w'.cell? ⟨w.heap.size, 1, none⟩ = some (.string b) ∧ w'.cell? ⟨w.heap.size, 2, none⟩ = some (.int .i64 z) ∧ w'.cell? ⟨w.heap.size, 3, none⟩ = some (.int .i64 (md : Nat)) ∧ w'.cell? ⟨w.heap.size, 4, none⟩ = some (.slice o1 k1 c1) ∧ w'.cell? ⟨w.heap.size, 5, none⟩ = some (.slice o2 k2 c2) ∧ w'.cell? ⟨w.heap.size, 6, none⟩ = some (.slice (some ⟨blk, off, none⟩) 2 c3) ∧ w'.cell? ⟨blk, off, none⟩ = some (.string a') ∧ w'.cell? ⟨blk, off + 1, none⟩ = some (.string b') ∧ w'.cell? ⟨blk, off + 2, none⟩ = some (.int .i64 z') ∧ w'.cell? ⟨blk, off + 3, none⟩ = some (.int .i64 m') ∧ w'.cell? ⟨blk, off + 4, none⟩ = some (.slice o1' k1' c1') ∧ w'.cell? ⟨blk, off + 5, none⟩ = some (.slice o2' k2' c2') ∧ w'.cell? ⟨blk, off + 6, none⟩ = some (.slice o3' k3' c3') ∧ w'.cell? ⟨blk, off + 7, none⟩ = some (.string a'') ∧ w'.cell? ⟨blk, off + 7 + 1, none⟩ = some (.string b'') ∧ w'.cell? ⟨blk, off + 7 + 2, none⟩ = some (.int .i64 z'') ∧ w'.cell? ⟨blk, off + 7 + 3, none⟩ = some (.int .i64 m'') ∧ w'.cell? ⟨blk, off + 7 + 4, none⟩ = some (.slice o1'' k1'' c1'') ∧ w'.cell? ⟨blk, off + 7 + 5, none⟩ = some (.slice o2'' k2'' c2'') ∧ w'.cell? ⟨blk, off + 7 + 6, none⟩ = some (.slice o3'' k3'' c3'')) ∧ Hid (Below W0.heap.size W0 w')) (fun e w' q => have hq := hb.out.trans (q.2.mono hb.out.size); ⟨q.1, HKS.out w' hq, hq⟩))
  have CB := Lib.hid (fun (W : World) (hb : Hid (Below W0.heap.size W0 W)) => (HC2 W (HB.out.trans (hb.out.mono HB.out.size))).mono (R' := fun e w' => e = .returned (.int .i64 (kb : Nat)) ∧ (w'.cell? ⟨w.heap.size, 0, none⟩ = some (.string ⟨#[98, 105, 110]⟩) ∧ w'.cell? ⟨w.heap.size, 1, none⟩ = some (.string b) ∧ w'.cell? ⟨w.heap.size, 2, none⟩ = some (.int .i64 z) ∧ w'.cell? ⟨w.heap.size, 3, none⟩ = some (.int .i64 (md : Nat)) ∧ w'.cell? ⟨w.heap.size, 4, none⟩ = some (.slice o1 k1 c1) ∧ w'.cell? ⟨w.heap.size, 5, none⟩ = some (.slice o2 k2 c2) ∧ w'.cell? ⟨w.heap.size, 6, none⟩ = some (.slice (some ⟨blk, off, none⟩) 2 c3) ∧ w'.cell? ⟨blk, off, none⟩ = some (.string a') ∧ w'.cell? ⟨blk, off + 1, none⟩ = some (.string b') ∧ w'.cell? ⟨blk, off + 2, none⟩ = some (.int .i64 z') ∧ w'.cell? ⟨blk, off + 3, none⟩ = some (.int .i64 m') ∧ w'.cell? ⟨blk, off + 4, none⟩ = some (.slice o1' k1' c1') ∧ w'.cell? ⟨blk, off + 5, none⟩ = some (.slice o2' k2' c2') ∧ w'.cell? ⟨blk, off + 6, none⟩ = some (.slice o3' k3' c3') ∧ w'.cell? ⟨blk, off + 7, none⟩ = some (.string a'') ∧ w'.cell? ⟨blk, off + 7 + 1, none⟩ = some (.string b'') ∧ w'.cell? ⟨blk, off + 7 + 2, none⟩ = some (.int .i64 z'') ∧ w'.cell? ⟨blk, off + 7 + 3, none⟩ = some (.int .i64 m'') ∧ w'.cell? ⟨blk, off + 7 + 4, none⟩ = some (.slice o1'' k1'' c1'') ∧ w'.cell? ⟨blk, off + 7 + 5, none⟩ = some (.slice o2'' k2'' c2'') ∧ w'.cell? ⟨blk, off + 7 + 6, none⟩ = some (.slice o3'' k3'' c3'')) ∧ Hid (Below W0.heap.size W0 w')) (fun e w' q => have hq := hb.out.trans (q.2.mono hb.out.size); ⟨q.1, HKS.out w' hq, hq⟩))
  obtain ⟨r0, r1, r2, r3, r4, r5, r6, r7, r8, r9, r10, r11, r12, r13, r14, r15, r16, r17, r18, r19, r20⟩ := HKS.out W0 (Below.refl _ _)
  have rb := Lib.hid (show Below W0.heap.size W0 W0.drew from (Below.refl _ _).drew)
  have HW0 := Lib.hid hW0
  clear hW0 HC1 HC2 d0 d1 d2 d3 d4 d5 d6 e0 e1 e2 e3 e4 e5 e6
  go_enter Tryz.func23, Tryz.ntmps23
  go_wp2_with fail
  rw [show w.alloc (Obj.cells #[.string ⟨#[98, 105, 110]⟩, .string b, .int .i64 z, .int .i64 (md : Nat), .slice o1 k1 c1, .slice o2 k2 c2, .slice (some ⟨blk, off, none⟩) 2 c3] 27) = W0 from HW0.out]
  go_cut [4, 5] from 66 to 75 (fun u4 u5 wx => u4 = .int .i64 (ka : Nat) ∧ u5 = .int .i64 (kb : Nat) ∧ Hid (Below W0.heap.size W0 wx))
  case first =>
    go_region_held3 (fun w' => w'.cell? ⟨w.heap.size, 0, none⟩ = some (.string ⟨#[98, 105, 110]⟩) ∧ w'.cell? ⟨w.heap.size, 1, none⟩ = some (.string b) ∧ w'.cell? ⟨w.heap.size, 2, none⟩ = some (.int .i64 z) ∧ w'.cell? ⟨w.heap.size, 3, none⟩ = some (.int .i64 (md : Nat)) ∧ w'.cell? ⟨w.heap.size, 4, none⟩ = some (.slice o1 k1 c1) ∧ w'.cell? ⟨w.heap.size, 5, none⟩ = some (.slice o2 k2 c2) ∧ w'.cell? ⟨w.heap.size, 6, none⟩ = some (.slice (some ⟨blk, off, none⟩) 2 c3) ∧ w'.cell? ⟨blk, off, none⟩ = some (.string a') ∧ w'.cell? ⟨blk, off + 1, none⟩ = some (.string b') ∧ w'.cell? ⟨blk, off + 2, none⟩ = some (.int .i64 z') ∧ w'.cell? ⟨blk, off + 3, none⟩ = some (.int .i64 m') ∧ w'.cell? ⟨blk, off + 4, none⟩ = some (.slice o1' k1' c1') ∧ w'.cell? ⟨blk, off + 5, none⟩ = some (.slice o2' k2' c2') ∧ w'.cell? ⟨blk, off + 6, none⟩ = some (.slice o3' k3' c3') ∧ w'.cell? ⟨blk, off + 7, none⟩ = some (.string a'') ∧ w'.cell? ⟨blk, off + 7 + 1, none⟩ = some (.string b'') ∧ w'.cell? ⟨blk, off + 7 + 2, none⟩ = some (.int .i64 z'') ∧ w'.cell? ⟨blk, off + 7 + 3, none⟩ = some (.int .i64 m'') ∧ w'.cell? ⟨blk, off + 7 + 4, none⟩ = some (.slice o1'' k1'' c1'') ∧ w'.cell? ⟨blk, off + 7 + 5, none⟩ = some (.slice o2'' k2'' c2'') ∧ w'.cell? ⟨blk, off + 7 + 6, none⟩ = some (.slice o3'' k3'' c3'')) (first | exact ⟨s0, s1, s2, s3, s4, s5, s6, s7, s8, s9, s10, s11, s12, s13, s14, s15, s16, s17, s18, s19, s20⟩ | exact ⟨r0, r1, r2, r3, r4, r5, r6, r7, r8, r9, r10, r11, r12, r13, r14, r15, r16, r17, r18, r19, r20⟩) (first
      | (go_at_call 23; go_fit (CA.out _ rb); rintro e wq ⟨rfl, ⟨s0, s1, s2, s3, s4, s5, s6, s7, s8, s9, s10, s11, s12, s13, s14, s15, s16, s17, s18, s19, s20⟩, sb⟩)
      | (go_at_call 23; go_fit (CA.out _ sb); rintro e wq ⟨rfl, ⟨s0, s1, s2, s3, s4, s5, s6, s7, s8, s9, s10, s11, s12, s13, s14, s15, s16, s17, s18, s19, s20⟩, sb⟩)
      | (go_at_call 23; go_fit (CB.out _ rb); rintro e wq ⟨rfl, ⟨s0, s1, s2, s3, s4, s5, s6, s7, s8, s9, s10, s11, s12, s13, s14, s15, s16, s17, s18, s19, s20⟩, sb⟩)
      | (go_at_call 23; go_fit (CB.out _ sb); rintro e wq ⟨rfl, ⟨s0, s1, s2, s3, s4, s5, s6, s7, s8, s9, s10, s11, s12, s13, s14, s15, s16, s17, s18, s19, s20⟩, sb⟩))
    all_goals go_wp2_with fail
    all_goals go_meet
    all_goals exact ⟨rfl, rfl, sb⟩
  case rest =>
    obtain ⟨rfl, rfl, hb6⟩ := hcut
    clear CA CB rb r0 r1 r2 r3 r4 r5 r6 r7 r8 r9 r10 r11 r12 r13 r14 r15 r16 r17 r18 r19 r20
    rename World => wc
    obtain ⟨p0, p1, p2, p3, p4, p5, p6, -⟩ := HKS.out wc hb6.out
    have HE := Lib.hid (HB.out.trans (hb6.out.mono HB.out.size))
    clear HKS HSZ HW0
    have hcase : (ka = 0 ∨ ka = 1 ∨ ka = 2 ∨ ka = 3) ∧ (kb = 0 ∨ kb = 1 ∨ kb = 2 ∨ kb = 3) := by omega
    clear ha hb
    by_cases hmd : md = 0
    · subst hmd
      obtain ⟨rfl | rfl | rfl | rfl, rfl | rfl | rfl | rfl⟩ := hcase
      all_goals
        go_wp2
        go_ret
        exact ⟨rfl, HE.out⟩
    · have j1 : (md : Int) > 0 := by omega
      have HT := Lib.hid (fun a b => (show twoK md a b = if a = 2 ∧ b = 2 then 2 else 0 by
        unfold twoK
        by_cases h : a = 2 ∧ b = 2
        · rw [if_neg (by omega), if_pos h, if_pos h]
        · rw [if_neg h, if_neg h, if_pos hmd]; simp))
      clear hmd
      obtain ⟨rfl | rfl | rfl | rfl, rfl | rfl | rfl | rfl⟩ := hcase
      all_goals
        go_wp2
        go_ret
        exact ⟨by rw [HT.out]; rfl, HE.out⟩


theorem rof_any : ∀ (n : Nat) (x : Ex), countE x ≤ n → DeC 23 kindE x
  | 0, x, h => by cases x <;> simp [countE] at h
  | n + 1, x, hx => by
    intro P w a b z m o1 k1 c1 o2 k2 c2 o3 k3 c3 hN
    obtain ⟨⟨ea, eb, ez, em⟩, ⟨l1, l2, l3⟩, s1, s2, css, h4, s3, hk⟩ := hN.open7
    have hcl : css.length = (kidsE x).length := h4.trans l3.symm
    have hlow : ∀ (y : Ex), y ∈ kidsE x → countE y ≤ n := fun y hy => by have := kids_lt hy; omega
    cases x with
    | num v =>
      obtain rfl := ea
      exact rof_num _ _ _ _ _ _ _ _ _ _ _ _ w
    | sel mt v ms =>
      obtain rfl := ea
      have hz : z = (v : Nat) := ez
      rw [kindE]
      by_cases hv : 0 < v
      · rw [if_pos hv]
        exact rof_range _ _ _ _ _ _ _ _ _ _ _ _ w (by omega)
      · rw [if_neg hv]
        exact rof_sel _ _ _ _ _ _ _ _ _ _ _ _ w (by omega)
    | neg y =>
      obtain rfl := ea
      obtain ⟨blk, off, rfl, hl, a', b', z', m', o1', k1', c1', o2', k2', c2', o3', k3', c3', hn, d0, d1, d2, d3, d4, d5, d6⟩ := kid_at s3 hcl hk (j := 0) (y := y) rfl
      obtain rfl : 1 = k3 := l3
      simp only [Nat.zero_mul, Nat.add_zero] at d0 d1 d2 d3 d4 d5 d6
      exact rof_neg b z m o1 k1 c1 o2 k2 c2 c3 w a' b' z' m' o1' k1' c1' o2' k2' c2' o3' k3' c3' blk off hl d0 d1 d2 d3 d4 d5 d6 (kindE y) (kindE_le y) (fun W hb => rof_any n y (hlow y (by simp [kidsE])) P W _ _ _ _ _ _ _ _ _ _ _ _ _ (hn.under hb))
    | fn nm y =>
      obtain rfl := ea
      obtain ⟨blk, off, rfl, hl, a', b', z', m', o1', k1', c1', o2', k2', c2', o3', k3', c3', hn, d0, d1, d2, d3, d4, d5, d6⟩ := kid_at s3 hcl hk (j := 0) (y := y) rfl
      obtain rfl : 1 = k3 := l3
      simp only [Nat.zero_mul, Nat.add_zero] at d0 d1 d2 d3 d4 d5 d6
      exact rof_fn b z m o1 k1 c1 o2 k2 c2 c3 w a' b' z' m' o1' k1' c1' o2' k2' c2' o3' k3' c3' blk off hl d0 d1 d2 d3 d4 d5 d6 (kindE y) (kindE_le y) (fun W hb => rof_any n y (hlow y (by simp [kidsE])) P W _ _ _ _ _ _ _ _ _ _ _ _ _ (hn.under hb))
    | agg nm v md names y =>
      obtain rfl := ea
      obtain rfl := eb
      have hz : z = (v : Nat) := ez
      subst hz
      obtain ⟨blk, off, rfl, hl, a', b', z', m', o1', k1', c1', o2', k2', c2', o3', k3', c3', hn, d0, d1, d2, d3, d4, d5, d6⟩ := kid_at s3 hcl hk (j := 0) (y := y) rfl
      obtain rfl : 1 = k3 := l3
      simp only [Nat.zero_mul, Nat.add_zero] at d0 d1 d2 d3 d4 d5 d6
      exact rof_agg _ v m o1 k1 c1 o2 k2 c2 c3 w a' b' z' m' o1' k1' c1' o2' k2' c2' o3' k3' c3' blk off hl d0 d1 d2 d3 d4 d5 d6 (kindE y) (kindE_le y) (fun W hb => rof_any n y (hlow y (by simp [kidsE])) P W _ _ _ _ _ _ _ _ _ _ _ _ _ (hn.under hb))
    | bin op md names l r =>
      obtain rfl := ea
      have hm : m = (md : Nat) := em
      subst hm
      obtain ⟨blk, off, rfl, hl, a', b', z', m', o1', k1', c1', o2', k2', c2', o3', k3', c3', hn, d0, d1, d2, d3, d4, d5, d6⟩ := kid_at s3 hcl hk (j := 0) (y := l) rfl
      obtain ⟨blk2, off2, hoo, hl2, a'', b'', z'', m'', o1'', k1'', c1'', o2'', k2'', c2'', o3'', k3'', c3'', hn2, e0, e1, e2, e3, e4, e5, e6⟩ := kid_at s3 hcl hk (j := 1) (y := r) rfl
      injection hoo with hoo
      injection hoo with h1 h2 _
      subst h1; subst h2
      obtain rfl : 2 = k3 := l3
      simp only [Nat.zero_mul, Nat.add_zero, Nat.one_mul] at d0 d1 d2 d3 d4 d5 d6 e0 e1 e2 e3 e4 e5 e6
      exact rof_two b z md o1 k1 c1 o2 k2 c2 c3 w a' b' z' m' o1' k1' c1' o2' k2' c2' o3' k3' c3' a'' b'' z'' m'' o1'' k1'' c1'' o2'' k2'' c2'' o3'' k3'' c3'' blk off hl d0 d1 d2 d3 d4 d5 d6 e0 e1 e2 e3 e4 e5 e6 (kindE l) (kindE r) (kindE_le l) (kindE_le r) (fun W hb => rof_any n l (hlow l (by simp [kidsE])) P W _ _ _ _ _ _ _ _ _ _ _ _ _ (hn.under hb)) (fun W hb => rof_any n r (hlow r (by simp [kidsE])) P W _ _ _ _ _ _ _ _ _ _ _ _ _ (hn2.under hb))
end Go.Proofs.YtddglepimbfdkaaGreatDoor.Knd
