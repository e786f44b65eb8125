/- Queries are written: names, matchers, functions, aggregations, selectors. -/
import Derived.Test.YtddglepimbfdkaaGreatDoorNw
import Derived.Test.YtddglepimbfdkaaGreatDoorNn
import Derived.Test.YtddglepimbfdkaaGreatDoorShelfP
namespace Go.Proofs.YtddglepimbfdkaaGreatDoor.Par
open Go.RowKit Go.Lib
open Go.Proofs.YtddglepimbfdkaaGreatDoor.Sto

set_option maxHeartbeats 4000000 in
set_option maxRecDepth 100000 in
theorem modeWord_one (s t : ByteArray) (w : World) : Calls Tryz.prog 160 #[.int .i64 1, .string s, .string t] w fun e w' => e = .returned (.string s) ∧ w = w' := by
  go_enter Tryz.func160, Tryz.ntmps160
  go_wp2
  go_ret
  exact ⟨rfl, rfl⟩
set_option maxHeartbeats 4000000 in
set_option maxRecDepth 100000 in
theorem modeWord_two (s t : ByteArray) (w : World) : Calls Tryz.prog 160 #[.int .i64 2, .string s, .string t] w fun e w' => e = .returned (.string t) ∧ w = w' := by
  go_enter Tryz.func160, Tryz.ntmps160
  go_wp2
  go_ret
  exact ⟨rfl, rfl⟩
theorem join_comma : ∀ l : List ByteArray, Lib.join (l.map (·.data.toList)) [44] = commaN l
  | [] => Lib.join_nil _
  | [x] => Lib.join_one _ _
  | x :: y :: l => by
    rw [List.map_cons, Lib.join_cons]
    show _ = x.data.toList ++ 44 :: commaN (y :: l)
    rw [← join_comma (y :: l), List.map_cons, Lib.join_cons]
    simp [Lib.joinTail]
theorem join_pen {W0 w : World} {b : Nat} {acc : List UInt8} (names : List ByteArray) (hg : GoodN names) (o : Option Addr) (k c : Nat) (P : Nat → Prop) (hl : names.length = k) (hk : k ≤ c) (hm : k ≤ 1000000) (hs : SeesR W0 P o 1 (names.map encN)) (hp : Pen W0 b acc w) :
    Calls Tryz.prog 161 #[.slice o k c, .string ⟨#[44]⟩] w fun e w' => e = .returned (.string ⟨(commaN names).toArray⟩) ∧ Pen W0 b acc w' ∧ Lib.OthersKept 5 (some b) w w' := by
  subst hl
  by_cases h0 : names = []
  · subst h0
    refine (Tryz.strings_Join_none o c ⟨#[44]⟩ w).mono fun e w' ⟨he, hw⟩ => ?_
    subst hw
    exact ⟨he, hp, kept_refl _ _⟩
  · rcases hs with hs | ⟨bb, off, rfl, _, hl, hc⟩
    · exact absurd (List.map_eq_nil_iff.1 hs) h0
    · have hlen := commaN_len names hg
      refine (Tryz.strings_Join bb off c names ⟨#[44]⟩ w (fun j x hj => ?_) (Nat.lt_of_lt_of_le hl hp.bel.size) (by omega) hk (by rw [show (⟨#[44]⟩ : ByteArray).data.toList = [44] from rfl, join_comma]; omega)).mono fun e w' ⟨he, hb⟩ => ?_
      · have h1 := hc j (encN x) (by rw [List.getElem?_map, hj]; rfl) 0 _ rfl
        rw [Nat.mul_one, Nat.add_zero] at h1
        exact (hp.bel.cell (p := ⟨bb, off + j, none⟩) hl).trans h1
      · rw [show (⟨#[44]⟩ : ByteArray).data.toList = [44] from rfl, join_comma] at he
        exact ⟨he, hp.below hb, kept_of_below _ hb⟩

set_option maxHeartbeats 4000000 in
set_option maxRecDepth 100000 in
theorem closed_any (y : Ex) (H : WriteC y) (W0 w : World) (P : Nat → Prop) (b : Nat) (acc : List UInt8) (bb off c3 : Nat) (a0 b0 : ByteArray) (z0 m0 : Int) (p0 : Option Addr) (j0 d0 : Nat) (s0 : Option Addr) (t0 u0 : Nat) (v0 : Option Addr) (x0 y0 : Nat) (hy : Nod W0 P [.string a0, .string b0, .int .i64 z0, .int .i64 m0, .slice p0 j0 d0, .slice s0 t0 u0, .slice v0 x0 y0] y) (hbl : bb < W0.heap.size) (hg : W0.cell? ⟨bb, off, none⟩ = some (.string a0) ∧ W0.cell? ⟨bb, off + 1, none⟩ = some (.string b0) ∧ W0.cell? ⟨bb, off + 2, none⟩ = some (.int .i64 z0) ∧ W0.cell? ⟨bb, off + 3, none⟩ = some (.int .i64 m0) ∧ W0.cell? ⟨bb, off + 4, none⟩ = some (.slice p0 j0 d0) ∧ W0.cell? ⟨bb, off + 5, none⟩ = some (.slice s0 t0 u0) ∧ W0.cell? ⟨bb, off + 6, none⟩ = some (.slice v0 x0 y0)) (hp : Pen W0 b acc w) (hf : acc.length + (nodeL y).length + 1 ≤ 100000000000000) :
    Calls Tryz.prog 116 #[.pointer (some ⟨b, 0, none⟩), .slice (some ⟨bb, off, none⟩) 1 c3] w (Wrote W0 b acc (nodeL y ++ [41]) w) := by
  obtain ⟨g0, g1, g2, g3, g4, g5, g6⟩ := hg
  have HG := Lib.hid (fun W (h : Below W0.heap.size W0 W) => (⟨(h.cell (p := ⟨bb, off, none⟩) hbl).trans g0, (h.cell (p := ⟨bb, off + 1, none⟩) hbl).trans g1, (h.cell (p := ⟨bb, off + 2, none⟩) hbl).trans g2, (h.cell (p := ⟨bb, off + 3, none⟩) hbl).trans g3, (h.cell (p := ⟨bb, off + 4, none⟩) hbl).trans g4, (h.cell (p := ⟨bb, off + 5, none⟩) hbl).trans g5, (h.cell (p := ⟨bb, off + 6, none⟩) hbl).trans g6⟩ : W.cell? ⟨bb, off, none⟩ = some (.string a0) ∧ W.cell? ⟨bb, off + 1, none⟩ = some (.string b0) ∧ W.cell? ⟨bb, off + 2, none⟩ = some (.int .i64 z0) ∧ W.cell? ⟨bb, off + 3, none⟩ = some (.int .i64 m0) ∧ W.cell? ⟨bb, off + 4, none⟩ = some (.slice p0 j0 d0) ∧ W.cell? ⟨bb, off + 5, none⟩ = some (.slice s0 t0 u0) ∧ W.cell? ⟨bb, off + 6, none⟩ = some (.slice v0 x0 y0)))
  have ha := hy.view.1.1
  subst ha
  have H1 := Lib.hid (fun W => partOf_any y b0 z0 m0 p0 j0 d0 s0 t0 u0 v0 x0 y0 W)
  have H2 := Lib.hid (fun W (hp : Pen W0 b acc W) => H W0 W P b acc (opE y) b0 z0 m0 p0 j0 d0 s0 t0 u0 v0 x0 y0 hy hp (by omega))
  have HF := Lib.hid (show (acc ++ nodeL y).length + 1 ≤ 100000000000000 by rw [List.length_append]; omega)
  have HE := Lib.hid (show acc ++ nodeL y ++ [41] = acc ++ (nodeL y ++ [41]) by simp)
  have HP := Lib.hid hp
  generalize opE y = a0 at H1 H2 HG
  generalize tagE y = T at H1 H2
  generalize nodeL y = L at H2 HF HE ⊢
  clear g0 g1 g2 g3 g4 g5 g6 hy hp hf H
  go_enter Tryz.func116, Tryz.ntmps116
  go_wp2
  go_loopw [8] (fun v8 wr => ∃ k : Nat, v8 = .int .i64 k ∧ k ≤ 1 ∧ Hid (Pen W0 b (if k = 0 then acc else acc ++ L) wr) ∧ Hid (Lib.OthersKept 5 (some b) w wr)) (fun v8 _ => 1 - (Go.RowKit.intOf v8).toNat)
  case atStart => exact ⟨0, rfl, by decide, HP, kept_refl _ _⟩
  case round =>
    obtain ⟨k, rfl, hk, HPk, HKk⟩ := hrel
    by_cases hlt : k = 0
    · subst hlt
      have hpk : Pen W0 b acc wr := HPk.out
      obtain ⟨g0, g1, g2, g3, g4, g5, g6⟩ := HG.out wr hpk.bel
      have HPA := Lib.hid (hpk.alloc (Obj.cells #[.string a0, .string b0, .int .i64 z0, .int .i64 m0, .slice p0 j0 d0, .slice s0 t0 u0, .slice v0 x0 y0] 27))
      have HKA := Lib.hid (HKk.out.alloc (Obj.cells #[.string a0, .string b0, .int .i64 z0, .int .i64 m0, .slice p0 j0 d0, .slice s0 t0 u0, .slice v0 x0 y0] 27))
      clear hpk
      go_wp2_with fail
      refine (H1.out _).mono ?_
      rintro e w2 ⟨rfl, b2⟩
      have HP2 := Lib.hid (HPA.out.below b2)
      have HK2 := Lib.hid (HKA.out.trans (kept_of_below (some b) b2))
      clear b2
      go_wp2_with fail
      refine (H2.out w2 HP2.out).mono ?_
      rintro e w3 ⟨rfl, hp3, hk3⟩
      have HP3 := Lib.hid hp3
      have HK3 := Lib.hid (HK2.out.trans hk3)
      clear hp3 hk3
      go_wp2
      go_roundw
      case rel => exact ⟨1, by go_num, Nat.le_refl _, HP3, HK3⟩
      case measure => simp [Go.RowKit.intOf]
    · have hk1 : k = 1 := by omega
      subst hk1
      have HP3 := Lib.hid (show Pen W0 b (acc ++ L) wr from HPk.out)
      have HS := Lib.hid (byte_any 41 HP3.out HF.out)
      go_wp2_with fail
      refine HS.out.mono ?_
      rintro e w4 ⟨rfl, hp4, hk4⟩
      have HP4 := Lib.hid (show Pen W0 b (acc ++ (L ++ [41])) w4 by rw [← HE.out]; exact hp4)
      have HK4 := Lib.hid (HKk.out.trans hk4)
      clear hp4 hk4
      go_wp2
      first | go_end0 | ((try simp only [Exit.inBlock, Exit.then]); refine bodyPost_ret (results_none rfl _ _ _) rfl ?_)
      exact ⟨rfl, HP4.out, HK4.out⟩

set_option maxHeartbeats 4000000 in
set_option maxRecDepth 100000 in
theorem write_fn (name : ByteArray) (y : Ex) (H : WriteC y) : WriteC (.fn name y) := by
  intro W0 w P b acc a tx z m o1 k1 c1 o2 k2 c2 o3 k3 c3 hn hp hf
  obtain ⟨⟨-, etx, -, -⟩, ⟨-, -, e3⟩, -, -, css, hcl, hs3, hk3⟩ := hn.view
  simp only [textE] at etx
  have etx := etx.symm
  subst etx
  simp only [kidsE, List.length_cons, List.length_nil, Nat.zero_add] at e3
  subst e3
  obtain ⟨bb, off, rfl, hbl, a0, b0, z0, m0, p0, j0, d0, s0, t0, u0, v0, x0, y0, hy, g0, g1, g2, g3, g4, g5, g6⟩ := kids_at hs3 hk3 (by rw [hcl]; rfl) 0 y rfl
  simp only [Nat.zero_mul, Nat.add_zero] at g0 g1 g2 g3 g4 g5 g6
  have hL : nodeL (.fn name y) = name.data.toList ++ (40 :: (nodeL y ++ [41])) := rfl
  rw [hL] at hf ⊢
  have hnz : name.size = name.data.toList.length := by rw [Array.length_toList]; rfl
  simp only [List.length_append, List.length_cons, List.length_nil] at hf
  have hnb : name.size ≤ 100000000000000 := by omega
  have hsp : (name ++ (⟨#[40]⟩ : ByteArray)).data.toList = name.data.toList ++ [40] := by rw [ByteArray.data_append, Array.toList_append]
  have HF1 := Lib.hid (show acc.length + (name ++ (⟨#[40]⟩ : ByteArray)).size ≤ 100000000000000 by rw [Lib.size_eq, hsp]; simp only [List.length_append, List.length_cons, List.length_nil]; omega)
  have HE := Lib.hid (show acc ++ (name ++ (⟨#[40]⟩ : ByteArray)).data.toList ++ (nodeL y ++ [41]) = acc ++ (name.data.toList ++ (40 :: (nodeL y ++ [41]))) by rw [hsp]; simp)
  have HC := Lib.hid (fun W (hp : Pen W0 b (acc ++ (name ++ (⟨#[40]⟩ : ByteArray)).data.toList) W) => closed_any y H W0 W P b _ bb off c3 a0 b0 z0 m0 p0 j0 d0 s0 t0 u0 v0 x0 y0 hy hbl ⟨g0, g1, g2, g3, g4, g5, g6⟩ hp (by rw [hsp]; simp only [List.length_append, List.length_cons, List.length_nil]; omega))
  have HP := Lib.hid hp
  have HB0 := Lib.hid (Nat.ne_of_gt hp.lt)
  generalize nodeL y = L at HE HC ⊢
  simp only [tagE]
  have T0 := no_fn_num
  have T1 := no_fn_neg
  have T2 := no_fn_bin
  have T3 := no_fn_agg
  have T4 := is_fn
  have T5 := no_fn_sel
  have HZ := Lib.hid hp.lt
  clear hn hp hf H hL hs3 hk3 hcl hy g0 g1 g2 g3 g4 g5 g6 hsp hnz
  obtain ⟨w4, hw4⟩ : ∃ w4, ((((w.alloc (Obj.cells #[.string ⟨#[]⟩, .string ⟨#[]⟩, .int .i64 0, .int .i64 0, .slice none 0 0, .slice none 0 0, .slice none 0 0] 138)).alloc (Obj.cells #[.string ⟨#[]⟩, .string ⟨#[]⟩, .int .i64 0, .int .i64 0, .slice none 0 0, .slice none 0 0, .slice none 0 0] 140)).alloc (Obj.cells #[.string ⟨#[]⟩, .string ⟨#[]⟩, .int .i64 0, .int .i64 0, .slice none 0 0, .slice none 0 0, .slice none 0 0] 143)).alloc (Obj.cells #[.string ⟨#[]⟩, .string ⟨#[]⟩, .int .i64 0, .int .i64 0, .slice none 0 0, .slice none 0 0, .slice none 0 0] 145)) = w4 := ⟨_, rfl⟩
  have HW4 := Lib.hid (show Pen W0 b acc (w4.alloc (Obj.cells #[.string a, .string name, .int .i64 z, .int .i64 m, .slice o1 k1 c1, .slice o2 k2 c2, .slice (some ⟨bb, off, none⟩) 1 c3] 147)) ∧ Lib.OthersKept 5 (some b) w (w4.alloc (Obj.cells #[.string a, .string name, .int .i64 z, .int .i64 m, .slice o1 k1 c1, .slice o2 k2 c2, .slice (some ⟨bb, off, none⟩) 1 c3] 147)) by
    rw [← hw4]; exact ⟨(((((HP.out.alloc _).alloc _).alloc _).alloc _).alloc _), ((((((kept_refl b w).alloc _).alloc _).alloc _).alloc _).alloc _)⟩)
  have hne : w4.heap.size ≠ b := by
    have h1 : w.heap.size ≤ w4.heap.size := by rw [← hw4]; simp; omega
    have := HZ.out; omega
  have HSZ := Lib.hid (show w4.heap.size = w.heap.size + 1 + 1 + 1 + 1 by rw [← hw4]; simp)
  have HS := Lib.hid (str_any (name ++ (⟨#[40]⟩ : ByteArray)) HW4.out.1 HF1.out)
  have hb2 := (show (w4.alloc (Obj.cells #[.string a, .string name, .int .i64 z, .int .i64 m, .slice o1 k1 c1, .slice o2 k2 c2, .slice (some ⟨bb, off, none⟩) 1 c3] 147)).heap[w4.heap.size]? = some (.cells #[.string a, .string name, .int .i64 z, .int .i64 m, .slice o1 k1 c1, .slice o2 k2 c2, .slice (some ⟨bb, off, none⟩) 1 c3] 147 (0, 0)) from Array.getElem?_push_size)
  have HKB := Lib.hid (fun W (h : Lib.OthersKept 5 (some b) (w4.alloc (Obj.cells #[.string a, .string name, .int .i64 z, .int .i64 m, .slice o1 k1 c1, .slice o2 k2 c2, .slice (some ⟨bb, off, none⟩) 1 c3] 147)) W) => cells7 (box_kept h hb2 (by decide) hne))
  have HW := Lib.hid hw4
  clear hb2 hne hw4
  go_enter Tryz.func44, Tryz.ntmps44
  go_wp2_with fail
  rw [show ((((w.alloc (Obj.cells #[.string ⟨#[]⟩, .string ⟨#[]⟩, .int .i64 0, .int .i64 0, .slice none 0 0, .slice none 0 0, .slice none 0 0] 138)).alloc (Obj.cells #[.string ⟨#[]⟩, .string ⟨#[]⟩, .int .i64 0, .int .i64 0, .slice none 0 0, .slice none 0 0, .slice none 0 0] 140)).alloc (Obj.cells #[.string ⟨#[]⟩, .string ⟨#[]⟩, .int .i64 0, .int .i64 0, .slice none 0 0, .slice none 0 0, .slice none 0 0] 143)).alloc (Obj.cells #[.string ⟨#[]⟩, .string ⟨#[]⟩, .int .i64 0, .int .i64 0, .slice none 0 0, .slice none 0 0, .slice none 0 0] 145)) = w4 from HW.out]
  refine HS.out.mono ?_
  rintro e w5 ⟨rfl, hp5, hk5⟩
  have HK5 := Lib.hid (HW4.out.2.trans hk5)
  obtain ⟨q0, q1, q2, q3, q4, q5, q6⟩ := HKB.out _ hk5
  rw [HSZ.out] at q0 q1 q2 q3 q4 q5 q6
  have HC5 := Lib.hid (HC.out w5 hp5)
  clear hp5 hk5
  go_wp2_with fail
  refine HC5.out.mono ?_
  rintro e w6 ⟨rfl, hp6, hk6⟩
  have HP6 := Lib.hid (show Pen W0 b (acc ++ (name.data.toList ++ (40 :: (L ++ [41])))) w6 by rw [← HE.out]; exact hp6)
  have HK6 := Lib.hid (HK5.out.trans hk6)
  clear q0 q1 q2 q3 q4 q5 q6 hp6 hk6
  go_wp2
  first | go_end0 | ((try simp only [Exit.inBlock, Exit.then]); refine bodyPost_ret (results_none rfl _ _ _) rfl ?_)
  exact ⟨rfl, HP6.out.alloc _, HK6.out.alloc _⟩
/-- A text that is written, as a list. -/
theorem strL_any {W0 w : World} {b : Nat} {acc : List UInt8} (S : ByteArray) (L : List UInt8) (hS : S.data.toList = L) (h : Pen W0 b acc w) (hl : acc.length + L.length ≤ 100000000000000) :
    Calls Tryz.prog 46 #[.pointer (some ⟨b, 0, none⟩), .string S] w fun e w' => (∃ n : Int, e = .returned (.tuple #[.int .i64 n, .nilIface])) ∧ Pen W0 b (acc ++ L) w' ∧ Lib.OthersKept 5 (some b) w w' := by
  subst hS
  exact (str_any S h (by rw [Lib.size_eq]; exact hl)).mono fun e w' ⟨h1, h2, h3⟩ => ⟨⟨_, h1⟩, h2, h3⟩
theorem full_bound {a c : List UInt8} {n : Nat} (h : a.length + c.length ≤ n) : (a ++ c).length ≤ n := by rw [List.length_append]; exact h

set_option maxHeartbeats 8000000 in
set_option maxRecDepth 100000 in
theorem agg_own0 (name : ByteArray) (n : Nat) (names : List ByteArray) (y : Ex) (hnn : n ≤ 1000000000000) (_hm : Mode 0 names) (H : WriteC y) : OwnC 115 (.agg name n 0 names y) := by
  intro W0 w P b acc a tx z m o1 k1 c1 o2 k2 c2 o3 k3 c3 hn hp hf
  have hcap := hn.cap
  obtain ⟨⟨-, etx, ez, em⟩, ⟨e1, -, e3⟩, hs1, -, css, hcl, hs3, hk3⟩ := hn.view
  simp only [textE] at etx
  simp only [nE] at ez
  simp only [modeE] at em
  simp only [namesE] at e1 hs1
  have etx := etx.symm
  subst etx
  have ez := ez.symm
  subst ez
  have em0 : m = 0 := em
  subst em0
  simp only [kidsE, List.length_cons, List.length_nil, Nat.zero_add] at e3
  subst e3
  obtain ⟨bb, off, rfl, hbl, a0, b0, z0, m0, p0, j0, d0, s0, t0, u0, v0, x0, y0, hy, g0, g1, g2, g3, g4, g5, g6⟩ := kids_at hs3 hk3 (by rw [hcl]; rfl) 0 y rfl
  simp only [Nat.zero_mul, Nat.add_zero] at g0 g1 g2 g3 g4 g5 g6
  have hL : nodeL (.agg name n 0 names y) = name.data.toList ++ ([] ++ (40 :: ((if numbB name.data.toList then decDigits n ++ [44] else []) ++ (nodeL y ++ [41])))) := rfl
  rw [hL] at hf ⊢
  obtain ⟨NB, hNB⟩ : ∃ v, (if numbB name.data.toList then decDigits n ++ [44] else []) = v := ⟨_, rfl⟩
  rw [hNB] at hf ⊢
  simp only [List.length_append, List.length_cons, List.length_nil] at hf
  have HE := Lib.hid (show (acc ++ name.data.toList) ++ [40] ++ NB ++ (nodeL y ++ [41]) = acc ++ (name.data.toList ++ ([] ++ (40 :: (NB ++ (nodeL y ++ [41]))))) by simp)
  have HF1 := Lib.hid (show acc.length + name.data.toList.length ≤ 100000000000000 by omega)
  have HF3 := Lib.hid (show (acc ++ name.data.toList).length + 1 ≤ 100000000000000 by simp only [List.length_append]; omega)
  have HF4 := Lib.hid (show ((acc ++ name.data.toList) ++ [40]).length + NB.length ≤ 100000000000000 by simp only [List.length_append, List.length_cons, List.length_nil]; omega)
  have HC := Lib.hid (fun W (hp : Pen W0 b ((acc ++ name.data.toList) ++ [40] ++ NB) W) => closed_any y H W0 W P b _ bb off c3 a0 b0 z0 m0 p0 j0 d0 s0 t0 u0 v0 x0 y0 hy hbl ⟨g0, g1, g2, g3, g4, g5, g6⟩ hp (by simp only [List.length_append, List.length_cons, List.length_nil]; omega))
  have HP := Lib.hid (hp.alloc (Obj.cells #[.string a, .string name, .int .i64 (n : Nat), .int .i64 0, .slice o1 k1 c1, .slice o2 k2 c2, .slice (some ⟨bb, off, none⟩) 1 c3] 145))
  have HK := Lib.hid ((kept_refl b w).alloc (Obj.cells #[.string a, .string name, .int .i64 (n : Nat), .int .i64 0, .slice o1 k1 c1, .slice o2 k2 c2, .slice (some ⟨bb, off, none⟩) 1 c3] 145))
  have hne : w.heap.size ≠ b := Nat.ne_of_gt hp.lt
  have hbx := (show (w.alloc (Obj.cells #[.string a, .string name, .int .i64 (n : Nat), .int .i64 0, .slice o1 k1 c1, .slice o2 k2 c2, .slice (some ⟨bb, off, none⟩) 1 c3] 145)).heap[w.heap.size]? = some (.cells #[.string a, .string name, .int .i64 (n : Nat), .int .i64 0, .slice o1 k1 c1, .slice o2 k2 c2, .slice (some ⟨bb, off, none⟩) 1 c3] 145 (0, 0)) from Array.getElem?_push_size)
  have HBX := Lib.hid (fun W (h : Lib.OthersKept 5 (some b) (w.alloc (Obj.cells #[.string a, .string name, .int .i64 (n : Nat), .int .i64 0, .slice o1 k1 c1, .slice o2 k2 c2, .slice (some ⟨bb, off, none⟩) 1 c3] 145)) W) => cells7 (box_kept h hbx (by decide) hne))
  have HNU := Lib.hid (fun W => numb_any name W)
  have HIT := Lib.hid (fun W A (hp : Pen W0 b A W) => itoaP n hnn hp)
  have hdl : (⟨(decDigits n).toArray⟩ : ByteArray).size ≤ 20 := by rw [size_arr]; have := dec_len n 13 (by omega) (by decide); omega
  obtain ⟨DN, hDN⟩ : ∃ J : ByteArray, (⟨(Lib.decDigits n).toArray⟩ : ByteArray) = J := ⟨_, rfl⟩
  have HDL := Lib.hid (show DN.data.toList = decDigits n by rw [← hDN])
  rw [hDN] at HIT hdl
  obtain ⟨nb, hnb⟩ : ∃ v, numbB name.data.toList = v := ⟨_, rfl⟩
  rw [hnb] at HNU hNB
  have HNB := Lib.hid hNB
  generalize nodeL y = L at HE HC ⊢
  clear hn hp hf H hL hs3 hk3 hcl hy g0 g1 g2 g3 g4 g5 g6 hbx hne hs1 e1 hcap _hm em hnn hDN hnb hNB
  go_enter Tryz.func115, Tryz.ntmps115
  have HS1 := Lib.hid (fun S hS => strL_any S name.data.toList hS HP.out HF1.out)
  go_wp2_with fail
  refine (HS1.out name rfl).mono ?_
  rintro e w1 ⟨⟨nn, rfl⟩, hp1, hk1⟩
  have HP1 := Lib.hid hp1
  have HK1 := Lib.hid hk1
  obtain ⟨q0, q1, q2, q3, q4, q5, q6⟩ := HBX.out _ hk1
  clear hp1 hk1
  have HM := Lib.hid (fun s t => modeWord_zero s t w1)
  go_wp2_with fail
  refine (HM.out _ _).mono ?_
  rintro e w2 ⟨rfl, rfl⟩
  clear q0 q1 q2 q3 q4 q5 q6
  have HS5 := Lib.hid (byte_any 40 HP1.out HF3.out)
  go_wp2_with fail
  refine HS5.out.mono ?_
  rintro e w5 ⟨rfl, hp5, hk5⟩
  have HP5 := Lib.hid hp5
  have HK5 := Lib.hid (HK1.out.trans hk5)
  obtain ⟨q0, q1, q2, q3, q4, q5, q6⟩ := HBX.out _ HK5.out
  clear hp5 hk5
  go_wp2_with fail
  refine (HNU.out w5).mono ?_
  rintro e w6 ⟨rfl, rfl⟩
  cases nb with
  | false =>
    have hN : [] = NB := HNB.out
    subst hN
    have HC5 := Lib.hid (HC.out w5 (by rw [List.append_nil]; exact HP5.out))
    go_wp2_with fail
    refine HC5.out.mono ?_
    rintro e w7 ⟨rfl, hp7, hk7⟩
    rw [HE.out] at hp7
    have HP7 := Lib.hid hp7
    have HK7 := Lib.hid (HK5.out.trans hk7)
    clear hp7 hk7 q0 q1 q2 q3 q4 q5 q6
    go_wp2
    first | go_end0 | ((try simp only [Exit.inBlock, Exit.then]); refine bodyPost_ret (results_none rfl _ _ _) rfl ?_)
    exact ⟨rfl, HP7.out, HK.out.trans HK7.out⟩
  | true =>
    have hN : decDigits n ++ [44] = NB := HNB.out
    subst hN
    go_wp2_with fail
    refine (HIT.out w5 _ HP5.out).mono ?_
    rintro e w7 ⟨rfl, hp7, hk7⟩
    have HP7 := Lib.hid hp7
    have HK7 := Lib.hid (HK5.out.trans hk7)
    have HS8 := Lib.hid (fun S hS => strL_any S (decDigits n ++ [44]) hS hp7 HF4.out)
    clear hp7 hk7 q0 q1 q2 q3 q4 q5 q6
    go_wp2_with fail
    refine (HS8.out _ (by simp only [ByteArray.data_append, Array.toList_append, HDL.out])).mono ?_
    rintro e w8 ⟨⟨nn, rfl⟩, hp8, hk8⟩
    have HP8 := Lib.hid hp8
    have HK8 := Lib.hid (HK7.out.trans hk8)
    obtain ⟨q0, q1, q2, q3, q4, q5, q6⟩ := HBX.out _ HK8.out
    clear hp8 hk8
    have HC8 := Lib.hid (HC.out w8 HP8.out)
    go_wp2_with fail
    refine HC8.out.mono ?_
    rintro e w9 ⟨rfl, hp9, hk9⟩
    rw [HE.out] at hp9
    have HP9 := Lib.hid hp9
    have HK9 := Lib.hid (HK8.out.trans hk9)
    clear hp9 hk9 q0 q1 q2 q3 q4 q5 q6
    go_wp2
    first | go_end0 | ((try simp only [Exit.inBlock, Exit.then]); refine bodyPost_ret (results_none rfl _ _ _) rfl ?_)
    exact ⟨rfl, HP9.out, HK.out.trans HK9.out⟩

set_option maxHeartbeats 8000000 in
set_option maxRecDepth 100000 in
theorem agg_own1 (name : ByteArray) (n : Nat) (names : List ByteArray) (y : Ex) (hnn : n ≤ 1000000000000) (hm : Mode 1 names) (H : WriteC y) : OwnC 115 (.agg name n 1 names y) := by
  intro W0 w P b acc a tx z m o1 k1 c1 o2 k2 c2 o3 k3 c3 hn hp hf
  have hcap := hn.cap
  obtain ⟨⟨-, etx, ez, em⟩, ⟨e1, -, e3⟩, hs1, -, css, hcl, hs3, hk3⟩ := hn.view
  simp only [textE] at etx
  simp only [nE] at ez
  simp only [modeE] at em
  simp only [namesE] at e1 hs1
  have etx := etx.symm
  subst etx
  have ez := ez.symm
  subst ez
  have em0 : m = 1 := em
  subst em0
  simp only [kidsE, List.length_cons, List.length_nil, Nat.zero_add] at e3
  subst e3
  obtain ⟨bb, off, rfl, hbl, a0, b0, z0, m0, p0, j0, d0, s0, t0, u0, v0, x0, y0, hy, g0, g1, g2, g3, g4, g5, g6⟩ := kids_at hs3 hk3 (by rw [hcl]; rfl) 0 y rfl
  simp only [Nat.zero_mul, Nat.add_zero] at g0 g1 g2 g3 g4 g5 g6
  have hL : nodeL (.agg name n 1 names y) = name.data.toList ++ ((32 :: (wBy ++ ([32, 40] ++ (commaN names ++ [41, 32])))) ++ (40 :: ((if numbB name.data.toList then decDigits n ++ [44] else []) ++ (nodeL y ++ [41])))) := rfl
  rw [hL] at hf ⊢
  obtain ⟨NB, hNB⟩ : ∃ v, (if numbB name.data.toList then decDigits n ++ [44] else []) = v := ⟨_, rfl⟩
  rw [hNB] at hf ⊢
  simp only [List.length_append, List.length_cons, List.length_nil] at hf
  have HE := Lib.hid (show (acc ++ name.data.toList ++ (32 :: (wBy ++ ([32, 40] ++ (commaN names ++ [41, 32]))))) ++ [40] ++ NB ++ (nodeL y ++ [41]) = acc ++ (name.data.toList ++ ((32 :: (wBy ++ ([32, 40] ++ (commaN names ++ [41, 32])))) ++ (40 :: (NB ++ (nodeL y ++ [41]))))) by simp)
  have HF1 := Lib.hid (show acc.length + name.data.toList.length ≤ 100000000000000 by omega)
  have HF2 := Lib.hid (show (acc ++ name.data.toList).length + (32 :: (wBy ++ ([32, 40] ++ (commaN names ++ [41, 32])))).length ≤ 100000000000000 by simp only [List.length_append, List.length_cons, List.length_nil]; omega)
  have HJ := Lib.hid (fun W A (hp : Pen W0 b A W) => join_pen names hm.2.2.1 o1 k1 c1 P e1 hcap (by rw [← e1]; exact hm.2.2.2) hs1 hp)
  have hjb : (⟨(commaN names).toArray⟩ : ByteArray).size ≤ 100000000000000 := by rw [size_arr]; omega
  obtain ⟨J, hJ⟩ : ∃ J : ByteArray, (⟨(commaN names).toArray⟩ : ByteArray) = J := ⟨_, rfl⟩
  have HJL := Lib.hid (show J.data.toList = commaN names by rw [← hJ])
  rw [hJ] at HJ hjb
  have HF3 := Lib.hid (show (acc ++ name.data.toList ++ (32 :: (wBy ++ ([32, 40] ++ (commaN names ++ [41, 32]))))).length + 1 ≤ 100000000000000 by simp only [List.length_append, List.length_cons, List.length_nil]; omega)
  have HF4 := Lib.hid (show ((acc ++ name.data.toList ++ (32 :: (wBy ++ ([32, 40] ++ (commaN names ++ [41, 32]))))) ++ [40]).length + NB.length ≤ 100000000000000 by simp only [List.length_append, List.length_cons, List.length_nil]; omega)
  have HC := Lib.hid (fun W (hp : Pen W0 b ((acc ++ name.data.toList ++ (32 :: (wBy ++ ([32, 40] ++ (commaN names ++ [41, 32]))))) ++ [40] ++ NB) W) => closed_any y H W0 W P b _ bb off c3 a0 b0 z0 m0 p0 j0 d0 s0 t0 u0 v0 x0 y0 hy hbl ⟨g0, g1, g2, g3, g4, g5, g6⟩ hp (by simp only [List.length_append, List.length_cons, List.length_nil]; omega))
  have HP := Lib.hid (hp.alloc (Obj.cells #[.string a, .string name, .int .i64 (n : Nat), .int .i64 1, .slice o1 k1 c1, .slice o2 k2 c2, .slice (some ⟨bb, off, none⟩) 1 c3] 145))
  have HK := Lib.hid ((kept_refl b w).alloc (Obj.cells #[.string a, .string name, .int .i64 (n : Nat), .int .i64 1, .slice o1 k1 c1, .slice o2 k2 c2, .slice (some ⟨bb, off, none⟩) 1 c3] 145))
  have hne : w.heap.size ≠ b := Nat.ne_of_gt hp.lt
  have hbx := (show (w.alloc (Obj.cells #[.string a, .string name, .int .i64 (n : Nat), .int .i64 1, .slice o1 k1 c1, .slice o2 k2 c2, .slice (some ⟨bb, off, none⟩) 1 c3] 145)).heap[w.heap.size]? = some (.cells #[.string a, .string name, .int .i64 (n : Nat), .int .i64 1, .slice o1 k1 c1, .slice o2 k2 c2, .slice (some ⟨bb, off, none⟩) 1 c3] 145 (0, 0)) from Array.getElem?_push_size)
  have HBX := Lib.hid (fun W (h : Lib.OthersKept 5 (some b) (w.alloc (Obj.cells #[.string a, .string name, .int .i64 (n : Nat), .int .i64 1, .slice o1 k1 c1, .slice o2 k2 c2, .slice (some ⟨bb, off, none⟩) 1 c3] 145)) W) => cells7 (box_kept h hbx (by decide) hne))
  have HNU := Lib.hid (fun W => numb_any name W)
  have HIT := Lib.hid (fun W A (hp : Pen W0 b A W) => itoaP n hnn hp)
  have hdl : (⟨(decDigits n).toArray⟩ : ByteArray).size ≤ 20 := by rw [size_arr]; have := dec_len n 13 (by omega) (by decide); omega
  obtain ⟨DN, hDN⟩ : ∃ J : ByteArray, (⟨(Lib.decDigits n).toArray⟩ : ByteArray) = J := ⟨_, rfl⟩
  have HDL := Lib.hid (show DN.data.toList = decDigits n by rw [← hDN])
  rw [hDN] at HIT hdl
  obtain ⟨nb, hnb⟩ : ∃ v, numbB name.data.toList = v := ⟨_, rfl⟩
  rw [hnb] at HNU hNB
  have HNB := Lib.hid hNB
  generalize nodeL y = L at HE HC ⊢
  clear hn hp hf H hL hs3 hk3 hcl hy g0 g1 g2 g3 g4 g5 g6 hbx hne hs1 e1 hcap hm em hnn hDN hnb hNB hJ
  go_enter Tryz.func115, Tryz.ntmps115
  have HS1 := Lib.hid (fun S hS => strL_any S name.data.toList hS HP.out HF1.out)
  go_wp2_with fail
  refine (HS1.out name rfl).mono ?_
  rintro e w1 ⟨⟨nn, rfl⟩, hp1, hk1⟩
  have HP1 := Lib.hid hp1
  have HK1 := Lib.hid hk1
  obtain ⟨q0, q1, q2, q3, q4, q5, q6⟩ := HBX.out _ hk1
  clear hp1 hk1
  have HM := Lib.hid (fun s t => modeWord_one s t w1)
  go_wp2_with fail
  refine (HM.out _ _).mono ?_
  rintro e w2 ⟨rfl, rfl⟩
  go_wp2_with fail
  refine (HJ.out _ _ HP1.out).mono ?_
  rintro e w3 ⟨rfl, hp3, hk3⟩
  have HP3 := Lib.hid hp3
  have HK3 := Lib.hid (HK1.out.trans hk3)
  clear hp3 hk3
  have HS3 := Lib.hid (fun S hS => strL_any S (32 :: (wBy ++ ([32, 40] ++ (commaN names ++ [41, 32])))) hS HP3.out HF2.out)
  go_wp2_with fail
  refine (HS3.out _ (by simp only [ByteArray.data_append, Array.toList_append, HJL.out]; simp [wBy])).mono ?_
  rintro e w4 ⟨⟨nn, rfl⟩, hp4, hk4⟩
  have HP4 := Lib.hid hp4
  have HK4 := Lib.hid (HK3.out.trans hk4)
  clear hp4 hk4 q0 q1 q2 q3 q4 q5 q6
  have HS5 := Lib.hid (byte_any 40 HP4.out HF3.out)
  go_wp2_with fail
  refine HS5.out.mono ?_
  rintro e w5 ⟨rfl, hp5, hk5⟩
  have HP5 := Lib.hid hp5
  have HK5 := Lib.hid (HK4.out.trans hk5)
  obtain ⟨q0, q1, q2, q3, q4, q5, q6⟩ := HBX.out _ HK5.out
  clear hp5 hk5
  go_wp2_with fail
  refine (HNU.out w5).mono ?_
  rintro e w6 ⟨rfl, rfl⟩
  cases nb with
  | false =>
    have hN : [] = NB := HNB.out
    subst hN
    have HC5 := Lib.hid (HC.out w5 (by rw [List.append_nil]; exact HP5.out))
    go_wp2_with fail
    refine HC5.out.mono ?_
    rintro e w7 ⟨rfl, hp7, hk7⟩
    rw [HE.out] at hp7
    have HP7 := Lib.hid hp7
    have HK7 := Lib.hid (HK5.out.trans hk7)
    clear hp7 hk7 q0 q1 q2 q3 q4 q5 q6
    go_wp2
    first | go_end0 | ((try simp only [Exit.inBlock, Exit.then]); refine bodyPost_ret (results_none rfl _ _ _) rfl ?_)
    exact ⟨rfl, HP7.out, HK.out.trans HK7.out⟩
  | true =>
    have hN : decDigits n ++ [44] = NB := HNB.out
    subst hN
    go_wp2_with fail
    refine (HIT.out w5 _ HP5.out).mono ?_
    rintro e w7 ⟨rfl, hp7, hk7⟩
    have HP7 := Lib.hid hp7
    have HK7 := Lib.hid (HK5.out.trans hk7)
    have HS8 := Lib.hid (fun S hS => strL_any S (decDigits n ++ [44]) hS hp7 HF4.out)
    clear hp7 hk7 q0 q1 q2 q3 q4 q5 q6
    go_wp2_with fail
    refine (HS8.out _ (by simp only [ByteArray.data_append, Array.toList_append, HDL.out])).mono ?_
    rintro e w8 ⟨⟨nn, rfl⟩, hp8, hk8⟩
    have HP8 := Lib.hid hp8
    have HK8 := Lib.hid (HK7.out.trans hk8)
    obtain ⟨q0, q1, q2, q3, q4, q5, q6⟩ := HBX.out _ HK8.out
    clear hp8 hk8
    have HC8 := Lib.hid (HC.out w8 HP8.out)
    go_wp2_with fail
    refine HC8.out.mono ?_
    rintro e w9 ⟨rfl, hp9, hk9⟩
    rw [HE.out] at hp9
    have HP9 := Lib.hid hp9
    have HK9 := Lib.hid (HK8.out.trans hk9)
    clear hp9 hk9 q0 q1 q2 q3 q4 q5 q6
    go_wp2
    first | go_end0 | ((try simp only [Exit.inBlock, Exit.then]); refine bodyPost_ret (results_none rfl _ _ _) rfl ?_)
    exact ⟨rfl, HP9.out, HK.out.trans HK9.out⟩

set_option maxHeartbeats 8000000 in
set_option maxRecDepth 100000 in
theorem agg_own2 (name : ByteArray) (n : Nat) (names : List ByteArray) (y : Ex) (hnn : n ≤ 1000000000000) (hm : Mode 2 names) (H : WriteC y) : OwnC 115 (.agg name n 2 names y) := by
  intro W0 w P b acc a tx z m o1 k1 c1 o2 k2 c2 o3 k3 c3 hn hp hf
  have hcap := hn.cap
  obtain ⟨⟨-, etx, ez, em⟩, ⟨e1, -, e3⟩, hs1, -, css, hcl, hs3, hk3⟩ := hn.view
  simp only [textE] at etx
  simp only [nE] at ez
  simp only [modeE] at em
  simp only [namesE] at e1 hs1
  have etx := etx.symm
  subst etx
  have ez := ez.symm
  subst ez
  have em0 : m = 2 := em
  subst em0
  simp only [kidsE, List.length_cons, List.length_nil, Nat.zero_add] at e3
  subst e3
  obtain ⟨bb, off, rfl, hbl, a0, b0, z0, m0, p0, j0, d0, s0, t0, u0, v0, x0, y0, hy, g0, g1, g2, g3, g4, g5, g6⟩ := kids_at hs3 hk3 (by rw [hcl]; rfl) 0 y rfl
  simp only [Nat.zero_mul, Nat.add_zero] at g0 g1 g2 g3 g4 g5 g6
  have hL : nodeL (.agg name n 2 names y) = name.data.toList ++ ((32 :: (wWithout ++ ([32, 40] ++ (commaN names ++ [41, 32])))) ++ (40 :: ((if numbB name.data.toList then decDigits n ++ [44] else []) ++ (nodeL y ++ [41])))) := rfl
  rw [hL] at hf ⊢
  obtain ⟨NB, hNB⟩ : ∃ v, (if numbB name.data.toList then decDigits n ++ [44] else []) = v := ⟨_, rfl⟩
  rw [hNB] at hf ⊢
  simp only [List.length_append, List.length_cons, List.length_nil] at hf
  have HE := Lib.hid (show (acc ++ name.data.toList ++ (32 :: (wWithout ++ ([32, 40] ++ (commaN names ++ [41, 32]))))) ++ [40] ++ NB ++ (nodeL y ++ [41]) = acc ++ (name.data.toList ++ ((32 :: (wWithout ++ ([32, 40] ++ (commaN names ++ [41, 32])))) ++ (40 :: (NB ++ (nodeL y ++ [41]))))) by simp)
  have HF1 := Lib.hid (show acc.length + name.data.toList.length ≤ 100000000000000 by omega)
  have HF2 := Lib.hid (show (acc ++ name.data.toList).length + (32 :: (wWithout ++ ([32, 40] ++ (commaN names ++ [41, 32])))).length ≤ 100000000000000 by simp only [List.length_append, List.length_cons, List.length_nil]; omega)
  have HJ := Lib.hid (fun W A (hp : Pen W0 b A W) => join_pen names hm.2.2.1 o1 k1 c1 P e1 hcap (by rw [← e1]; exact hm.2.2.2) hs1 hp)
  have hjb : (⟨(commaN names).toArray⟩ : ByteArray).size ≤ 100000000000000 := by rw [size_arr]; omega
  obtain ⟨J, hJ⟩ : ∃ J : ByteArray, (⟨(commaN names).toArray⟩ : ByteArray) = J := ⟨_, rfl⟩
  have HJL := Lib.hid (show J.data.toList = commaN names by rw [← hJ])
  rw [hJ] at HJ hjb
  have HF3 := Lib.hid (show (acc ++ name.data.toList ++ (32 :: (wWithout ++ ([32, 40] ++ (commaN names ++ [41, 32]))))).length + 1 ≤ 100000000000000 by simp only [List.length_append, List.length_cons, List.length_nil]; omega)
  have HF4 := Lib.hid (show ((acc ++ name.data.toList ++ (32 :: (wWithout ++ ([32, 40] ++ (commaN names ++ [41, 32]))))) ++ [40]).length + NB.length ≤ 100000000000000 by simp only [List.length_append, List.length_cons, List.length_nil]; omega)
  have HC := Lib.hid (fun W (hp : Pen W0 b ((acc ++ name.data.toList ++ (32 :: (wWithout ++ ([32, 40] ++ (commaN names ++ [41, 32]))))) ++ [40] ++ NB) W) => closed_any y H W0 W P b _ bb off c3 a0 b0 z0 m0 p0 j0 d0 s0 t0 u0 v0 x0 y0 hy hbl ⟨g0, g1, g2, g3, g4, g5, g6⟩ hp (by simp only [List.length_append, List.length_cons, List.length_nil]; omega))
  have HP := Lib.hid (hp.alloc (Obj.cells #[.string a, .string name, .int .i64 (n : Nat), .int .i64 2, .slice o1 k1 c1, .slice o2 k2 c2, .slice (some ⟨bb, off, none⟩) 1 c3] 145))
  have HK := Lib.hid ((kept_refl b w).alloc (Obj.cells #[.string a, .string name, .int .i64 (n : Nat), .int .i64 2, .slice o1 k1 c1, .slice o2 k2 c2, .slice (some ⟨bb, off, none⟩) 1 c3] 145))
  have hne : w.heap.size ≠ b := Nat.ne_of_gt hp.lt
  have hbx := (show (w.alloc (Obj.cells #[.string a, .string name, .int .i64 (n : Nat), .int .i64 2, .slice o1 k1 c1, .slice o2 k2 c2, .slice (some ⟨bb, off, none⟩) 1 c3] 145)).heap[w.heap.size]? = some (.cells #[.string a, .string name, .int .i64 (n : Nat), .int .i64 2, .slice o1 k1 c1, .slice o2 k2 c2, .slice (some ⟨bb, off, none⟩) 1 c3] 145 (0, 0)) from Array.getElem?_push_size)
  have HBX := Lib.hid (fun W (h : Lib.OthersKept 5 (some b) (w.alloc (Obj.cells #[.string a, .string name, .int .i64 (n : Nat), .int .i64 2, .slice o1 k1 c1, .slice o2 k2 c2, .slice (some ⟨bb, off, none⟩) 1 c3] 145)) W) => cells7 (box_kept h hbx (by decide) hne))
  have HNU := Lib.hid (fun W => numb_any name W)
  have HIT := Lib.hid (fun W A (hp : Pen W0 b A W) => itoaP n hnn hp)
  have hdl : (⟨(decDigits n).toArray⟩ : ByteArray).size ≤ 20 := by rw [size_arr]; have := dec_len n 13 (by omega) (by decide); omega
  obtain ⟨DN, hDN⟩ : ∃ J : ByteArray, (⟨(Lib.decDigits n).toArray⟩ : ByteArray) = J := ⟨_, rfl⟩
  have HDL := Lib.hid (show DN.data.toList = decDigits n by rw [← hDN])
  rw [hDN] at HIT hdl
  obtain ⟨nb, hnb⟩ : ∃ v, numbB name.data.toList = v := ⟨_, rfl⟩
  rw [hnb] at HNU hNB
  have HNB := Lib.hid hNB
  generalize nodeL y = L at HE HC ⊢
  clear hn hp hf H hL hs3 hk3 hcl hy g0 g1 g2 g3 g4 g5 g6 hbx hne hs1 e1 hcap hm em hnn hDN hnb hNB hJ
  go_enter Tryz.func115, Tryz.ntmps115
  have HS1 := Lib.hid (fun S hS => strL_any S name.data.toList hS HP.out HF1.out)
  go_wp2_with fail
  refine (HS1.out name rfl).mono ?_
  rintro e w1 ⟨⟨nn, rfl⟩, hp1, hk1⟩
  have HP1 := Lib.hid hp1
  have HK1 := Lib.hid hk1
  obtain ⟨q0, q1, q2, q3, q4, q5, q6⟩ := HBX.out _ hk1
  clear hp1 hk1
  have HM := Lib.hid (fun s t => modeWord_two s t w1)
  go_wp2_with fail
  refine (HM.out _ _).mono ?_
  rintro e w2 ⟨rfl, rfl⟩
  go_wp2_with fail
  refine (HJ.out _ _ HP1.out).mono ?_
  rintro e w3 ⟨rfl, hp3, hk3⟩
  have HP3 := Lib.hid hp3
  have HK3 := Lib.hid (HK1.out.trans hk3)
  clear hp3 hk3
  have HS3 := Lib.hid (fun S hS => strL_any S (32 :: (wWithout ++ ([32, 40] ++ (commaN names ++ [41, 32])))) hS HP3.out HF2.out)
  go_wp2_with fail
  refine (HS3.out _ (by simp only [ByteArray.data_append, Array.toList_append, HJL.out]; simp [wWithout])).mono ?_
  rintro e w4 ⟨⟨nn, rfl⟩, hp4, hk4⟩
  have HP4 := Lib.hid hp4
  have HK4 := Lib.hid (HK3.out.trans hk4)
  clear hp4 hk4 q0 q1 q2 q3 q4 q5 q6
  have HS5 := Lib.hid (byte_any 40 HP4.out HF3.out)
  go_wp2_with fail
  refine HS5.out.mono ?_
  rintro e w5 ⟨rfl, hp5, hk5⟩
  have HP5 := Lib.hid hp5
  have HK5 := Lib.hid (HK4.out.trans hk5)
  obtain ⟨q0, q1, q2, q3, q4, q5, q6⟩ := HBX.out _ HK5.out
  clear hp5 hk5
  go_wp2_with fail
  refine (HNU.out w5).mono ?_
  rintro e w6 ⟨rfl, rfl⟩
  cases nb with
  | false =>
    have hN : [] = NB := HNB.out
    subst hN
    have HC5 := Lib.hid (HC.out w5 (by rw [List.append_nil]; exact HP5.out))
    go_wp2_with fail
    refine HC5.out.mono ?_
    rintro e w7 ⟨rfl, hp7, hk7⟩
    rw [HE.out] at hp7
    have HP7 := Lib.hid hp7
    have HK7 := Lib.hid (HK5.out.trans hk7)
    clear hp7 hk7 q0 q1 q2 q3 q4 q5 q6
    go_wp2
    first | go_end0 | ((try simp only [Exit.inBlock, Exit.then]); refine bodyPost_ret (results_none rfl _ _ _) rfl ?_)
    exact ⟨rfl, HP7.out, HK.out.trans HK7.out⟩
  | true =>
    have hN : decDigits n ++ [44] = NB := HNB.out
    subst hN
    go_wp2_with fail
    refine (HIT.out w5 _ HP5.out).mono ?_
    rintro e w7 ⟨rfl, hp7, hk7⟩
    have HP7 := Lib.hid hp7
    have HK7 := Lib.hid (HK5.out.trans hk7)
    have HS8 := Lib.hid (fun S hS => strL_any S (decDigits n ++ [44]) hS hp7 HF4.out)
    clear hp7 hk7 q0 q1 q2 q3 q4 q5 q6
    go_wp2_with fail
    refine (HS8.out _ (by simp only [ByteArray.data_append, Array.toList_append, HDL.out])).mono ?_
    rintro e w8 ⟨⟨nn, rfl⟩, hp8, hk8⟩
    have HP8 := Lib.hid hp8
    have HK8 := Lib.hid (HK7.out.trans hk8)
    obtain ⟨q0, q1, q2, q3, q4, q5, q6⟩ := HBX.out _ HK8.out
    clear hp8 hk8
    have HC8 := Lib.hid (HC.out w8 HP8.out)
    go_wp2_with fail
    refine HC8.out.mono ?_
    rintro e w9 ⟨rfl, hp9, hk9⟩
    rw [HE.out] at hp9
    have HP9 := Lib.hid hp9
    have HK9 := Lib.hid (HK8.out.trans hk9)
    clear hp9 hk9 q0 q1 q2 q3 q4 q5 q6
    go_wp2
    first | go_end0 | ((try simp only [Exit.inBlock, Exit.then]); refine bodyPost_ret (results_none rfl _ _ _) rfl ?_)
    exact ⟨rfl, HP9.out, HK.out.trans HK9.out⟩
end Go.Proofs.YtddglepimbfdkaaGreatDoor.Par
