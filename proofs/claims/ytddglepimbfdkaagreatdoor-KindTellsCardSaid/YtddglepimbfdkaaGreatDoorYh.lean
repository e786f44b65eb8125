/- Walks (kind): metrics gathered: of every part. -/
import Derived.Test.YtddglepimbfdkaaGreatDoorYe
import Derived.Test.YtddglepimbfdkaaGreatDoorYg
namespace Go.Proofs.YtddglepimbfdkaaGreatDoor.Knd
open Go.RowKit Go.Lib Go.Maps
open Go.Proofs.YtddglepimbfdkaaGreatDoor.Par

theorem add_any (B db mb : Nat) (acc : List ByteArray) (s : ByteArray) (w : World) (h : MT w B db mb acc) (hs : s.size ≤ 1000) (hB : B ≤ w.heap.size) (ha : acc.length ≤ 100000) :
    Calls Tryz.prog 123 #[.pointer (some ⟨db, 0, none⟩), .string s] w fun e w' => e = .returned (.tuple #[]) ∧ MT w' B db mb (add1 acc s) ∧ Below B w w' ∧ Parts w w' := by
  by_cases hin : s ∈ acc
  · rw [add1_in hin]; exact add_in B db mb acc s w h hs hin hB
  · rw [add1_out hin]; exact add_out B db mb acc s w h hs hin hB ha

/-- What gathering a part does. -/
def GaC (x : Ex) : Prop := ∀ (B db mb : Nat) (acc : List ByteArray) (w : World) (a b : ByteArray) (z m : Int) (o1 : Option Addr) (k1 c1 : Nat) (o2 : Option Addr) (k2 c2 : Nat) (o3 : Option Addr) (k3 c3 : Nat), Nod w (fun j => j < B) [.string a, .string b, .int .i64 z, .int .i64 m, .slice o1 k1 c1, .slice o2 k2 c2, .slice o3 k3 c3] x →
  MT w B db mb acc → B ≤ w.heap.size → acc.length + countE x ≤ 100000 → (∀ s ∈ selsE x, s.size ≤ 1000) →
  Calls Tryz.prog 60 #[.pointer (some ⟨db, 0, none⟩), .agg #[.string a, .string b, .int .i64 z, .int .i64 m, .slice o1 k1 c1, .slice o2 k2 c2, .slice o3 k3 c3]] w fun e w' => e = .returned (.tuple #[]) ∧ MT w' B db mb (addAll acc (selsE x)) ∧ Below B w w'
theorem nod_past {w w' : World} {B : Nat} {cs : List Value} {x : Ex} (h : Nod w (fun j => j < B) cs x) (hb : Below B w w') : Nod w' (fun j => j < B) cs x :=
  h.keep fun b hp _ => ⟨hb.block b hp, hp⟩
theorem selsL_take {l : List Ex} {k : Nat} {y : Ex} (h : l[k]? = some y) : selsL (l.take (k + 1)) = selsL (l.take k) ++ selsE y := by
  rw [List.take_add_one, h]; simp [selsL]
theorem countL : ∀ (l : List Ex) (k : Nat) (y : Ex), l[k]? = some y → (selsL (l.take k)).length + countE y ≤ (l.map countE).sum
  | [], k, y, h => by simp at h
  | x :: l, 0, y, h => by
    simp at h; subst h
    simp [selsL]
  | x :: l, k + 1, y, h => by
    have h1 := countL l k y (by simpa using h)
    have h2 := selsE_len x
    rw [List.take_succ_cons, selsL_cons, List.length_append, List.map_cons, List.sum_cons]
    omega
theorem count_kids (x : Ex) : ((kidsE x).map countE).sum + 1 = countE x := by
  cases x <;> simp [kidsE, countE]
theorem ownE_kids {x : Ex} {y : Ex} (h : y ∈ kidsE x) : ownE x = [] := by
  cases x <;> simp [kidsE] at h <;> rfl
theorem sels_kid {x y : Ex} (h : y ∈ kidsE x) {s : ByteArray} (hs : s ∈ selsE y) : s ∈ selsE x := by
  rw [selsE_eq, List.mem_append]
  exact .inr (List.mem_flatMap.2 ⟨y, h, hs⟩)
theorem kid_own {w : World} {P : Nat → Prop} {o : Option Addr} {css : List (List Value)} {l : List Ex} (h : SeesR w P o 7 css) (hc : css.length = l.length) (hk : ∀ (j : Nat) cs y, css[j]? = some cs → l[j]? = some y → Nod w P cs y) {j : Nat} {y : Ex} (hj : l[j]? = some y) :
    ∃ blk off, o = some ⟨blk, off, none⟩ ∧ P blk ∧ ∃ (a b : ByteArray) (z m : Int) (o1 : Option Addr) (k1 c1 : Nat) (o2 : Option Addr) (k2 c2 : Nat) (o3 : Option Addr) (k3 c3 : Nat), Nod w P [.string a, .string b, .int .i64 z, .int .i64 m, .slice o1 k1 c1, .slice o2 k2 c2, .slice o3 k3 c3] y ∧ (w.cell? ⟨blk, off + j * 7 + 0, none⟩ = some (.string a) ∧ w.cell? ⟨blk, off + j * 7 + 1, none⟩ = some (.string b) ∧ w.cell? ⟨blk, off + j * 7 + 2, none⟩ = some (.int .i64 z) ∧ w.cell? ⟨blk, off + j * 7 + 3, none⟩ = some (.int .i64 m) ∧ w.cell? ⟨blk, off + j * 7 + 4, none⟩ = some (.slice o1 k1 c1) ∧ w.cell? ⟨blk, off + j * 7 + 5, none⟩ = some (.slice o2 k2 c2) ∧ w.cell? ⟨blk, off + j * 7 + 6, none⟩ = some (.slice o3 k3 c3)) := by
  obtain ⟨cs, hcs⟩ : ∃ cs, css[j]? = some cs := ⟨_, List.getElem?_eq_getElem (by have := (List.getElem?_eq_some_iff.1 hj).1; omega)⟩
  have hn := hk j cs y hcs hj
  rcases h with h | ⟨blk, off, rfl, hp, _, hcell⟩
  · rw [h] at hcs; simp at hcs
  · have hcell := hcell j cs hcs
    obtain ⟨a, b, z, m, o1, k1, c1, o2, k2, c2, o3, k3, c3, rfl⟩ := hn.raw
    exact ⟨blk, off, rfl, hp, a, b, z, m, o1, k1, c1, o2, k2, c2, o3, k3, c3, hn, hcell 0 _ rfl, hcell 1 _ rfl, hcell 2 _ rfl, hcell 3 _ rfl, hcell 4 _ rfl, hcell 5 _ rfl, hcell 6 _ rfl⟩

set_option maxHeartbeats 4000000 in
set_option maxRecDepth 100000 in
theorem gather_rest (x : Ex) (hns : opE x ≠ ⟨#[115, 101, 108]⟩) (hown : ownE x = []) (IH : ∀ y ∈ kidsE x, GaC y) : GaC x := by
  intro B db mb acc w a b z m o1 k1 c1 o2 k2 c2 o3 k3 c3 hN hMT hB hcnt hsz
  obtain ⟨⟨ea, -, -, -⟩, ⟨_, _, l3⟩, _, _, css, h4, s3, hk⟩ := hN.open7
  have HK := Lib.hid (fun j y (hj : (kidsE x)[j]? = some y) => kid_own s3 (h4.trans l3.symm) hk hj)
  have HIH := Lib.hid IH
  have HL := Lib.hid l3
  have hk3 : k3 ≤ 2 := by rw [← l3]; exact kids_few x
  obtain ⟨n1, n2, n3⟩ := str_ne_list (s := a) (l := [115, 101, 108]) (by rw [ea]; exact hns)
  have HM0 := Lib.hid (hMT.below (box_below w (NBox a b z m o1 k1 c1 o2 k2 c2 o3 k3 c3)))
  have HB0 := Lib.hid (show Below B w (w.alloc (NBox a b z m o1 k1 c1 o2 k2 c2 o3 k3 c3)) from (Below.refl B w).alloc hB _)
  have HF := Lib.hid (show selsL (kidsE x) = selsE x by rw [selsE_eq, hown, List.nil_append])
  have HSZ := Lib.hid hsz
  have HCN := Lib.hid hcnt
  clear hN ea l3 h4 s3 hk hns hown IH hMT hsz hcnt
  go_enter Tryz.func60, Tryz.ntmps60
  go_wp2_with fail
  go_loopw [21] (fun v wr => ∃ k : Nat, v = .int .i64 k ∧ k ≤ k3 ∧ Hid (MT wr B db mb (addAll acc (selsL ((kidsE x).take k)))) ∧ Hid (Below B w wr)) (fun v _ => k3 - (Go.RowKit.intOf v).toNat)
  case atStart => exact ⟨0, rfl, Nat.zero_le _, HM0.out, HB0.out⟩
  case round =>
    clear HM0 HB0
    obtain ⟨k, rfl, hkk, HM, HB⟩ := hrel
    by_cases hlt : k < k3
    · have j1 : (k : Int) < k3 := by omega
      obtain ⟨y, hy⟩ : ∃ y, (kidsE x)[k]? = some y := ⟨_, List.getElem?_eq_getElem (by rw [HL.out]; exact hlt)⟩
      obtain ⟨blk, off, rfl, hp, a', b', z', m', o1', k1', c1', o2', k2', c2', o3', k3', c3', hn, d0, d1, d2, d3, d4, d5, d6⟩ := HK.out k y hy
      have e0 := (HB.out.cell (p := ⟨blk, off + k * 7 + 0, none⟩) hp).trans d0
      have e1 := (HB.out.cell (p := ⟨blk, off + k * 7 + 1, none⟩) hp).trans d1
      have e2 := (HB.out.cell (p := ⟨blk, off + k * 7 + 2, none⟩) hp).trans d2
      have e3 := (HB.out.cell (p := ⟨blk, off + k * 7 + 3, none⟩) hp).trans d3
      have e4 := (HB.out.cell (p := ⟨blk, off + k * 7 + 4, none⟩) hp).trans d4
      have e5 := (HB.out.cell (p := ⟨blk, off + k * 7 + 5, none⟩) hp).trans d5
      have e6 := (HB.out.cell (p := ⟨blk, off + k * 7 + 6, none⟩) hp).trans d6
      simp only [Nat.add_zero] at e0
      clear d0 d1 d2 d3 d4 d5 d6
      have hym := List.mem_of_getElem? hy
      have hBr : B ≤ wr.heap.size := by have := HB.out.size; omega
      have HM2 := Lib.hid (HM.out.below (box_below wr (NBox a' b' z' m' o1' k1' c1' o2' k2' c2' o3' k3' c3')))
      have HB2 := Lib.hid (show Below B w (wr.alloc (NBox a' b' z' m' o1' k1' c1' o2' k2' c2' o3' k3' c3')) from HB.out.trans ((Below.refl B wr).alloc hBr _))
      have HT := Lib.hid (selsL_take hy)
      have hlen : (addAll acc (selsL ((kidsE x).take k))).length + countE y ≤ 100000 := by
        have h1 := addAll_len (selsL ((kidsE x).take k)) acc
        have h2 := countL _ _ _ hy
        have h3 := count_kids x
        have h4 := HCN.out
        omega
      have HC := Lib.hid (HIH.out y hym B db mb _ _ _ _ _ _ _ _ _ _ _ _ _ _ _ (nod_past hn HB2.out) HM2.out (by simp; omega) hlen (fun s hs => HSZ.out s (sels_kid hym hs)))
      clear hn hy hym hlen hp
      go_wp2_with fail
      refine HC.out.mono ?_
      rintro e w4 ⟨rfl, hm4, hb4⟩
      have HM4 := Lib.hid (show MT w4 B db mb (addAll acc (selsL ((kidsE x).take (k + 1)))) by rw [HT.out, addAll_append]; exact hm4)
      have HB4 := Lib.hid (HB2.out.trans hb4)
      clear hm4 hb4
      go_wp2
      go_roundw
      case rel => exact ⟨k + 1, by go_num, by omega, HM4, HB4⟩
      case measure => simp [Go.RowKit.intOf]; omega
    · have j1 : ¬ (k : Int) < k3 := by omega
      have HMF := Lib.hid (show MT wr B db mb (addAll acc (selsE x)) by
        have h := HM.out
        rwa [List.take_of_length_le (by rw [HL.out]; omega), HF.out] at h)
      go_wp2
      go_end0
      exact ⟨rfl, HMF.out, HB.out⟩

set_option maxHeartbeats 4000000 in
set_option maxRecDepth 100000 in
theorem gather_sel (mt : ByteArray) (v : Nat) (ms : List Sto.Mat) : GaC (.sel mt v ms) := by
  intro B db mb acc w a b z m o1 k1 c1 o2 k2 c2 o3 k3 c3 hN hMT hB hcnt hsz
  obtain ⟨⟨ea, eb, -, -⟩, ⟨_, _, l3⟩, _⟩ := hN.open7
  obtain rfl : 0 = k3 := l3
  obtain rfl : a = ⟨#[115, 101, 108]⟩ := ea
  obtain rfl : b = mt := eb
  have HX := Lib.hid (fun W (h : Below (w.heap.size + 1) (w.alloc (NBox ⟨#[115, 101, 108]⟩ b z m o1 k1 c1 o2 k2 c2 o3 0 c3)) W) => nbox_reads w W _ _ _ _ _ _ _ _ _ _ _ _ _ h)
  have hM0 := hMT.below (box_below w (NBox ⟨#[115, 101, 108]⟩ b z m o1 k1 c1 o2 k2 c2 o3 0 c3))
  have HM0 := Lib.hid hM0
  have HB0 := Lib.hid (show Below B w (w.alloc (NBox ⟨#[115, 101, 108]⟩ b z m o1 k1 c1 o2 k2 c2 o3 0 c3)) from (Below.refl B w).alloc hB _)
  rw [selsE] at hsz ⊢
  have hj : ¬ (0 : Int) < 0 := by decide
  by_cases hb0 : b.size = 0
  · rw [if_pos hb0]
    obtain rfl : b = ⟨#[]⟩ := by cases b with | mk d => rw [show d = #[] from Array.eq_empty_of_size_eq_zero hb0]
    clear hN hMT hsz hcnt hM0 hb0 HX
    go_enter Tryz.func60, Tryz.ntmps60
    go_wp2_with fail
    refine wp_loop_rounds 1 ?_
    rw [rounds_succ]
    go_wp2
    go_end0
    exact ⟨rfl, HM0.out, HB0.out⟩
  · rw [if_neg hb0] at hsz ⊢
    obtain ⟨n1, n2, n3⟩ := str_ne_list (s := b) (l := []) (by rintro rfl; exact hb0 rfl)
    have HA := Lib.hid (add_any B db mb acc b _ hM0 (hsz b (by simp)) (by simp; omega) (by omega))
    clear hN hMT hsz hcnt hM0 hb0
    go_enter Tryz.func60, Tryz.ntmps60
    go_wp2_with fail
    refine HA.out.mono ?_
    rintro e w2 ⟨rfl, hm2, hb2, hp2⟩
    have HM2 := Lib.hid hm2
    have HB2 := Lib.hid (HB0.out.trans hb2)
    have e2 := hp2 w.heap.size _ Array.getElem?_push_size
    have p6 : w2.cell? ⟨w.heap.size, 6, none⟩ = some (.slice o3 0 c3) := by simp [World.cell?, e2]
    clear hm2 hb2 hp2 e2
    go_wp2_with fail
    refine wp_loop_rounds 1 ?_
    rw [rounds_succ]
    go_wp2
    go_end0
    exact ⟨rfl, HM2.out, HB2.out⟩

theorem gather_any : ∀ (n : Nat) (x : Ex), countE x ≤ n → GaC x
  | 0, x, h => by cases x <;> simp [countE] at h
  | n + 1, x, h => by
    have ih : ∀ y ∈ kidsE x, GaC y := fun y hy => gather_any n y (by have := kids_lt hy; omega)
    cases x with
    | sel mt v ms => exact gather_sel mt v ms
    | num v => exact gather_rest _ (by simp [opE]) rfl ih
    | neg y => exact gather_rest _ (by simp [opE]) rfl ih
    | bin op md names l r => exact gather_rest _ (by simp [opE]) rfl ih
    | agg nm v md names y => exact gather_rest _ (by simp [opE]) rfl ih
    | fn nm y => exact gather_rest _ (by simp [opE]) rfl ih
end Go.Proofs.YtddglepimbfdkaaGreatDoor.Knd
