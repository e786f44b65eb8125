/- Walks: how much numbers grow, in all and in time. -/
import Derived.Test.YthbameabfmoibaaGreatVe
namespace Go.Proofs.YthbameabfmoibaaGreat.Win
open Go.RowKit Go.Lib

theorem do_sub {a b : Int} (ha : valP a) (hb : valP b) : doF ⟨#[45]⟩ b a = withinF (b - a) := by
  unfold doF
  rw [sign_sub]
  show (if rgt b ∧ rgt a then _ else _) = _
  rw [if_pos ⟨hb, ha⟩]; rfl
theorem do_mul {a : Int} (ha : valP a) : doF ⟨#[42]⟩ a 1000 = withinF (a * 1000) := by
  unfold doF
  rw [sign_mul]
  show (if rgt a ∧ rgt 1000 then _ else _) = _
  rw [if_pos ⟨ha, by decide⟩]
  exact timesF_within a 1000
theorem do_div {a b : Int} (ha : valP a) (hb : valP b) (h0 : b ≠ 0) : doF ⟨#[47]⟩ a b = (a.tdiv b, 0) := by
  unfold doF
  rw [sign_div]
  show (if rgt a ∧ rgt b then _ else _) = _
  rw [if_pos ⟨ha, hb⟩]
  show (if b = 0 then _ else _) = _
  rw [if_neg h0]; rfl
/-- How much came from a number to the next. -/
def stepP (a b : Int) : Int × Int := if a ≤ b then withinF (b - a) else (b, 0)

set_option maxHeartbeats 1000000 in
theorem step_any (a b : Int) (w : World) (ha : valP a) (hb : valP b) : Calls Tryz.prog 94 #[.int .i64 a, .int .i64 b] w fun e w' => e = .returned (.tuple #[.int .i64 (stepP a b).1, .int .i64 (stepP a b).2]) ∧ Below w.heap.size w w' := by
  have HD := Lib.hid (fun W => do_any ⟨#[45]⟩ b a W (by decide))
  rw [do_sub ha hb] at HD
  by_cases h : a ≤ b
  · have e : stepP a b = withinF (b - a) := by unfold stepP; rw [if_pos h]
    rw [e]
    generalize withinF (b - a) = R at HD ⊢
    have j1 : ¬ b < a := by omega
    clear e h ha hb
    go_enter Tryz.func94, Tryz.ntmps94
    go_wp2_with fail
    refine (HD.out _).mono ?_
    rintro e w' ⟨rfl, b1⟩
    have HB := Lib.hid b1
    clear b1
    go_wp2
    go_ret2
    exact ⟨rfl, HB.out⟩
  · have e : stepP a b = (b, 0) := by unfold stepP; rw [if_neg h]
    rw [e]
    have j1 : b < a := by omega
    clear e h ha hb HD
    go_enter Tryz.func94, Tryz.ntmps94
    go_wp2
    go_ret2
    exact ⟨rfl, Below.refl _ _⟩

theorem steps_get : ∀ (zs : List Int) (k : Nat) (a b : Int), zs[k]? = some a → zs[k + 1]? = some b → (stepsF zs)[k]? = some (if a ≤ b then b - a else b)
  | [], _, _, _, h, _ => by simp at h
  | [_], _, _, _, _, h => by simp at h
  | x :: y :: l, 0, a, b, h1, h2 => by simp at h1 h2; subst h1 h2; rfl
  | x :: y :: l, k + 1, a, b, h1, h2 => by
    have := steps_get (y :: l) k a b (by simpa using h1) (by simpa using h2)
    simpa [stepsF] using this
theorem step_good {a b : Int} (_hb : valP b) (h : valP (if a ≤ b then b - a else b)) : stepP a b = ((if a ≤ b then b - a else b), 0) := by
  unfold stepP
  by_cases h1 : a ≤ b
  · rw [if_pos h1] at h ⊢
    rw [if_pos h1]
    unfold withinF; rw [if_pos (show rgt _ from h)]
  · rw [if_neg h1, if_neg h1]
theorem step_bad {a b : Int} (hb : valP b) (h : ¬ valP (if a ≤ b then b - a else b)) : stepP a b = (0, 4) := by
  unfold stepP
  by_cases h1 : a ≤ b
  · rw [if_pos h1] at h
    rw [if_pos h1]
    unfold withinF; rw [if_neg (show ¬ rgt _ from h)]
  · rw [if_neg h1] at h; exact absurd hb h
/-- How much numbers grow in all, or that it may not be. -/
def growE (zs : List Int) : Int × Int := if (∀ d ∈ stepsF zs, valP d) ∧ valP (grownF zs) then (grownF zs, 0) else (0, 4)
theorem grow_good {zs : List Int} (h : ∀ d ∈ stepsF zs, valP d) (hl : zs.length ≤ 25) : growE zs = sumF (stepsF zs) := by
  have hl2 := steps_len zs
  unfold growE sumF
  rw [if_pos (show (stepsF zs).length ≤ 2000 ∧ (∀ z ∈ stepsF zs, rgt z) from ⟨by omega, h⟩)]
  unfold withinF
  rw [← grown_sum]
  by_cases hg : valP (grownF zs)
  · rw [if_pos ⟨h, hg⟩, if_pos (show rgt (grownF zs) from hg)]
  · rw [if_neg (fun q => hg q.2), if_neg (show ¬ rgt (grownF zs) from hg)]
theorem grow_bad {zs : List Int} {d : Int} (h : d ∈ stepsF zs) (hd : ¬ valP d) : growE zs = (0, 4) := by
  unfold growE; rw [if_neg (fun q => hd (q.1 d h))]
theorem nums_at {xs : List Pt} {k : Nat} {x : Pt} (h : xs[k]? = some x) : (numsF xs)[k]? = some x.2 := by
  unfold numsF; rw [List.getElem?_map, h]; rfl

set_option maxHeartbeats 4000000 in
set_option maxRecDepth 100000 in
theorem grown_any (o : Option Addr) (cap : Nat) (xs : List Pt) (w : World) (h1 : 1 ≤ xs.length) (h25 : xs.length ≤ 25) (hv : ∀ x ∈ xs, valP x.2) (hS : Pnt.SeesO w o xs) :
    Calls Tryz.prog 69 #[.slice o xs.length cap] w fun e w' => e = .returned (.tuple #[.int .i64 (growE (numsF xs)).1, .int .i64 (growE (numsF xs)).2]) ∧ Below w.heap.size w w' := by
  obtain ⟨i0, hi, hz0, hz1, hz2⟩ := info_parts infoI
  obtain ⟨R, hR⟩ : ∃ R, growE (numsF xs) = R := ⟨_, rfl⟩
  obtain ⟨S, hSt⟩ : ∃ S, stepsF (numsF xs) = S := ⟨_, rfl⟩
  obtain ⟨n, hn⟩ : ∃ n, xs.length = n := ⟨_, rfl⟩
  have hSl : S.length = n - 1 := by rw [← hSt, steps_len, nums_len, hn]
  have HGG := Lib.hid (show (∀ d ∈ S, valP d) → sumF S = R from fun h => by rw [← hR, ← hSt]; exact (grow_good (by rw [hSt]; exact h) (by rw [nums_len]; exact h25)).symm)
  have HGB := Lib.hid (show ∀ d ∈ S, ¬ valP d → R = (0, 4) from fun d h hd => by rw [← hR]; exact grow_bad (by rw [hSt]; exact h) hd)
  have HGT := Lib.hid (show ∀ (k : Nat) (x y : Pt), xs[k]? = some x → xs[k + 1]? = some y → S[k]? = some (if x.2 ≤ y.2 then y.2 - x.2 else y.2) from fun k x y hx hy => by rw [← hSt]; exact steps_get _ k _ _ (nums_at hx) (nums_at hy))
  have HN := Lib.hid hn
  have HV := Lib.hid hv
  have HSO := Lib.hid hS
  rw [hR]
  rw [hn] at h1 h25 ⊢
  clear hS hn hv hR hSt
  go_enter Tryz.func69, Tryz.ntmps69
  go_wp2
  go_loopw [4, 5] (fun v4 v5 wr => ∃ (k : Nat) (ys : List Int), v5 = .int .i64 ((k + 1 : Nat) : Int) ∧ k + 1 ≤ n ∧ ys.length = k ∧ Hid (ys = S.take k) ∧ Hid (∀ d ∈ ys, valP d) ∧ wr.ownsRow w.heap.size 3 1 v4 ys.length (ys.map (Value.int .i64)) ∧ Hid (Below w.heap.size w wr)) (fun _ v5 _ => n - (intOf v5).toNat)
  case atStart => exact ⟨0, [], rfl, h1, rfl, rfl, Lib.hid (fun d h => by simp at h), World.ownsRow_nil _ _ _ _, Below.refl _ _⟩
  case round =>
    obtain ⟨k, ys, rfl, hk, hyk, HY, HYV, hown, HB⟩ := hrel
    by_cases hkn : k + 1 < n
    · have j1 : ((k + 1 : Nat) : Int) < n := by omega
      obtain ⟨x, hx⟩ := Pnt.get_lt HN.out (show k < n by omega)
      obtain ⟨y, hy⟩ := Pnt.get_lt HN.out hkn
      obtain ⟨b, off, rfl, hS⟩ := (HSO.out.below HB.out).at hx
      have r1 := hS.at1 k x hx
      have r2 := hS.at1 (k + 1) y hy
      have k0 : (0 : Int) ≤ k := by omega
      have k1 : (k : Int) < n := by omega
      have k2 : (k : Int) + 1 < n := by omega
      have k3 : (0 : Int) ≤ (k : Int) + 1 := by omega
      have k4 : (n : Int) ≤ 25 := by omega
      have k5 : IntKind.i64.wrap (k : Int) = k := by rw [IntKind.wrap_i64]; omega
      have hlow := hS.low
      have HL := Lib.hid hlow
      have hvx := HV.out x (List.mem_of_getElem? hx)
      have hvy := HV.out y (List.mem_of_getElem? hy)
      have hd := HGT.out k x y hx hy
      have HR1 := Lib.hid r1
      have HR2 := Lib.hid r2
      have HC := Lib.hid (fun (W : World) (h : Hid (Below wr.heap.size wr W)) => (step_any x.2 y.2 W hvx hvy).mono (fun e w' q => show e = .returned (.tuple #[.int .i64 (stepP x.2 y.2).1, .int .i64 (stepP x.2 y.2).2]) ∧ w'.cell? ⟨b, off + k * 2 + 1, none⟩ = some (.int .i64 x.2) ∧ w'.cell? ⟨b, off + (k + 1) * 2 + 1, none⟩ = some (.int .i64 y.2) ∧ Hid (Below wr.heap.size wr w') from
        have hb := h.out.trans (q.2.mono h.out.size)
        ⟨q.1, (hb.cell (p := ⟨b, off + k * 2 + 1, none⟩) HL.out).trans HR1.out, (hb.cell (p := ⟨b, off + (k + 1) * 2 + 1, none⟩) HL.out).trans HR2.out, hb⟩))
      have r3 := Lib.hid (show Below wr.heap.size wr wr.drew from (Below.refl _ _).drew)
      have HO := Lib.hid hown
      by_cases hg : valP (if x.2 ≤ y.2 then y.2 - x.2 else y.2)
      · have H2 := Lib.hid (show ys ++ [if x.2 ≤ y.2 then y.2 - x.2 else y.2] = S.take (k + 1) by rw [take_at hd, ← HY.out])
        have H3 := Lib.hid (show ∀ d ∈ ys ++ [if x.2 ≤ y.2 then y.2 - x.2 else y.2], valP d from fun d h => by
          rcases List.mem_append.1 h with h | h
          · exact HYV.out d h
          · rw [List.mem_singleton.1 h]; exact hg)
        rw [step_good hvy hg] at HC
        clear hS hx hy hlow hvx hvy hd hown hg
        generalize (if x.2 ≤ y.2 then y.2 - x.2 else y.2) = d at HC H2 H3
        go_wp2_with fail
        go_region_held3 (fun w' => w'.cell? ⟨b, off + k * 2 + 1, none⟩ = some (.int .i64 x.2) ∧ w'.cell? ⟨b, off + (k + 1) * 2 + 1, none⟩ = some (.int .i64 y.2)) (first | exact ⟨s1, s2⟩ | exact ⟨r1, r2⟩) (first | (go_at_call 94; refine (HC.out _ r3).mono ?_; rintro e wq ⟨rfl, s1, s2, s3⟩))
        have HBq := Lib.hid (HB.out.trans (s3.out.mono HB.out.size))
        have hO2 := (Pnt.own_grown HO.out s3.out)
        have hwz := HBq.out.size
        have HZ := Lib.hid hwz
        clear r1 r2 r3 s1 s2 s3 hwz
        go_wp2_with (at_builtin; go_must (refine wpList_append_own _ rfl _ _ 58 rfl w.heap.size 3 i0 (.int .i64 0) 1 8 Tryz.underlying58 hi hz0 hz1 hz2 rfl (by decide) _ _ _ rfl (hO2.alloc _) ⟨wq.heap.size, 0, none⟩ 1 1 [.int .i64 d] rfl rfl (cell_one wq _ _ rfl) (one_i _) (by unfold maxLen; omega) (by omega) (by simp; have := HZ.out; omega) ?_); intro v' w3 hown' hgrow3 hnil3)
        have hB3 : Below w.heap.size w w3 := Below.grown (HBq.out.alloc HZ.out _) hgrow3 (by have := HZ.out; simp; omega) (fun j hj => by have := (hO2.lt _ hj).1; omega)
        have hO3 : w3.ownsRow w.heap.size 3 1 v' (ys ++ [d]).length ((ys ++ [d]).map (Value.int .i64)) := by
          rw [List.length_append, List.map_append]; exact hown'
        have HB3 := Lib.hid hB3
        clear hown' hgrow3 hnil3 hO2 hB3
        go_roundw
        case rel => exact ⟨k + 1, ys ++ [d], by go_num, by omega, by simp; omega, H2, H3, hO3, HB3⟩
        case measure => simp [intOf]; omega
      · have H2 := Lib.hid (HGB.out _ (List.mem_of_getElem? hd) hg)
        rw [step_bad hvy hg] at HC
        clear hS hx hy hlow hvx hvy hd hown hg
        go_wp2_with fail
        go_region_held3 (fun w' => w'.cell? ⟨b, off + k * 2 + 1, none⟩ = some (.int .i64 x.2) ∧ w'.cell? ⟨b, off + (k + 1) * 2 + 1, none⟩ = some (.int .i64 y.2)) (first | exact ⟨s1, s2⟩ | exact ⟨r1, r2⟩) (first | (go_at_call 94; refine (HC.out _ r3).mono ?_; rintro e wq ⟨rfl, s1, s2, s3⟩))
        have HBq := Lib.hid (HB.out.trans (s3.out.mono HB.out.size))
        clear r1 r2 r3 s1 s2 s3
        go_wp2
        go_ret2
        exact ⟨by rw [H2.out]; rfl, HBq.out⟩
    · have j1 : ¬ (((k + 1 : Nat) : Int) < n) := by omega
      have hkk : k = n - 1 := by omega
      have e1 : ys = S := by rw [HY.out, List.take_of_length_le (by omega)]
      have H2 := Lib.hid (HGG.out (by rw [← e1]; exact HYV.out))
      obtain ⟨o2, c2, rfl, hs, hl⟩ := own_ints hown
      have hsu := sum_any o2 c2 ys wr hl hs
      rw [e1, H2.out, ← e1] at hsu
      have HS := Lib.hid hsu
      clear hown hs e1 hsu
      unfold maxLen at hl
      generalize ys.length = m at HS hl ⊢
      go_wp2_with fail
      refine HS.out.mono ?_
      rintro e w' ⟨rfl, rfl⟩
      go_wp2
      go_ret2
      exact ⟨rfl, HB.out⟩
end Go.Proofs.YthbameabfmoibaaGreat.Win
