/- Walks: functions of points. -/
import Derived.Test.YthbameabfmoibaaGreatVf
namespace Go.Proofs.YthbameabfmoibaaGreat.Win
open Go.RowKit Go.Lib

/-- .. in 1,000 of the times. -/
def rateE (l : List Pt) : Int × Int :=
  if (growE (numsF l)).2 ≠ 0 then (0, (growE (numsF l)).2)
  else if (withinF ((growE (numsF l)).1 * 1000)).2 ≠ 0 then (0, (withinF ((growE (numsF l)).1 * 1000)).2)
  else ((withinF ((growE (numsF l)).1 * 1000)).1.tdiv (((timesP l).getLast?).getD 0 - ((timesP l).head?).getD 0), 0)
theorem grow_val (zs : List Int) (h : (growE zs).2 = 0) : valP (growE zs).1 := by
  unfold growE at h ⊢
  split
  · next q => exact q.2
  · next q => rw [if_neg q] at h; cases h
theorem within_val (v : Int) (h : (withinF v).2 = 0) : valP (withinF v).1 := by
  unfold withinF at h ⊢
  split
  · next q => exact q
  · next q => rw [if_neg q] at h; cases h
theorem last_at {xs : List Pt} {p : Nat} {y : Pt} (hn : xs.length = p + 1) (h : xs[p]? = some y) : ((timesP xs).getLast?).getD 0 = y.1 := by
  rw [List.getLast?_eq_getElem?]
  unfold timesP
  rw [List.length_map, hn, Nat.add_sub_cancel, List.getElem?_map, h]; rfl
theorem first_at {xs : List Pt} {x : Pt} (h : xs[0]? = some x) : ((timesP xs).head?).getD 0 = x.1 := by
  cases xs with
  | nil => simp at h
  | cons z zs => simp at h; subst h; rfl

set_option maxHeartbeats 4000000 in
set_option maxRecDepth 100000 in
theorem rate_any (o : Option Addr) (cap : Nat) (xs : List Pt) (w : World) (h2 : 2 ≤ xs.length) (hp : pointsB xs = true) (hS : Pnt.SeesO w o xs) :
    Calls Tryz.prog 70 #[.slice o xs.length cap] w fun e w' => e = .returned (.tuple #[.int .i64 (rateE xs).1, .int .i64 (rateE xs).2]) ∧ Below w.heap.size w w' := by
  obtain ⟨h25, hpw, hall⟩ := (points_iff xs).1 hp
  have HG := Lib.hid (grown_any o cap xs w (by omega) h25 (fun x hx => (hall x hx).2) hS)
  obtain ⟨p, hn⟩ : ∃ p, xs.length = p + 1 + 1 := ⟨xs.length - 2, by omega⟩
  obtain ⟨x, hx⟩ := Pnt.get_lt hn (show 0 < p + 1 + 1 by omega)
  obtain ⟨y, hy⟩ := Pnt.get_lt hn (show p + 1 < p + 1 + 1 by omega)
  have hlt : x.1 < y.1 := by
    obtain ⟨hx0, ex⟩ := List.getElem?_eq_some_iff.1 hx
    obtain ⟨hy0, ey⟩ := List.getElem?_eq_some_iff.1 hy
    have := List.pairwise_iff_getElem.1 hpw 0 (p + 1) hx0 hy0 (by omega)
    rw [ex, ey] at this; exact this
  have hxt := (hall x (List.mem_of_getElem? hx)).1
  have hyt := (hall y (List.mem_of_getElem? hy)).1
  obtain ⟨x1, x2⟩ := hxt
  obtain ⟨y1, y2⟩ := hyt
  obtain ⟨R, hR⟩ : ∃ R, rateE xs = R := ⟨_, rfl⟩
  have HR := Lib.hid hR
  unfold rateE at HR
  rw [last_at hn hy, first_at hx] at HR
  have HV := grow_val (numsF xs)
  rw [hR]
  clear hR
  generalize growE (numsF xs) = G at HG HR HV
  have HX := Lib.hid hx
  have HY := Lib.hid hy
  have HSO := Lib.hid hS
  rw [hn] at HG h25 ⊢
  clear hS hx hy hn h2 hp hpw hall
  obtain ⟨g, ge⟩ := G
  by_cases hge : ge = 0
  case neg =>
    have H2 := Lib.hid (show R = (0, ge) by rw [← HR.out, if_pos hge])
    have t1 : (ge != 0) = true := by simpa using hge
    clear hge HR HV
    go_enter Tryz.func70, Tryz.ntmps70
    go_wp2_with fail
    refine HG.out.mono ?_
    rintro e w1 ⟨rfl, b1⟩
    have HB := Lib.hid b1
    clear b1
    go_wp2
    go_ret2
    exact ⟨by rw [H2.out]; rfl, HB.out⟩
  subst hge
  have hgv : valP g := HV rfl
  have HM := Lib.hid (fun W => do_any ⟨#[42]⟩ g 1000 W (by decide))
  rw [do_mul hgv] at HM
  have HRv := Lib.hid (HR.out)
  rw [if_neg (by simp)] at HRv
  have HWV := within_val (g * 1000)
  dsimp only at HRv HG
  generalize withinF (g * 1000) = M at HM HRv HWV
  obtain ⟨m, me⟩ := M
  by_cases hme : me = 0
  case neg =>
    have H2 := Lib.hid (show R = (0, me) by rw [← HRv.out, if_pos hme])
    have t1 : (me != 0) = true := by simpa using hme
    clear hme HR HV HRv HWV hgv
    go_enter Tryz.func70, Tryz.ntmps70
    go_wp2_with fail
    refine HG.out.mono ?_
    rintro e w1 ⟨rfl, b1⟩
    have HB1 := Lib.hid b1
    clear b1
    go_wp2_with fail
    refine (HM.out _).mono ?_
    rintro e w2 ⟨rfl, b2⟩
    have HB := Lib.hid (HB1.out.trans (b2.mono HB1.out.size))
    clear b2
    go_wp2
    go_ret2
    exact ⟨by rw [H2.out]; rfl, HB.out⟩
  subst hme
  have hmv : valP m := HWV rfl
  have H2 := Lib.hid (show R = (m.tdiv (y.1 - x.1), 0) by rw [← HRv.out, if_neg (by simp)])
  have HD := Lib.hid (fun W => do_any ⟨#[47]⟩ m (y.1 - x.1) W (by decide))
  rw [do_div hmv (by unfold valP; omega) (by omega)] at HD
  clear HR HV HRv HWV hgv hmv
  have k0 : (0 : Int) ≤ p := by omega
  have k4 : (p : Int) ≤ 24 := by omega
  have k5 : IntKind.i64.wrap ((p : Int) + 1) = p + 1 := by rw [IntKind.wrap_i64]; omega
  have k6 : IntKind.i64.wrap (y.1 - x.1) = y.1 - x.1 := by rw [IntKind.wrap_i64]; omega
  have k7 : (0 : Int) ≤ (p : Int) + 1 := by omega
  have k8 : (p : Int) + 1 < (p : Int) + 1 + 1 := by omega
  have k9 : (0 : Int) < (p : Int) + 1 + 1 := by omega
  go_enter Tryz.func70, Tryz.ntmps70
  go_wp2_with fail
  refine HG.out.mono ?_
  rintro e w1 ⟨rfl, b1⟩
  have HB1 := Lib.hid b1
  clear b1
  go_wp2_with fail
  refine (HM.out _).mono ?_
  rintro e w2 ⟨rfl, b2⟩
  have HB2 := Lib.hid (HB1.out.trans (b2.mono HB1.out.size))
  obtain ⟨b, off, rfl, hS⟩ := (HSO.out.below HB2.out).at HX.out
  have r1 := hS.at0 (p + 1) y HY.out
  have r2 : w2.cell? ⟨b, off, none⟩ = some (.int .i64 x.1) := by simpa using hS.at0 0 x HX.out
  have HL := Lib.hid hS.low
  have HR1 := Lib.hid r1
  have HR2 := Lib.hid r2
  have HC := Lib.hid (fun (W : World) (h : Hid (Below w2.heap.size w2 W)) => (HD.out W).mono (fun e w' q => show e = .returned (.tuple #[.int .i64 (m.tdiv (y.1 - x.1)), .int .i64 0]) ∧ w'.cell? ⟨b, off + (p + 1) * 2, none⟩ = some (.int .i64 y.1) ∧ w'.cell? ⟨b, off, none⟩ = some (.int .i64 x.1) ∧ Hid (Below w2.heap.size w2 w') from
    have hb := h.out.trans (q.2.mono h.out.size)
    ⟨q.1, (hb.cell (p := ⟨b, off + (p + 1) * 2, none⟩) HL.out).trans HR1.out, (hb.cell (p := ⟨b, off, none⟩) HL.out).trans HR2.out, hb⟩))
  have r3 := Lib.hid (show Below w2.heap.size w2 w2.drew from (Below.refl _ _).drew)
  clear hS b2
  go_wp2_with fail
  go_region_held3 (fun w' => w'.cell? ⟨b, off + (p + 1) * 2, none⟩ = some (.int .i64 y.1) ∧ w'.cell? ⟨b, off, none⟩ = some (.int .i64 x.1)) (first | exact ⟨s1, s2⟩ | exact ⟨r1, r2⟩) (first | (go_at_call 96; refine (HC.out _ r3).mono ?_; rintro e wq ⟨rfl, s1, s2, s3⟩))
  have HBq := Lib.hid (HB2.out.trans (s3.out.mono HB2.out.size))
  clear r1 r2 r3 s1 s2 s3
  go_wp2
  go_ret2
  exact ⟨by rw [H2.out]; rfl, HBq.out⟩

/-- Functions of points, by their places. -/
def reckonP (k : Nat) (l : List Pt) : Int × Int := if k = 7 then rateE l else if k = 6 then growE (numsF l) else overP k (numsF l)

set_option maxHeartbeats 2000000 in
set_option maxRecDepth 100000 in
theorem reckon6 (o : Option Addr) (cap : Nat) (xs : List Pt) (w : World) (h1 : 1 ≤ xs.length) (hp : pointsB xs = true) (hS : Pnt.SeesO w o xs) :
    Calls Tryz.prog 23 #[.iface 88 (.agg #[]), .slice o xs.length cap] w fun e w' => e = .returned (.tuple #[.int .i64 (growE (numsF xs)).1, .int .i64 (growE (numsF xs)).2]) ∧ Below w.heap.size w w' := by
  obtain ⟨h25, hpw, hall⟩ := (points_iff xs).1 hp
  have HC := Lib.hid (fun W (h : Below w.heap.size w W) => grown_any o cap xs W h1 h25 (fun x hx => (hall x hx).2) (hS.below h))
  generalize growE (numsF xs) = R at HC ⊢
  generalize xs.length = n at HC h25 ⊢
  have a6 := ta6_6
  clear hS hpw hall hp h1
  go_enter Tryz.func23, Tryz.ntmps23
  go_wp2_with fail
  refine (HC.out _ (by repeat (first | exact Below.refl _ _ | refine Below.alloc ?_ (by simp <;> omega) _))).mono ?_
  rintro e w1 ⟨rfl, b1⟩
  have HB := Lib.hid ((show Below w.heap.size w (w.alloc (Obj.cells #[] 88)) from by repeat (first | exact Below.refl _ _ | refine Below.alloc ?_ (by simp <;> omega) _)).trans (b1.mono (by simp)))
  clear b1
  go_wp2
  go_ret2
  exact ⟨rfl, HB.out⟩

set_option maxHeartbeats 2000000 in
set_option maxRecDepth 100000 in
theorem reckon7 (o : Option Addr) (cap : Nat) (xs : List Pt) (w : World) (h2 : 2 ≤ xs.length) (hp : pointsB xs = true) (hS : Pnt.SeesO w o xs) :
    Calls Tryz.prog 23 #[.iface 89 (.agg #[]), .slice o xs.length cap] w fun e w' => e = .returned (.tuple #[.int .i64 (rateE xs).1, .int .i64 (rateE xs).2]) ∧ Below w.heap.size w w' := by
  obtain ⟨h25, hpw, hall⟩ := (points_iff xs).1 hp
  have HC := Lib.hid (fun W (h : Below w.heap.size w W) => rate_any o cap xs W h2 hp (hS.below h))
  generalize rateE xs = R at HC ⊢
  generalize xs.length = n at HC h25 ⊢
  have a6 := ta7_6
  have a7 := ta7_7
  clear hS hpw hall hp h2
  go_enter Tryz.func23, Tryz.ntmps23
  go_wp2_with fail
  refine (HC.out _ (by repeat (first | exact Below.refl _ _ | refine Below.alloc ?_ (by simp <;> omega) _))).mono ?_
  rintro e w1 ⟨rfl, b1⟩
  have HB := Lib.hid ((show Below w.heap.size w ((w.alloc (Obj.cells #[] 88)).alloc (Obj.cells #[] 89)) from by repeat (first | exact Below.refl _ _ | refine Below.alloc ?_ (by simp <;> omega) _)).trans (b1.mono (by simp <;> omega)))
  clear b1
  go_wp2
  go_ret2
  exact ⟨rfl, HB.out⟩

set_option maxHeartbeats 2000000 in
set_option maxRecDepth 100000 in
theorem reckon0 (o : Option Addr) (cap : Nat) (xs : List Pt) (w : World) (h1 : 1 ≤ xs.length) (h25 : xs.length ≤ 25) (hS : Pnt.SeesO w o xs) :
    Calls Tryz.prog 23 #[.iface 82 (.agg #[]), .slice o xs.length cap] w fun e w' => e = .returned (.tuple #[.int .i64 (overP 0 (numsF xs)).1, .int .i64 (overP 0 (numsF xs)).2]) ∧ Below w.heap.size w w' := by
  obtain ⟨n, hn⟩ : ∃ n, xs.length = n := ⟨_, rfl⟩
  have hnl : (numsF xs).length = n := by rw [nums_len, hn]
  have h0 : numsF xs ≠ [] := fun e => by rw [e] at hnl; simp at hnl; omega
  have HN := Lib.hid (fun W (h : Below w.heap.size w W) => numbers_form o cap xs W hn (by omega) (hS.below h))
  have HO := Lib.hid (fun W o c (h : SeesI W o (numsF xs)) => over0 o c (numsF xs) W (by unfold maxLen; omega) h0 h)
  rw [hnl] at HO
  rw [hn] at h1 h25 ⊢
  generalize overP 0 (numsF xs) = R at HO ⊢
  have a6 := ta0_6
  have a7 := ta0_7
  clear hS hn hnl h0
  go_enter Tryz.func23, Tryz.ntmps23
  go_wp2_with fail
  refine (HN.out _ (by repeat (first | exact Below.refl _ _ | refine Below.alloc ?_ (by simp <;> omega) _))).mono ?_
  rintro e w1 ⟨⟨o2, c2, rfl, hs⟩, b1⟩
  have HB1 := Lib.hid ((show Below w.heap.size w ((w.alloc (Obj.cells #[] 88)).alloc (Obj.cells #[] 89)) from by repeat (first | exact Below.refl _ _ | refine Below.alloc ?_ (by simp <;> omega) _)).trans (b1.mono (by simp <;> omega)))
  clear b1
  go_wp2_with fail
  refine (HO.out _ _ _ hs).mono ?_
  rintro e w2 ⟨rfl, b2⟩
  have HB := Lib.hid (HB1.out.trans (b2.mono HB1.out.size))
  clear b2
  go_wp2
  go_ret2
  exact ⟨rfl, HB.out⟩

set_option maxHeartbeats 2000000 in
set_option maxRecDepth 100000 in
theorem reckon1 (o : Option Addr) (cap : Nat) (xs : List Pt) (w : World) (h1 : 1 ≤ xs.length) (h25 : xs.length ≤ 25) (hS : Pnt.SeesO w o xs) :
    Calls Tryz.prog 23 #[.iface 83 (.agg #[]), .slice o xs.length cap] w fun e w' => e = .returned (.tuple #[.int .i64 (overP 1 (numsF xs)).1, .int .i64 (overP 1 (numsF xs)).2]) ∧ Below w.heap.size w w' := by
  obtain ⟨n, hn⟩ : ∃ n, xs.length = n := ⟨_, rfl⟩
  have hnl : (numsF xs).length = n := by rw [nums_len, hn]
  have h0 : numsF xs ≠ [] := fun e => by rw [e] at hnl; simp at hnl; omega
  have HN := Lib.hid (fun W (h : Below w.heap.size w W) => numbers_form o cap xs W hn (by omega) (hS.below h))
  have HO := Lib.hid (fun W o c (h : SeesI W o (numsF xs)) => over1 o c (numsF xs) W (by unfold maxLen; omega) h0 h)
  rw [hnl] at HO
  rw [hn] at h1 h25 ⊢
  generalize overP 1 (numsF xs) = R at HO ⊢
  have a6 := ta1_6
  have a7 := ta1_7
  clear hS hn hnl h0
  go_enter Tryz.func23, Tryz.ntmps23
  go_wp2_with fail
  refine (HN.out _ (by repeat (first | exact Below.refl _ _ | refine Below.alloc ?_ (by simp <;> omega) _))).mono ?_
  rintro e w1 ⟨⟨o2, c2, rfl, hs⟩, b1⟩
  have HB1 := Lib.hid ((show Below w.heap.size w ((w.alloc (Obj.cells #[] 88)).alloc (Obj.cells #[] 89)) from by repeat (first | exact Below.refl _ _ | refine Below.alloc ?_ (by simp <;> omega) _)).trans (b1.mono (by simp <;> omega)))
  clear b1
  go_wp2_with fail
  refine (HO.out _ _ _ hs).mono ?_
  rintro e w2 ⟨rfl, b2⟩
  have HB := Lib.hid (HB1.out.trans (b2.mono HB1.out.size))
  clear b2
  go_wp2
  go_ret2
  exact ⟨rfl, HB.out⟩

set_option maxHeartbeats 2000000 in
set_option maxRecDepth 100000 in
theorem reckon2 (o : Option Addr) (cap : Nat) (xs : List Pt) (w : World) (h1 : 1 ≤ xs.length) (h25 : xs.length ≤ 25) (hS : Pnt.SeesO w o xs) :
    Calls Tryz.prog 23 #[.iface 84 (.agg #[]), .slice o xs.length cap] w fun e w' => e = .returned (.tuple #[.int .i64 (overP 2 (numsF xs)).1, .int .i64 (overP 2 (numsF xs)).2]) ∧ Below w.heap.size w w' := by
  obtain ⟨n, hn⟩ : ∃ n, xs.length = n := ⟨_, rfl⟩
  have hnl : (numsF xs).length = n := by rw [nums_len, hn]
  have h0 : numsF xs ≠ [] := fun e => by rw [e] at hnl; simp at hnl; omega
  have HN := Lib.hid (fun W (h : Below w.heap.size w W) => numbers_form o cap xs W hn (by omega) (hS.below h))
  have HO := Lib.hid (fun W o c (h : SeesI W o (numsF xs)) => over2 o c (numsF xs) W (by unfold maxLen; omega) h0 h)
  rw [hnl] at HO
  rw [hn] at h1 h25 ⊢
  generalize overP 2 (numsF xs) = R at HO ⊢
  have a6 := ta2_6
  have a7 := ta2_7
  clear hS hn hnl h0
  go_enter Tryz.func23, Tryz.ntmps23
  go_wp2_with fail
  refine (HN.out _ (by repeat (first | exact Below.refl _ _ | refine Below.alloc ?_ (by simp <;> omega) _))).mono ?_
  rintro e w1 ⟨⟨o2, c2, rfl, hs⟩, b1⟩
  have HB1 := Lib.hid ((show Below w.heap.size w ((w.alloc (Obj.cells #[] 88)).alloc (Obj.cells #[] 89)) from by repeat (first | exact Below.refl _ _ | refine Below.alloc ?_ (by simp <;> omega) _)).trans (b1.mono (by simp <;> omega)))
  clear b1
  go_wp2_with fail
  refine (HO.out _ _ _ hs).mono ?_
  rintro e w2 ⟨rfl, b2⟩
  have HB := Lib.hid (HB1.out.trans (b2.mono HB1.out.size))
  clear b2
  go_wp2
  go_ret2
  exact ⟨rfl, HB.out⟩

set_option maxHeartbeats 2000000 in
set_option maxRecDepth 100000 in
theorem reckon3 (o : Option Addr) (cap : Nat) (xs : List Pt) (w : World) (h1 : 1 ≤ xs.length) (h25 : xs.length ≤ 25) (hS : Pnt.SeesO w o xs) :
    Calls Tryz.prog 23 #[.iface 85 (.agg #[]), .slice o xs.length cap] w fun e w' => e = .returned (.tuple #[.int .i64 (overP 3 (numsF xs)).1, .int .i64 (overP 3 (numsF xs)).2]) ∧ Below w.heap.size w w' := by
  obtain ⟨n, hn⟩ : ∃ n, xs.length = n := ⟨_, rfl⟩
  have hnl : (numsF xs).length = n := by rw [nums_len, hn]
  have h0 : numsF xs ≠ [] := fun e => by rw [e] at hnl; simp at hnl; omega
  have HN := Lib.hid (fun W (h : Below w.heap.size w W) => numbers_form o cap xs W hn (by omega) (hS.below h))
  have HO := Lib.hid (fun W o c (h : SeesI W o (numsF xs)) => over3 o c (numsF xs) W (by unfold maxLen; omega) h0 h)
  rw [hnl] at HO
  rw [hn] at h1 h25 ⊢
  generalize overP 3 (numsF xs) = R at HO ⊢
  have a6 := ta3_6
  have a7 := ta3_7
  clear hS hn hnl h0
  go_enter Tryz.func23, Tryz.ntmps23
  go_wp2_with fail
  refine (HN.out _ (by repeat (first | exact Below.refl _ _ | refine Below.alloc ?_ (by simp <;> omega) _))).mono ?_
  rintro e w1 ⟨⟨o2, c2, rfl, hs⟩, b1⟩
  have HB1 := Lib.hid ((show Below w.heap.size w ((w.alloc (Obj.cells #[] 88)).alloc (Obj.cells #[] 89)) from by repeat (first | exact Below.refl _ _ | refine Below.alloc ?_ (by simp <;> omega) _)).trans (b1.mono (by simp <;> omega)))
  clear b1
  go_wp2_with fail
  refine (HO.out _ _ _ hs).mono ?_
  rintro e w2 ⟨rfl, b2⟩
  have HB := Lib.hid (HB1.out.trans (b2.mono HB1.out.size))
  clear b2
  go_wp2
  go_ret2
  exact ⟨rfl, HB.out⟩

set_option maxHeartbeats 2000000 in
set_option maxRecDepth 100000 in
theorem reckon4 (o : Option Addr) (cap : Nat) (xs : List Pt) (w : World) (h1 : 1 ≤ xs.length) (h25 : xs.length ≤ 25) (hS : Pnt.SeesO w o xs) :
    Calls Tryz.prog 23 #[.iface 86 (.agg #[]), .slice o xs.length cap] w fun e w' => e = .returned (.tuple #[.int .i64 (overP 4 (numsF xs)).1, .int .i64 (overP 4 (numsF xs)).2]) ∧ Below w.heap.size w w' := by
  obtain ⟨n, hn⟩ : ∃ n, xs.length = n := ⟨_, rfl⟩
  have hnl : (numsF xs).length = n := by rw [nums_len, hn]
  have h0 : numsF xs ≠ [] := fun e => by rw [e] at hnl; simp at hnl; omega
  have HN := Lib.hid (fun W (h : Below w.heap.size w W) => numbers_form o cap xs W hn (by omega) (hS.below h))
  have HO := Lib.hid (fun W o c (h : SeesI W o (numsF xs)) => over4 o c (numsF xs) W (by unfold maxLen; omega) h0 h)
  rw [hnl] at HO
  rw [hn] at h1 h25 ⊢
  generalize overP 4 (numsF xs) = R at HO ⊢
  have a6 := ta4_6
  have a7 := ta4_7
  clear hS hn hnl h0
  go_enter Tryz.func23, Tryz.ntmps23
  go_wp2_with fail
  refine (HN.out _ (by repeat (first | exact Below.refl _ _ | refine Below.alloc ?_ (by simp <;> omega) _))).mono ?_
  rintro e w1 ⟨⟨o2, c2, rfl, hs⟩, b1⟩
  have HB1 := Lib.hid ((show Below w.heap.size w ((w.alloc (Obj.cells #[] 88)).alloc (Obj.cells #[] 89)) from by repeat (first | exact Below.refl _ _ | refine Below.alloc ?_ (by simp <;> omega) _)).trans (b1.mono (by simp <;> omega)))
  clear b1
  go_wp2_with fail
  refine (HO.out _ _ _ hs).mono ?_
  rintro e w2 ⟨rfl, b2⟩
  have HB := Lib.hid (HB1.out.trans (b2.mono HB1.out.size))
  clear b2
  go_wp2
  go_ret2
  exact ⟨rfl, HB.out⟩

set_option maxHeartbeats 2000000 in
set_option maxRecDepth 100000 in
theorem reckon5 (o : Option Addr) (cap : Nat) (xs : List Pt) (w : World) (h1 : 1 ≤ xs.length) (h25 : xs.length ≤ 25) (hS : Pnt.SeesO w o xs) :
    Calls Tryz.prog 23 #[.iface 87 (.agg #[]), .slice o xs.length cap] w fun e w' => e = .returned (.tuple #[.int .i64 (overP 5 (numsF xs)).1, .int .i64 (overP 5 (numsF xs)).2]) ∧ Below w.heap.size w w' := by
  obtain ⟨n, hn⟩ : ∃ n, xs.length = n := ⟨_, rfl⟩
  have hnl : (numsF xs).length = n := by rw [nums_len, hn]
  have h0 : numsF xs ≠ [] := fun e => by rw [e] at hnl; simp at hnl; omega
  have HN := Lib.hid (fun W (h : Below w.heap.size w W) => numbers_form o cap xs W hn (by omega) (hS.below h))
  have HO := Lib.hid (fun W o c (h : SeesI W o (numsF xs)) => over5 o c (numsF xs) W (by unfold maxLen; omega) h0 h)
  rw [hnl] at HO
  rw [hn] at h1 h25 ⊢
  generalize overP 5 (numsF xs) = R at HO ⊢
  have a6 := ta5_6
  have a7 := ta5_7
  clear hS hn hnl h0
  go_enter Tryz.func23, Tryz.ntmps23
  go_wp2_with fail
  refine (HN.out _ (by repeat (first | exact Below.refl _ _ | refine Below.alloc ?_ (by simp <;> omega) _))).mono ?_
  rintro e w1 ⟨⟨o2, c2, rfl, hs⟩, b1⟩
  have HB1 := Lib.hid ((show Below w.heap.size w ((w.alloc (Obj.cells #[] 88)).alloc (Obj.cells #[] 89)) from by repeat (first | exact Below.refl _ _ | refine Below.alloc ?_ (by simp <;> omega) _)).trans (b1.mono (by simp <;> omega)))
  clear b1
  go_wp2_with fail
  refine (HO.out _ _ _ hs).mono ?_
  rintro e w2 ⟨rfl, b2⟩
  have HB := Lib.hid (HB1.out.trans (b2.mono HB1.out.size))
  clear b2
  go_wp2
  go_ret2
  exact ⟨rfl, HB.out⟩

theorem reckon_any (k : Nat) (hk : k < 8) (o : Option Addr) (cap : Nat) (xs : List Pt) (w : World) (h1 : leastN k ≤ xs.length) (hp : pointsB xs = true) (hS : Pnt.SeesO w o xs) :
    Calls Tryz.prog 23 #[fnV k, .slice o xs.length cap] w fun e w' => e = .returned (.tuple #[.int .i64 (reckonP k xs).1, .int .i64 (reckonP k xs).2]) ∧ Below w.heap.size w w' := by
  have h25 := ((points_iff xs).1 hp).1
  match k, hk with
  | 0, _ => exact reckon0 o cap xs w h1 h25 hS
  | 1, _ => exact reckon1 o cap xs w h1 h25 hS
  | 2, _ => exact reckon2 o cap xs w h1 h25 hS
  | 3, _ => exact reckon3 o cap xs w h1 h25 hS
  | 4, _ => exact reckon4 o cap xs w h1 h25 hS
  | 5, _ => exact reckon5 o cap xs w h1 h25 hS
  | 6, _ => exact reckon6 o cap xs w (Nat.le_trans (by decide) h1) hp hS
  | 7, _ => exact reckon7 o cap xs w h1 hp hS

/-- What a function of points answers. -/
def wdoF (k : Nat) (l : List Pt) : Int × Bool × Int :=
  if 8 ≤ k ∨ pointsB l = false then (0, false, 1)
  else if l.length < leastN k then (0, false, 0)
  else ((reckonP k l).1, (reckonP k l).2 == 0, (reckonP k l).2)

set_option maxHeartbeats 2000000 in
set_option maxRecDepth 100000 in
theorem wdo_any (s : ByteArray) (o : Option Addr) (cap : Nat) (xs : List Pt) (w : World) (hm : xs.length ≤ maxLen) (hS : Pnt.SeesO w o xs) :
    Calls Tryz.prog 10 #[.string s, .slice o xs.length cap] w fun e w' => e = .returned (.tuple #[.int .i64 (wdoF (fnF s) xs).1, .bool (wdoF (fnF s) xs).2.1, .int .i64 (wdoF (fnF s) xs).2.2]) ∧ Below w.heap.size w w' := by
  have HF := Lib.hid (fun W => read_any s W)
  have HR := Lib.hid (fun W (h : Below w.heap.size w W) => wright_any o cap xs W hm (hS.below h))
  generalize fnF s = k at HF ⊢
  by_cases hk : k < 8
  case neg =>
    have H2 := Lib.hid (show wdoF k xs = (0, false, 1) by unfold wdoF; rw [if_pos (.inl (by omega))])
    rw [H2.out]
    rw [decide_eq_false hk] at HF
    generalize fnV k = v at HF
    generalize xs.length = n at HR ⊢
    clear hS hk hm
    go_enter Tryz.func10, Tryz.ntmps10
    go_wp2_with fail
    refine (HF.out _).mono ?_
    rintro e w1 ⟨rfl, rfl⟩
    go_wp2
    go_ret3
    exact ⟨rfl, Below.refl _ _⟩
  rw [decide_eq_true hk] at HF
  have HL := Lib.hid (fun W => least_any k hk W)
  cases hp : pointsB xs with
  | false =>
    have H2 := Lib.hid (show wdoF k xs = (0, false, 1) by unfold wdoF; rw [if_pos (.inr hp)])
    rw [H2.out]
    rw [hp] at HR
    generalize fnV k = v at HF
    generalize xs.length = n at HR ⊢
    clear hS hk hm HL
    go_enter Tryz.func10, Tryz.ntmps10
    go_wp2_with fail
    refine (HF.out _).mono ?_
    rintro e w1 ⟨rfl, rfl⟩
    go_wp2_with fail
    refine (HR.out _ (Below.refl _ _)).mono ?_
    rintro e w1 ⟨rfl, b1⟩
    have HB := Lib.hid b1
    clear b1
    go_wp2
    go_ret3
    exact ⟨rfl, HB.out⟩
  | true =>
  rw [hp] at HR
  obtain ⟨n, hn⟩ : ∃ n, xs.length = n := ⟨_, rfl⟩
  by_cases hl : n < leastN k
  · have H2 := Lib.hid (show wdoF k xs = (0, false, 0) by unfold wdoF; rw [if_neg (by rintro (h | h); omega; rw [hp] at h; cases h), if_pos (by rw [hn]; exact hl)])
    rw [H2.out]
    rw [hn] at HR ⊢
    have j1 : (n : Int) < (leastN k : Int) := by omega
    generalize leastN k = q at HL j1
    generalize fnV k = v at HF HL
    clear hS hk hm hn hl hp
    go_enter Tryz.func10, Tryz.ntmps10
    go_wp2_with fail
    refine (HF.out _).mono ?_
    rintro e w1 ⟨rfl, rfl⟩
    go_wp2_with fail
    refine (HR.out _ (Below.refl _ _)).mono ?_
    rintro e w1 ⟨rfl, b1⟩
    have HB1 := Lib.hid b1
    clear b1
    go_wp2_with fail
    refine (HL.out _).mono ?_
    rintro e w2 ⟨rfl, b2⟩
    have HB := Lib.hid (HB1.out.trans (b2.mono HB1.out.size))
    clear b2
    go_wp2
    go_ret3
    exact ⟨rfl, HB.out⟩
  · have H2 := Lib.hid (show wdoF k xs = ((reckonP k xs).1, (reckonP k xs).2 == 0, (reckonP k xs).2) by unfold wdoF; rw [if_neg (by rintro (h | h); omega; rw [hp] at h; cases h), if_neg (by rw [hn]; exact hl)])
    rw [H2.out]
    have HK := Lib.hid (fun W (h : Below w.heap.size w W) => reckon_any k hk o cap xs W (by omega) hp (hS.below h))
    rw [hn] at HR HK ⊢
    have j1 : ¬ (n : Int) < (leastN k : Int) := by omega
    generalize leastN k = q at HL j1
    generalize fnV k = v at HF HL HK
    generalize reckonP k xs = R at HK ⊢
    clear hS hk hm hn hl hp
    go_enter Tryz.func10, Tryz.ntmps10
    go_wp2_with fail
    refine (HF.out _).mono ?_
    rintro e w1 ⟨rfl, rfl⟩
    go_wp2_with fail
    refine (HR.out _ (Below.refl _ _)).mono ?_
    rintro e w1 ⟨rfl, b1⟩
    have HB1 := Lib.hid b1
    clear b1
    go_wp2_with fail
    refine (HL.out _).mono ?_
    rintro e w2 ⟨rfl, b2⟩
    have HB2 := Lib.hid (HB1.out.trans (b2.mono HB1.out.size))
    clear b2
    go_wp2_with fail
    refine (HK.out _ HB2.out).mono ?_
    rintro e w3 ⟨rfl, b3⟩
    have HB := Lib.hid (HB2.out.trans (b3.mono HB2.out.size))
    clear b3
    go_wp2
    go_ret3
    exact ⟨rfl, HB.out⟩
end Go.Proofs.YthbameabfmoibaaGreat.Win
