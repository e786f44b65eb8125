/- The document's row as bytes: what a row's bytes are, what it costs. -/
import Derived.Test.YtldlfmeppcdbbaaYd
import Derived.Test.YtldlfmeppcdbbaaCm
import Derived.Test.YtldlfmeppcdbbaaGf
import Derived.Deep.OwnRows
import Derived.OwnWalk
import Derived.Laws.IdiomStrings
import Derived.Deep.RegionHeld3
import Derived.Deep.DeepFit
namespace Go.Proofs.Ytldlfmeppcdbbaa.Row
open Go.RowKit Go.Lib Go.Proofs.Ytldlfmeppcdbbaa.Crc

theorem okR_right {xs : List Lab} {v : Int} (h : okR xs v = true) : rightB xs = true ∧ Fix.rgtB v = true := by
  unfold okR at h; rwa [Bool.and_eq_true] at h
theorem dvalue_any (s : ByteArray) (w : World) (hs : s.size ≤ 7) :
    Calls Try.prog 41 #[.string s] w fun e w' => e = .returned (.int .i64 (valA 0 s.data.toList : Nat)) ∧ Below w.heap.size w w' :=
  (dvalue_is s w hs).mono fun e w' ⟨h1, h2⟩ => ⟨h1, by rw [h2]; exact Below.refl _ _⟩
theorem drewN_low (w : World) (n : Nat) : Below w.heap.size w (w.drewN n) := ⟨rfl, rfl, rfl, Nat.le_refl _, fun _ _ => rfl⟩
theorem high_one {n : Nat} (_h : n < 256) : (⟨(numB 1 n).toArray⟩ : ByteArray).size = 1 := by rw [str_size, numB_len]

set_option maxHeartbeats 8000000 in
set_option maxRecDepth 100000 in
theorem dput_any (o : Option Addr) (n c : Nat) (xs : List Lab) (v : Int) (w : World) (hn : xs.length = n) (hok : okR xs v = true) (hS : SeesO w o xs) :
    Calls Try.prog 16 #[.agg #[.slice o n c, .int .i64 v]] w fun e w' => e = .returned (.string (putS xs v)) ∧ Below w.heap.size w w' := by
  have hn8 : n ≤ 8 := by rw [← hn]; exact right_len (okR_right hok).1
  have hvv : -1000000000000 ≤ v ∧ v ≤ 1000000000000 := by have := (okR_right hok).2; unfold Fix.rgtB at this; exact of_decide_eq_true this
  have HSM := Lib.hid (right_small (okR_right hok).1)
  have HPS := Lib.hid (show (putS xs v).data.toList = putR xs v by unfold putS; rw [if_pos hok, str_data])
  have HS := Lib.hid hS
  have HN := Lib.hid hn
  have HH0 := Lib.hid (fun (W : World) => high_any n 1 W (by omega) (by decide) (by decide))
  obtain ⟨h0, hh0⟩ : ∃ h0 : ByteArray, ⟨(numB 1 n).toArray⟩ = h0 := ⟨_, rfl⟩
  have hh0d := Lib.hid (show h0.data.toList = numB 1 n by rw [← hh0, str_data])
  have hh0s : h0.size = 1 := by rw [← hh0, str_size, numB_len]
  rw [hh0] at HH0
  have hbx := Lib.hid (box_row w (.slice o n c) (.int .i64 v) 40)
  have HB0 := Lib.hid (show Below w.heap.size w (w.alloc (Obj.cells #[Value.slice o n c, Value.int .i64 v] 40)) from (Below.refl _ _).alloc (Nat.le_refl _) _)
  have hz0 : (w.alloc (Obj.cells #[Value.slice o n c, Value.int .i64 v] 40)).heap.size = w.heap.size + 1 := Array.size_push _
  clear hS hn hok hh0
  go_enter Try.func16, Try.ntmps16
  go_wp2_with fail
  refine (HH0.out _).mono ?_
  rintro e w1 ⟨rfl, b1⟩
  have HB1 := Lib.hid (HB0.out.trans (b1.mono HB0.out.size))
  have HX1 := Lib.hid ((b1.block w.heap.size (by omega)).trans hbx.out)
  have hz1 := b1.size
  clear b1
  go_wp2
  go_loopw [3, 4, 5] (fun v3 v4 v5 wr => ∃ (k : Nat) (b : ByteArray), v4 = .int .i64 k ∧ k ≤ n ∧ v3 = .string b ∧ Hid (b.data.toList ++ putL (xs.drop k) = numB 1 n ++ putL xs) ∧ b.size ≤ 1 + 512 * k ∧ Hid (Below w1.heap.size w1 wr)) (fun _ v4 _ _ => n - (Go.RowKit.intOf v4).toNat)
  case atStart => exact ⟨0, h0, rfl, Nat.zero_le _, rfl, by show _ = _; rw [hh0d.out]; rfl, by omega, Below.refl _ _⟩
  case round =>
    obtain ⟨k, b, rfl, hk, rfl, H, hbs, HB⟩ := hrel
    have hzw := HB.out.size
    obtain ⟨y0, y1⟩ := box_two ((HB.out.block w.heap.size (by omega)).trans HX1.out)
    by_cases hkn : k < n
    · have j1 : (k : Int) < n := by omega
      obtain ⟨x, hx⟩ := get_lt HN.out hkn
      obtain ⟨bA, off, rfl, hSA⟩ := (HS.out.below (HB1.out.trans (HB.out.mono HB1.out.size))).at hx
      have c0 := hSA.at0 k x hx
      have c1 := hSA.at1 k x hx
      have hsz := HSM.out x (List.mem_of_getElem? hx)
      obtain ⟨p, hp⟩ : ∃ p, x.1.size = p := ⟨_, rfl⟩
      obtain ⟨q, hq⟩ : ∃ q, x.2.size = q := ⟨_, rfl⟩
      have hp2 : p < 256 := by rw [← hp, Lib.size_eq]; exact hsz.1
      have hq2 : q < 256 := by rw [← hq, Lib.size_eq]; exact hsz.2
      have hbx2 := box_cells wr x
      obtain ⟨W1, hW1⟩ : ∃ W1, wr.alloc (Obj.cells #[Value.string x.1, Value.string x.2] 79) = W1 := ⟨_, rfl⟩
      rw [hW1] at hbx2
      have HW1 := Lib.hid hW1
      have HA1 := Lib.hid (show Below w1.heap.size w1 W1 by rw [← hW1]; exact HB.out.alloc hzw _)
      have hzA : W1.heap.size = wr.heap.size + 1 := by rw [← hW1]; exact Array.size_push _
      obtain ⟨a1, ha1⟩ : ∃ a1 : ByteArray, ⟨(numB 1 p).toArray⟩ = a1 := ⟨_, rfl⟩
      obtain ⟨a2, ha2⟩ : ∃ a2 : ByteArray, ⟨(numB 1 q).toArray⟩ = a2 := ⟨_, rfl⟩
      have a1s : a1.size = 1 := by rw [← ha1]; exact high_one hp2
      have a2s : a2.size = 1 := by rw [← ha2]; exact high_one hq2
      have HHG := Lib.hid (fun (z : Nat) (W : World) (hz : z < 256) (hb : Below W1.heap.size W1 W) => (show Calls Try.prog 38 #[.int .i64 z, .int .i64 1] W fun e w' => e = .returned (.string ⟨(numB 1 z).toArray⟩) ∧ (w'.cell? ⟨wr.heap.size, 0, none⟩ = some (.string x.1) ∧ w'.cell? ⟨wr.heap.size, 1, none⟩ = some (.string x.2)) ∧ Hid (Below W1.heap.size W1 w') from by
        refine (high_any z 1 W (by omega) (by decide) (by decide)).mono ?_
        rintro e w' ⟨rfl, h2⟩
        have h3 := hb.trans (h2.mono hb.size)
        exact ⟨rfl, box_two ((h3.block _ (by omega)).trans hbx2), h3⟩))
      have HH1 := Lib.hid (fun (W : World) (hb : Below W1.heap.size W1 W) => HHG.out p W hp2 hb)
      have HH2 := Lib.hid (fun (W : World) (hb : Below W1.heap.size W1 W) => HHG.out q W hq2 hb)
      rw [ha1] at HH1
      rw [ha2] at HH2
      have rb := Lib.hid (Below.refl W1.heap.size W1).drew
      obtain ⟨r1, r2⟩ := box_two (show W1.drew.heap[wr.heap.size]? = _ from hbx2)
      obtain ⟨s1, es1⟩ : ∃ s1, b ++ a1 = s1 := ⟨_, rfl⟩
      obtain ⟨s2, es2⟩ : ∃ s2, s1 ++ x.1 = s2 := ⟨_, rfl⟩
      obtain ⟨s3, es3⟩ : ∃ s3, s2 ++ a2 = s3 := ⟨_, rfl⟩
      obtain ⟨s4, es4⟩ : ∃ s4, s3 ++ x.2 = s4 := ⟨_, rfl⟩
      have z1 : s1.size = b.size + 1 := by rw [← es1, ByteArray.size_append, a1s]
      have z2 : s2.size = s1.size + p := by rw [← es2, ByteArray.size_append, hp]
      have z3 : s3.size = s2.size + 1 := by rw [← es3, ByteArray.size_append, a2s]
      have z4 : s4.size = s3.size + q := by rw [← es4, ByteArray.size_append, hq]
      have H4 := Lib.hid (show s4.data.toList ++ putL (xs.drop (k + 1)) = numB 1 n ++ putL xs by
        rw [← H.out, drop_at hx, putL, ← es4, ← es3, ← es2, ← es1, ← ha1, ← ha2, ← hp, ← hq]
        simp only [app_data, putT, Lib.size_eq, List.append_assoc])
      have k1 : ¬ (b.size + 1 > 9223372036854775807) := by omega
      have k2 : ¬ (s1.size + p > 9223372036854775807) := by omega
      have k3 : ¬ (s2.size + 1 > 9223372036854775807) := by omega
      have k4 : ¬ (s3.size + q > 9223372036854775807) := by omega
      have hb4 : s4.size ≤ 1 + 512 * (k + 1) := by omega
      clear hSA hx hsz hbx2 hW1 ha1 ha2 z1 z2 z3 z4 HHG
      go_wp2_with fail
      rw [HW1.out]
      go_region_held3 (fun w' => w'.cell? ⟨wr.heap.size, 0, none⟩ = some (.string x.1) ∧ w'.cell? ⟨wr.heap.size, 1, none⟩ = some (.string x.2)) (first | exact ⟨t1, t2⟩ | exact ⟨u1, u2⟩ | exact ⟨r1, r2⟩) (first
        | (go_at_call 38; go_fit (HH2.out _ ub); rintro e wq ⟨rfl, ⟨t1, t2⟩, tb⟩)
        | (go_at_call 38; go_fit (HH1.out _ rb); rintro e wq ⟨rfl, ⟨u1, u2⟩, ub⟩))
      have HB4 := Lib.hid (HA1.out.trans (tb.out.mono HA1.out.size))
      clear HH1 HH2 r1 r2 t1 t2 u1 u2 rb tb ub
      go_wp2
      go_roundw
      case rel => exact ⟨k + 1, s4, by go_num, by omega, rfl, H4, hb4, HB4⟩
      case measure => simp [Go.RowKit.intOf]; omega
    · have j1 : (n : Int) ≤ k := by omega
      obtain ⟨u, hu⟩ : ∃ u : Nat, v + 1000000000000 = u := ⟨(v + 1000000000000).toNat, by omega⟩
      have HH6 := Lib.hid (fun (W : World) => high_any u 6 W (by omega) (by decide) (by decide))
      obtain ⟨a6, ha6⟩ : ∃ a6 : ByteArray, ⟨(numB 6 u).toArray⟩ = a6 := ⟨_, rfl⟩
      have a6s : a6.size = 6 := by rw [← ha6, str_size, numB_len]
      rw [ha6] at HH6
      have H3 := Lib.hid (show b ++ a6 = putS xs v from bytes_ext (by
        have e1 : xs.drop k = [] := List.drop_eq_nil_of_le (by rw [HN.out]; omega)
        have h0 := H.out
        rw [e1, putL, List.append_nil] at h0
        rw [HPS.out, app_data, h0, ← ha6, putR, HN.out, hu, List.append_assoc]; rfl))
      have k1 : ¬ (b.size + 6 > 9223372036854775807) := by omega
      clear ha6
      go_wp2_with fail
      refine (HH6.out _).mono ?_
      rintro e w2 ⟨rfl, b2⟩
      have HB2 := Lib.hid (HB1.out.trans ((HB.out.trans (b2.mono HB.out.size)).mono HB1.out.size))
      clear b2
      go_wp2
      go_ret
      exact ⟨ret_s H3.out, HB2.out⟩

set_option maxHeartbeats 2000000 in
set_option maxRecDepth 100000 in
theorem drow_any (o : Option Addr) (n c : Nat) (xs : List Lab) (v : Int) (w : World) (hn : xs.length = n) (hm : n ≤ 1000000) (hv : ∀ x ∈ xs, x.1.size ≤ 1000 ∧ x.2.size ≤ 1000) (hS : SeesO w o xs) :
    Calls Try.prog 43 #[.agg #[.slice o n c, .int .i64 v]] w fun e w' => e = .returned (.bool (okR xs v)) ∧ Below w.heap.size w w' := by
  have HR := Lib.hid (fun (W : World) (hb : Below w.heap.size w W) => (show Calls Try.prog 49 #[.slice o n c] W fun e w' => e = .returned (.bool (rightB xs)) ∧ Below W.heap.size W w' from by
    have := rright_any o c xs W (by omega) (hS.below hb) hv
    rwa [hn] at this))
  have HF := Lib.hid (fun (W : World) => Fix.value_any v W)
  have hbx := Lib.hid (box_row w (.slice o n c) (.int .i64 v) 40)
  have HB0 := Lib.hid (show Below w.heap.size w (w.alloc (Obj.cells #[Value.slice o n c, Value.int .i64 v] 40)) from (Below.refl _ _).alloc (Nat.le_refl _) _)
  have hz0 : (w.alloc (Obj.cells #[Value.slice o n c, Value.int .i64 v] 40)).heap.size = w.heap.size + 1 := Array.size_push _
  have HO := Lib.hid (show okR xs v = (rightB xs && Fix.rgtB v) from rfl)
  clear hS hn hv hm
  cases hr : rightB xs with
  | false =>
    rw [hr] at HR HO
    go_enter Try.func43, Try.ntmps43
    go_wp2_with fail
    refine (HR.out _ HB0.out).mono ?_
    rintro e w1 ⟨rfl, b1⟩
    have HB1 := Lib.hid (HB0.out.trans (b1.mono HB0.out.size))
    clear b1
    go_wp2
    go_ret
    exact ⟨ret_bool (by rw [HO.out]; rfl), HB1.out⟩
  | true =>
    rw [hr] at HR HO
    go_enter Try.func43, Try.ntmps43
    go_wp2_with fail
    refine (HR.out _ HB0.out).mono ?_
    rintro e w1 ⟨rfl, b1⟩
    have HB1 := Lib.hid (HB0.out.trans (b1.mono HB0.out.size))
    obtain ⟨y0, y1⟩ := box_two ((b1.block w.heap.size (by omega)).trans hbx.out)
    clear b1
    go_wp2_with fail
    refine (HF.out _).mono ?_
    rintro e w2 ⟨rfl, rfl⟩
    go_wp2
    go_ret
    exact ⟨ret_bool (by rw [HO.out, Bool.true_and]), HB1.out⟩
end Go.Proofs.Ytldlfmeppcdbbaa.Row
