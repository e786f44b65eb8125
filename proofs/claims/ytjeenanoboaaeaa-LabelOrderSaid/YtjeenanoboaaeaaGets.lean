/- The walk of the statement on the value of a name. -/
import Derived.Test.YtjeenanoboaaeaaPicks
namespace Go.Proofs.Ytjeenanoboaaeaa
open Go.RowKit

theorem inB_iff (ns : List ByteArray) (x : Lab) : inB ns x = true ↔ x.1 ∈ ns := Lib.containsS_iff ns x.1
theorem toList_inj {a b : ByteArray} : a.toList = b.toList ↔ a = b := by
  rw [ByteArray.toList_eq, ByteArray.toList_eq]; exact ⟨bytes_ext, fun h => by rw [h]⟩
theorem gets_filter (name : ByteArray) : ∀ T : List Lab, (T.filter (inB [name]) = [] → getL name T = ⟨#[]⟩) ∧ ∀ y ys, T.filter (inB [name]) = y :: ys → getL name T = y.2
  | [] => ⟨fun _ => rfl, fun y ys h => by simp at h⟩
  | x :: xs => by
    obtain ⟨h1, h2⟩ := gets_filter name xs
    by_cases hx : x.1 = name
    · have hi : inB [name] x = true := (inB_iff _ _).2 (by simp [hx])
      rw [List.filter_cons, if_pos hi, getL, if_pos (toList_inj.2 hx)]
      exact ⟨(fun h => by cases h), (fun y ys h => by injection h with e1 _; rw [e1])⟩
    · have hi : ¬ inB [name] x = true := fun h => hx (by simpa using (inB_iff _ _).1 h)
      rw [List.filter_cons, if_neg hi, getL, if_neg (fun h => hx (toList_inj.1 h))]
      exact ⟨h1, h2⟩
theorem one_of {name : ByteArray} {T : List Lab} (h : rightB T = true) {y : Lab} {ys : List Lab} (hf : T.filter (inB [name]) = y :: ys) : ys = [] := by
  have hp := ((right_iff T).1 h).2.1.filter (inB [name])
  rw [hf] at hp
  cases ys with
  | nil => rfl
  | cons z zs =>
    exfalso
    have h1 := (List.pairwise_cons.1 hp).1 z List.mem_cons_self
    have hy : y ∈ T.filter (inB [name]) := by rw [hf]; simp
    have hz : z ∈ T.filter (inB [name]) := by rw [hf]; simp
    have ey := (inB_iff _ _).1 (List.mem_filter.1 hy).2
    have ez := (inB_iff _ _).1 (List.mem_filter.1 hz).2
    simp at ey ez
    rw [show nm y = nm z by unfold nm; rw [ey, ez]] at h1
    exact lt_asymm' h1 h1
theorem cmpV_refl (x : Lab) : cmp2 x x = 0 := by
  have h1 : cmpN x x = 0 := (cmpB_spec _ _).2.1.2 rfl
  have h2 : cmpV x x = 0 := (cmpB_spec _ _).2.1.2 rfl
  unfold cmp2; rw [if_pos h1, h2]
theorem cmpL_refl : ∀ xs : List Lab, cmpL xs xs = 0
  | [] => rfl
  | x :: xs => by rw [cmpL, if_pos (cmpV_refl x), cmpL_refl xs]
theorem sort_sizes {xs : List Lab} {b c : Nat} (h : ∀ x ∈ xs, x.1.size ≤ b ∧ x.2.size ≤ c) : ∀ x ∈ sortL xs, x.1.size ≤ b ∧ x.2.size ≤ c :=
  fun x hx => h x ((sortL_perm xs).mem_iff.1 hx)

set_option maxHeartbeats 8000000 in
set_option maxRecDepth 100000 in
theorem gets_any (o : Option Addr) (cap : Nat) (xs : List Lab) (name : ByteArray) (w : World) (hm : xs.length ≤ maxLen) (hS : SeesO w o xs) :
    Calls Try.prog 6 #[.slice o xs.length cap, .string name] w fun e w' => e = .returned (.bool true) ∧ Below w.heap.size w w' := by
  have HAL := Lib.hid (fun W => alive_any W)
  have HLI := Lib.hid (light_any o cap xs w hm hS)
  obtain ⟨n, hn⟩ : ∃ n, xs.length = n := ⟨_, rfl⟩
  have HN := Lib.hid hn
  rw [hn] at HLI ⊢
  clear hn hm
  cases hli : lightB xs with
  | false =>
    rw [hli] at HLI
    clear hli hS
    go_enter Try.func6, Try.ntmps6
    go_wp2_with fail
    refine HLI.out.mono ?_
    rintro e w1 ⟨rfl, b1⟩
    go_wp2_with fail
    refine (HAL.out _).mono ?_
    rintro e w2 ⟨rfl, b2⟩
    go_wp2
    go_ret
    exact ⟨rfl, b1.trans (b2.mono b1.size)⟩
  | true =>
    rw [hli] at HLI
    obtain ⟨hx20, hxs⟩ := light_sizes hli
    have HXS := Lib.hid hxs
    have hn20 : n ≤ 20 := by rw [← HN.out]; exact hx20
    have HS0 := Lib.hid hS
    clear hli hS hxs hx20
    by_cases h10 : 100 < name.size
    · have t1 : decide ((100 : Int) < name.size) = true := by simp; omega
      have i1 : (100 : Int) < name.size := by omega
      go_enter Try.func6, Try.ntmps6
      go_wp2_with fail
      refine HLI.out.mono ?_
      rintro e w1 ⟨rfl, b1⟩
      go_wp2_with fail
      refine (HAL.out _).mono ?_
      rintro e w2 ⟨rfl, b2⟩
      go_wp2
      go_ret
      exact ⟨rfl, b1.trans (b2.mono b1.size)⟩
    · have t1 : decide ((100 : Int) < name.size) = false := by simp; omega
      have i1 : (name.size : Int) ≤ 100 := by omega
      have HTI := Lib.hid (fun (W : World) (h : SeesO W o xs) => tidy_any o cap xs W (by rw [HN.out]; omega) h (small_sizes HXS.out))
      rw [HN.out] at HTI
      go_enter Try.func6, Try.ntmps6
      go_wp2_with fail
      refine HLI.out.mono ?_
      rintro e w1 ⟨rfl, b1⟩
      have HS1 := Lib.hid (HS0.out.below b1)
      have HB1 := Lib.hid b1
      clear b1
      go_wp2_with fail
      refine (HAL.out _).mono ?_
      rintro e w2 ⟨rfl, b2⟩
      have HS2 := Lib.hid (HS1.out.below b2)
      have HB2 := Lib.hid (HB1.out.trans (b2.mono HB1.out.size))
      clear b2 HS1 HB1
      go_wp2_with fail
      refine (HTI.out _ HS2.out).mono ?_
      rintro e w3 ⟨ht, b3⟩
      have HB3 := Lib.hid (HB2.out.trans (b3.mono HB2.out.size))
      clear b3 HB2
      rcases ht with ⟨hti, v, rfl, hown⟩ | ⟨_, rfl⟩
      case inr =>
        go_wp2
        go_ret
        exact ⟨rfl, HB3.out⟩
      obtain ⟨T, hT⟩ : ∃ T, sortL xs = T := ⟨_, rfl⟩
      have hti2 : rightB T = true := by rw [← hT]; exact hti
      have hts : ∀ x ∈ T, x.1.size ≤ 200 ∧ x.2.size ≤ 200 := by rw [← hT]; exact sort_sizes HXS.out
      have htl : T.length = n := by rw [← hT, (sortL_perm xs).length_eq]; exact HN.out
      rw [hT] at hown
      obtain ⟨ot, ct, rfl, hst, htm⟩ := own_sees hown
      rw [htl]
      have HR := Lib.hid hti2
      have HTS := Lib.hid hts
      have HTL := Lib.hid htl
      have HT3 := Lib.hid hst
      clear hti hti2 hts htl hown hst htm hT
      obtain ⟨X, hX⟩ : ∃ X, T.filter (inB [name]) = X := ⟨_, rfl⟩
      obtain ⟨nx, hnx⟩ : ∃ nx, X.length = nx := ⟨_, rfl⟩
      have HX := Lib.hid hX
      have HNX := Lib.hid hnx
      have HGF := Lib.hid (gets_filter name T)
      clear hX hnx
      have hbk : Below w3.heap.size w3 (w3.alloc (Obj.cells #[Value.string name] 9)) := (Below.refl _ _).alloc (Nat.le_refl _) _
      have hnsee : SeesN (w3.alloc (Obj.cells #[Value.string name] 9)) (some ⟨w3.heap.size, 0, none⟩) [name] := .inr ⟨w3.heap.size, 0, rfl, by simp, fun j hj => by
        have hj0 : j = 0 := by simp at hj; omega
        subst hj0; simp⟩
      have HO := Lib.hid (only_sees ot (some ⟨w3.heap.size, 0, none⟩) ct 1 n 1 nx T X [name] _ HTL.out rfl HX.out HNX.out (by omega) (by omega) (HT3.out.below hbk) hnsee HTS.out)
      have HT4 := Lib.hid (HT3.out.below hbk)
      have HB4 := Lib.hid (HB3.out.trans (hbk.mono HB3.out.size))
      clear hbk hnsee
      go_wp2_with fail
      refine HO.out.mono ?_
      rintro e w5 ⟨⟨ox, cx, rfl, hsx⟩, b5⟩
      have HT5 := Lib.hid (HT4.out.below b5)
      have HB5 := Lib.hid (HB4.out.trans (b5.mono HB4.out.size))
      have HX5 := Lib.hid hsx
      clear b5 hsx HT4 HB4 HT3 HB3 HO
      cases hXe : X with
      | nil =>
        have hn0 : nx = 0 := by rw [← HNX.out, hXe]; rfl
        have hg := HGF.out.1 (by rw [HX.out, hXe])
        subst hn0
        have HG := Lib.hid (show ∀ (W : World), SeesO W ot T → Calls Try.prog 16 #[.slice ot n ct, .string name] W fun e w' => e = .returned (.string ⟨#[]⟩) ∧ Below W.heap.size W w' from fun W h => by
          have := get_any ot ct T name W (by rw [HTL.out]; unfold maxLen; omega) h (fun x hx => by have := HTS.out x hx; omega)
          rwa [hg, HTL.out] at this)
        clear hXe hg
        go_wp2_with fail
        refine (HG.out _ HT5.out).mono ?_
        rintro e w6 ⟨rfl, b6⟩
        have HB6 := Lib.hid (HB5.out.trans (b6.mono HB5.out.size))
        go_wp2
        go_ret
        exact ⟨rfl, HB6.out⟩
      | cons y ys =>
        have hys : ys = [] := one_of HR.out (by rw [HX.out]; exact hXe)
        have hn1 : nx = 1 := by rw [← HNX.out, hXe, hys]; rfl
        have hg := HGF.out.2 y ys (by rw [HX.out]; exact hXe)
        subst hn1
        rw [hXe] at HX5
        obtain ⟨bx, fx, rfl, hsx⟩ := HX5.out.at (k := 0) (x := y) rfl
        have hc1 := hsx.at1 0 y rfl
        simp only [Nat.zero_mul, Nat.add_zero] at hc1
        have r1 := hc1
        have HY := Lib.hid (show Hid (Below w.heap.size w w5) ∧ SeesO w5 ot T ∧ w5.cell? ⟨bx, fx + 1, none⟩ = some (.string y.2) ∧ bx < w5.heap.size from ⟨HB5.out, HT5.out, hc1, hsx.low⟩)
        have r2 := HY
        have STEP : ∀ W W' : World, (Hid (Hid (Below w.heap.size w W) ∧ SeesO W ot T ∧ W.cell? ⟨bx, fx + 1, none⟩ = some (.string y.2) ∧ bx < W.heap.size)) → Below W.heap.size W W' → (Hid (Hid (Below w.heap.size w W') ∧ SeesO W' ot T ∧ W'.cell? ⟨bx, fx + 1, none⟩ = some (.string y.2) ∧ bx < W'.heap.size)) := fun W W' h hb =>
          ⟨h.out.1.out.trans (hb.mono h.out.1.out.size), h.out.2.1.below hb, (hb.cell (p := ⟨bx, fx + 1, none⟩) h.out.2.2.2).trans h.out.2.2.1, Nat.lt_of_lt_of_le h.out.2.2.2 hb.size⟩
        have HCG := Lib.hid (fun (W : World) (h : Hid (Hid (Below w.heap.size w W) ∧ SeesO W ot T ∧ W.cell? ⟨bx, fx + 1, none⟩ = some (.string y.2) ∧ bx < W.heap.size)) => show Calls Try.prog 16 #[.slice ot n ct, .string name] W fun e w' => e = .returned (.string y.2) ∧ w'.cell? ⟨bx, fx + 1, none⟩ = some (.string y.2) ∧ Hid (Hid (Below w.heap.size w w') ∧ SeesO w' ot T ∧ w'.cell? ⟨bx, fx + 1, none⟩ = some (.string y.2) ∧ bx < w'.heap.size) by
          have := get_any ot ct T name W (by rw [HTL.out]; unfold maxLen; omega) h.out.2.1 (fun x hx => by have := HTS.out x hx; omega)
          rw [hg, HTL.out] at this
          exact this.mono fun e w' q => ⟨q.1, (STEP W w' h q.2).out.2.2.1, STEP W w' h q.2⟩)
        have HCR := Lib.hid (fun (W : World) (h : Hid (Hid (Below w.heap.size w W) ∧ SeesO W ot T ∧ W.cell? ⟨bx, fx + 1, none⟩ = some (.string y.2) ∧ bx < W.heap.size)) => show Calls Try.prog 17 #[.slice ot n ct] W fun e w' => e = .returned (.bool true) ∧ w'.cell? ⟨bx, fx + 1, none⟩ = some (.string y.2) ∧ Hid (Hid (Below w.heap.size w w') ∧ SeesO w' ot T ∧ w'.cell? ⟨bx, fx + 1, none⟩ = some (.string y.2) ∧ bx < w'.heap.size) by
          have := right_any ot ct T W (by rw [HTL.out]; unfold maxLen; omega) h.out.2.1
          rw [HR.out, HTL.out] at this
          exact this.mono fun e w' q => ⟨q.1, (STEP W w' h q.2).out.2.2.1, STEP W w' h q.2⟩)
        have HCC := Lib.hid (fun (W : World) (h : Hid (Hid (Below w.heap.size w W) ∧ SeesO W ot T ∧ W.cell? ⟨bx, fx + 1, none⟩ = some (.string y.2) ∧ bx < W.heap.size)) => show Calls Try.prog 11 #[.slice ot n ct, .slice ot n ct] W fun e w' => e = .returned (.int .i64 0) ∧ w'.cell? ⟨bx, fx + 1, none⟩ = some (.string y.2) ∧ Hid (Hid (Below w.heap.size w w') ∧ SeesO w' ot T ∧ w'.cell? ⟨bx, fx + 1, none⟩ = some (.string y.2) ∧ bx < w'.heap.size) by
          have := compare_any ot ot ct ct T T W (by rw [HTL.out]; unfold maxLen; omega) (by rw [HTL.out]; unfold maxLen; omega) h.out.2.1 h.out.2.1
          rw [cmpL_refl, HTL.out] at this
          exact this.mono fun e w' q => ⟨q.1, (STEP W w' h q.2).out.2.2.1, STEP W w' h q.2⟩)
        have r3 := Lib.hid (show Hid (Below w.heap.size w w5.drew) ∧ SeesO w5.drew ot T ∧ w5.drew.cell? ⟨bx, fx + 1, none⟩ = some (.string y.2) ∧ bx < w5.drew.heap.size from ⟨HB5.out.drew, HT5.out.below (Below.refl _ _).drew, hc1, hsx.low⟩)
        clear hXe hys hg hc1 hsx STEP HY r2 HX5
        have te : (y.2.toList == y.2.toList) = true := beq_self_eq_true _
        go_wp2_with fail
        go_region_held3 (fun w' => w'.cell? ⟨bx, fx + 1, none⟩ = some (.string y.2) ∧ Hid (Hid (Below w.heap.size w w') ∧ SeesO w' ot T ∧ w'.cell? ⟨bx, fx + 1, none⟩ = some (.string y.2) ∧ bx < w'.heap.size)) (first | exact ⟨s1, s2⟩ | exact ⟨r1, r3⟩) (first | (go_at_call 16; refine (HCG.out _ (by first | exact s2 | exact r3)).mono ?_; rintro e wq ⟨rfl, s1, s2⟩) | (go_at_call 17; refine (HCR.out _ (by first | exact s2 | exact r3)).mono ?_; rintro e wq ⟨rfl, s1, s2⟩) | (go_at_call 11; refine (HCC.out _ (by first | exact s2 | exact r3)).mono ?_; rintro e wq ⟨rfl, s1, s2⟩))
        have hs := s2.out.1.out
        go_wp2
        go_ret
        exact ⟨rfl, hs⟩
end Go.Proofs.Ytjeenanoboaaeaa
