/- Labels: brought into order: the walk. -/
import Derived.Test.YtiopnccmhocaaaaGreatLi
import Derived.Shelf.SlSortCmp.NoneTotal
namespace Go.Proofs.YtiopnccmhocaaaaGreat
open Go.RowKit

theorem cmpLays20 (blk off size : Nat) (w : World) : CmpLays Tryz.prog 32 #[] encL 2 cmpN blk off size w :=
  fun _ _ _ _ x y => byName_any x y _
/-- The sort of a row of the call's own. -/
theorem sort_any {B cap : Nat} {g : Nat} {xs : List Lab} {w : World} (hm : xs.length ≤ 1000000) (h : w.ownsRow B 56 2 (.slice (some ⟨g, 0, none⟩) xs.length cap) xs.length (flatL xs)) :
    Calls Tryz.prog 31 #[.slice (some ⟨g, 0, none⟩) xs.length cap, .func (.func 32) #[] #[]] w fun e w' => e = .returned (.tuple #[]) ∧ ∃ s : List Lab, s.Perm xs ∧ s.Pairwise (fun a b => leN a b = true) ∧ w'.ownsRow B 56 2 (.slice (some ⟨g, 0, none⟩) xs.length cap) xs.length (flatL s) ∧ w.grownBy w' (some g) := by
  obtain ⟨hH, hg⟩ := holdsK_own h
  have eg : ∀ args w, (callFunc 32 args).run Tryz.prog w = .ok (.enter 32 args) w := enters_of Tryz.func32 (by kernel_rfl) rfl
  have hcon := AnyQ.slices_SortFunc Tryz.sortLab 2 Tryz.isAgg56 Tryz.sizeOf56 encL encL_len (fun x v hv => by simp [encL] at hv; rcases hv with rfl | rfl <;> rfl) cmpN swoN 32 #[] g 0 cap xs.toArray w eg (cmpLays20 g 0 xs.toArray.size w) hH hg (by simp; omega)
  change Calls Tryz.prog 31 #[.slice (some ⟨g, 0, none⟩) xs.length cap, .func (.func 32) #[] #[]] w _ at hcon
  refine hcon.mono ?_
  rintro e w' ⟨rfl, d', n, os, hp, hs, rfl⟩
  obtain ⟨s, rfl⟩ : ∃ s : List Lab, d' = s.toArray := ⟨d'.toList, by simp⟩
  have hl : s.length = xs.length := by simpa using hp.1
  refine ⟨rfl, s, ?_, ?_, own_sortK hl h, grownBy_sortK _⟩
  · have := hp.2.2
    have e1 : s.toArray.extract 0 xs.toArray.size = s.toArray := by simp [← hl]
    have e2 : xs.toArray.extract 0 xs.toArray.size = xs.toArray := by simp
    rw [e1, e2] at this
    simpa using this
  · refine sorted_of_sortedIn ?_
    have e1 : xs.toArray.size = s.length := by simp [hl]
    rw [e1] at hs
    exact hs
theorem sort_none (o : Option Addr) (cap : Nat) (w : World) : Calls Tryz.prog 31 #[.slice o 0 cap, .func (.func 32) #[] #[]] w fun e w' => e = .returned (.tuple #[]) ∧ w' = w :=
  AnyF.slices_SortFunc_none Tryz.sortLab o cap _ w

theorem sortV_any {B : Nat} {v : Value} {xs : List Lab} {w : World} (hm : xs.length ≤ 1000000) (h : w.ownsRow B 56 2 v xs.length (flatL xs)) :
    Calls Tryz.prog 31 #[v, .func (.func 32) #[] #[]] w fun e w' => e = .returned (.tuple #[]) ∧ ∃ s : List Lab, s.Perm xs ∧ s.Pairwise (fun a b => leN a b = true) ∧ w'.ownsRow B 56 2 v s.length (flatL s) ∧ ∀ w0, B ≤ w0.heap.size → Below B w0 w → Below B w0 w' := by
  have h9 := h
  rcases h9.2 with ⟨rfl, h0⟩ | ⟨g, cap, cur, rfl, hbg, hb, h1, h2, h3, h4⟩
  · have h0' : xs = [] := List.eq_nil_of_length_eq_zero h0
    subst h0'
    refine (sort_none none 0 w).mono ?_
    rintro e w' ⟨rfl, rfl⟩
    exact ⟨rfl, [], List.Perm.refl _, List.Pairwise.nil, World.ownsRow_nil _ _ _ _, fun _ _ h => h⟩
  · refine (sort_any hm h).mono ?_
    rintro e w' ⟨rfl, s, hp, hs, ho, hg⟩
    refine ⟨rfl, s, hp, hs, by rw [hp.length_eq]; exact ho, fun w0 hB0 hw0 => Below.grown hw0 hg (Nat.le_trans hB0 hw0.size) (fun j hj => ?_)⟩
    have : g = j := Option.some.inj hj
    omega

/-- What Tidy leaves: the labels in order, in a row of the call's own; or none, and the error. -/
def TidiedTo (B : Nat) (xs : List Lab) (e : Ending) (w' : World) : Prop :=
  (tidyB xs = true ∧ ∃ v, e = .returned (.tuple #[v, .int .i64 0]) ∧ w'.ownsRow B 56 2 v (sortL xs).length (flatL (sortL xs))) ∨ (tidyB xs = false ∧ e = .returned (.tuple #[.slice none 0 0, .int .i64 1]))

set_option maxHeartbeats 4000000 in
set_option maxRecDepth 100000 in
theorem tidy_any (o : Option Addr) (cap : Nat) (xs : List Lab) (w : World) (hm : xs.length ≤ 1000000) (hS : SeesO w o xs) (hv : ∀ x ∈ xs, x.1.size ≤ 281474976710656 ∧ x.2.size ≤ 281474976710656) :
    Calls Tryz.prog 9 #[.slice o xs.length cap] w fun e w' => TidiedTo w.heap.size xs e w' ∧ Below w.heap.size w w' := by
  obtain ⟨i0, hi, hz0, hz1, hz2⟩ := info_parts info38
  obtain ⟨n, hn⟩ : ∃ n, xs.length = n := ⟨_, rfl⟩
  have HN := Lib.hid hn
  rw [hn] at hm ⊢
  clear hn
  by_cases h8 : 8 < n
  · have i1 : (8 : Int) < n := by omega
    have t1 : decide ((8 : Int) < n) = true := by simpa using i1
    have HT := Lib.hid (tidy_len (xs := xs) (by rw [HN.out]; exact h8))
    clear h8
    go_enter Tryz.func9, Tryz.ntmps9
    go_wp2
    go_ret2
    exact ⟨.inr ⟨HT.out, rfl⟩, Below.refl _ _⟩
  · have i1 : (n : Int) ≤ 8 := by omega
    have t1 : decide ((8 : Int) < n) = false := by simp; omega
    have HSO := Lib.hid hS
    have HV := Lib.hid hv
    have HC := Lib.hid (fun (x : Lab) W (h : x.1.size ≤ 281474976710656 ∧ x.2.size ≤ 281474976710656) => cloneL_any x.1 x.2 W h.1 h.2)
    clear hS hv
    go_enter Tryz.func9, Tryz.ntmps9
    go_wp2
    go_loopw [4, 6, 12] (fun v4 v6 v12 wr => ∃ k : Nat, v12 = .int .i64 k ∧ k ≤ n ∧ wr.ownsRow w.heap.size 56 2 v4 k (flatL (xs.take k)) ∧ Hid (Below w.heap.size w wr)) (fun _ _ v12 _ => n - (intOf v12).toNat)
    case atStart => exact ⟨0, rfl, Nat.zero_le _, World.ownsRow_nil _ _ _ _, Below.refl _ _⟩
    case round =>
      obtain ⟨k, rfl, hk, hown, HB⟩ := hrel
      by_cases hkn : k < n
      · have j1 : (k : Int) < n := by omega
        obtain ⟨x, hx⟩ := get_lt HN.out hkn
        obtain ⟨b, off, rfl, hS⟩ := (HSO.out.below (HB.out.mono (Nat.le_refl _))).at hx
        have c0 := hS.at0 k x hx
        have c1 := hS.at1 k x hx
        have H2 := Lib.hid (show flatL (xs.take (k + 1)) = flatL (xs.take k) ++ [.string x.1, .string x.2] by rw [List.take_add_one, hx]; simp [flatL])
        have hsz := Lib.hid (HV.out x (List.mem_of_getElem? hx))
        have HB1 := Lib.hid (show Below w.heap.size w (wr.alloc (Obj.cells #[Value.string x.1, Value.string x.2] 56)) from HB.out.alloc (by have := HB.out.size; omega) _)
        have HO := Lib.hid (hown.alloc (Obj.cells #[Value.string x.1, Value.string x.2] 56))
        clear hS hx hown
        go_wp2_with fail
        refine (HC.out x _ hsz.out).mono ?_
        rintro e w2 ⟨rfl, b2⟩
        have HB2 := Lib.hid (HB1.out.trans (b2.mono HB1.out.size))
        have hO2 := own_grown HO.out b2
        have hzw := HB2.out.size
        clear b2
        go_wp2_with (at_builtin; go_must (refine wpList_append_own _ rfl _ _ 22 rfl w.heap.size 56 i0 (.agg #[.string ⟨#[]⟩, .string ⟨#[]⟩]) 2 32 Tryz.underlying22 hi hz0 hz1 hz2 rfl (by decide) _ _ _ rfl (hO2.alloc _) ⟨w2.heap.size, 0, none⟩ 1 1 [.string x.1, .string x.2] rfl rfl (cells_2 _ _ _ _) (one_2 _ _) (by unfold maxLen; omega) (by omega) (by simp; omega) ?_); intro v' w3 hown' hgrow3 hnil3)
        have hB3 : Below w.heap.size w w3 := Below.grown (HB2.out.alloc (by omega) _) hgrow3 (by simp; omega) (fun j hj => by have := (hO2.lt _ hj).1; omega)
        have hO3 : w3.ownsRow w.heap.size 56 2 v' (k + 1) (flatL (xs.take (k + 1))) := by
          rw [H2.out]; exact hown'
        have HB3 := Lib.hid hB3
        clear hown' hgrow3 hnil3 hO2 hB3 hzw
        go_roundw
        case rel => exact ⟨k + 1, by go_num, by omega, hO3, HB3⟩
        case measure => simp [intOf]; omega
      · have hkk : k = n := by omega
        subst hkk
        have j1 : ¬ (k : Int) < k := by omega
        have hO : wr.ownsRow w.heap.size 56 2 u4 xs.length (flatL xs) := by
          rw [HN.out]
          have := hown
          rwa [List.take_of_length_le (by rw [HN.out]; omega)] at this
        have hlen : xs.length ≤ 1000000 := by rw [HN.out]; omega
        have HSV := Lib.hid (sortV_any hlen hO)
        clear hown hO hlen
        go_wp2_with fail
        refine HSV.out.mono ?_
        rintro e w2 ⟨rfl, s, hp, hs, ho, hb⟩
        have HB2 := Lib.hid (hb w (Nat.le_refl _) HB.out)
        have hlen2 : s.length = k := by rw [hp.length_eq]; exact HN.out
        obtain ⟨o2, c2, hv2, hsee, hm2⟩ := own_sees ho
        obtain ⟨hr1, hr2⟩ := sorted_right hp hs
        have HO2 := Lib.hid ho
        have HR := Lib.hid (right_any o2 c2 s w2 hm2 hsee)
        rw [hlen2] at hv2 HR
        subst hv2
        clear hb hp hs hsee hm2 ho hlen2 HSV
        have hzw := Lib.hid HB2.out.size
        cases hrs : rightB s with
        | true =>
          have HE := Lib.hid (hr1 hrs)
          have HT := Lib.hid (hr2.symm.trans hrs)
          rw [hrs] at HR
          clear hr1 hr2 hrs
          go_wp2_with fail
          refine HR.out.mono ?_
          rintro e w3 ⟨rfl, b3⟩
          have HO3 := Lib.hid (own_grown HO2.out b3)
          have HB3 := Lib.hid (HB2.out.trans (b3.mono hzw.out))
          clear b3
          go_wp2
          go_ret2
          refine ⟨.inl ⟨HT.out, _, rfl, ?_⟩, HB3.out⟩
          rw [← HE.out]
          exact HO3.out
        | false =>
          have HT := Lib.hid (hr2.symm.trans hrs)
          rw [hrs] at HR
          clear hr1 hr2 hrs
          go_wp2_with fail
          refine HR.out.mono ?_
          rintro e w3 ⟨rfl, b3⟩
          have HB3 := Lib.hid (HB2.out.trans (b3.mono hzw.out))
          clear b3
          go_wp2
          go_ret2
          exact ⟨.inr ⟨HT.out, rfl⟩, HB3.out⟩
end Go.Proofs.YtiopnccmhocaaaaGreat
