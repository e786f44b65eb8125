/- The sorts of groups and of rows. -/
import Derived.Test.YtbdnonphkobkoaaGreatGrc
import Derived.Test.YtbdnonphkobkoaaGreatGrd
import Derived.Test.YtbdnonphkobkoaaGreatSwr
namespace Go.Proofs.YtbdnonphkobkoaaGreat.Grp
open Go.RowKit Go.Lib Go.Sort Vec

set_option maxHeartbeats 2000000 in
set_option maxRecDepth 100000 in
theorem cmpOne_gr (o1 o2 p1 p2 : Option Addr) (n1 c1 n2 c2 m1 d1 m2 d2 : Nat) (xs ys : Labs) (w : World) (e1 : xs.length = n1) (e2 : ys.length = n2) (hm : xs.length ≤ maxLen) (hm2 : ys.length ≤ maxLen) (h1 : Go.Proofs.YtbdnonphkobkoaaGreat.SeesO w o1 xs) (h2 : Go.Proofs.YtbdnonphkobkoaaGreat.SeesO w o2 ys) :
    Calls Tryz.prog 133 #[.agg #[.slice o1 n1 c1, .slice p1 m1 d1], .agg #[.slice o2 n2 c2, .slice p2 m2 d2]] w fun e w' => e = .returned (.int .i64 (cmpL xs ys)) ∧ Gr w w' := by
  subst e1 e2
  have HC := Lib.hid (fun W (hb : Below w.heap.size w W) => compare_gr o1 o2 c1 c2 xs ys W hm hm2 (h1.below hb) (h2.below hb))
  have HB := Lib.hid (((Gr.refl w).alloc (.cells #[.slice o1 xs.length c1, .slice p1 m1 d1] 115)).alloc (.cells #[.slice o2 ys.length c2, .slice p2 m2 d2] 115))
  clear h1 h2 hm hm2
  generalize xs.length = n1 at *
  generalize ys.length = n2 at *
  go_enter Tryz.func133, Tryz.ntmps133
  go_wp2_with fail
  refine (HC.out _ HB.out.below).mono ?_
  rintro e w' ⟨rfl, hb⟩
  go_wp2
  go_ret
  exact ⟨rfl, HB.out.trans hb⟩

set_option maxHeartbeats 2000000 in
set_option maxRecDepth 100000 in
theorem cmpDo_gr (o1 o2 : Option Addr) (n1 c1 n2 c2 : Nat) (v1 v2 : Int) (xs ys : Labs) (w : World) (e1 : xs.length = n1) (e2 : ys.length = n2) (hm : xs.length ≤ maxLen) (hm2 : ys.length ≤ maxLen) (h1 : Go.Proofs.YtbdnonphkobkoaaGreat.SeesO w o1 xs) (h2 : Go.Proofs.YtbdnonphkobkoaaGreat.SeesO w o2 ys) :
    Calls Tryz.prog 100 #[.agg #[.slice o1 n1 c1, .int .i64 v1], .agg #[.slice o2 n2 c2, .int .i64 v2]] w fun e w' => e = .returned (.int .i64 (cmpL xs ys)) ∧ Gr w w' := by
  subst e1 e2
  have HC := Lib.hid (fun W (hb : Below w.heap.size w W) => compare_gr o1 o2 c1 c2 xs ys W hm hm2 (h1.below hb) (h2.below hb))
  have HB := Lib.hid (((Gr.refl w).alloc (.cells #[.slice o1 xs.length c1, .int .i64 v1] 53)).alloc (.cells #[.slice o2 ys.length c2, .int .i64 v2] 53))
  clear h1 h2 hm hm2
  generalize xs.length = n1 at *
  generalize ys.length = n2 at *
  go_enter Tryz.func100, Tryz.ntmps100
  go_wp2_with fail
  refine (HC.out _ HB.out.below).mono ?_
  rintro e w' ⟨rfl, hb⟩
  go_wp2
  go_ret
  exact ⟨rfl, HB.out.trans hb⟩

def cmpI (a b : Int) : Int := if a < b then -1 else if b < a then 1 else 0
theorem cmpI_lt (a b : Int) : cmpI a b < 0 ↔ a < b := by unfold cmpI; split <;> (try split) <;> omega
set_option maxRecDepth 100000 in
theorem nan_any (a : Int) (w : World) : Calls Tryz.prog 192 #[.int .i64 a] w fun e w' => e = .returned (.bool false) ∧ w' = w := by
  have h : (a == a) = true := by simp
  go_enter Tryz.func192, Tryz.ntmps192
  go_wp2
  go_ret
  exact ⟨by simp, rfl⟩
set_option maxRecDepth 100000 in
theorem cmpInt_any (a b : Int) (w : World) : Calls Tryz.prog 162 #[.int .i64 a, .int .i64 b] w fun e w' => e = .returned (.int .i64 (cmpI a b)) ∧ w' = w := by
  have HA := Lib.hid (fun W => nan_any a W)
  have HB := Lib.hid (fun W => nan_any b W)
  by_cases h1 : a < b
  · have HC := Lib.hid (show -1 = cmpI a b by unfold cmpI; rw [if_pos h1])
    go_enter Tryz.func162, Tryz.ntmps162
    go_wp2_with fail
    refine (HA.out _).mono ?_
    rintro e w1 ⟨rfl, rfl⟩
    go_wp2_with fail
    refine (HB.out _).mono ?_
    rintro e w1 ⟨rfl, rfl⟩
    go_wp2
    go_ret
    exact ⟨ret_int2 HC.out, rfl⟩
  · by_cases h2 : b < a
    · have HC := Lib.hid (show 1 = cmpI a b by unfold cmpI; rw [if_neg h1, if_pos h2])
      have h3 : a > b := h2
      go_enter Tryz.func162, Tryz.ntmps162
      go_wp2_with fail
      refine (HA.out _).mono ?_
      rintro e w1 ⟨rfl, rfl⟩
      go_wp2_with fail
      refine (HB.out _).mono ?_
      rintro e w1 ⟨rfl, rfl⟩
      go_wp2
      go_ret
      exact ⟨ret_int2 HC.out, rfl⟩
    · have HC := Lib.hid (show 0 = cmpI a b by unfold cmpI; rw [if_neg h1, if_neg h2])
      have h3 : ¬ a > b := h2
      go_enter Tryz.func162, Tryz.ntmps162
      go_wp2_with fail
      refine (HA.out _).mono ?_
      rintro e w1 ⟨rfl, rfl⟩
      go_wp2_with fail
      refine (HB.out _).mono ?_
      rintro e w1 ⟨rfl, rfl⟩
      go_wp2
      go_ret
      exact ⟨ret_int2 HC.out, rfl⟩

set_option maxHeartbeats 2000000 in
set_option maxRecDepth 100000 in
theorem cmpV_gr (o1 o2 : Option Addr) (n1 c1 n2 c2 : Nat) (v1 v2 : Int) (w : World) :
    Calls Tryz.prog 161 #[.agg #[.slice o1 n1 c1, .int .i64 v1], .agg #[.slice o2 n2 c2, .int .i64 v2]] w fun e w' => e = .returned (.int .i64 (cmpI v2 v1)) ∧ Gr w w' := by
  have HC := Lib.hid (fun W => cmpInt_any v2 v1 W)
  have HB := Lib.hid (((Gr.refl w).alloc (.cells #[.slice o1 n1 c1, .int .i64 v1] 53)).alloc (.cells #[.slice o2 n2 c2, .int .i64 v2] 53))
  go_enter Tryz.func161, Tryz.ntmps161
  go_wp2_with fail
  refine (HC.out _).mono ?_
  rintro e w' ⟨rfl, rfl⟩
  go_wp2
  go_ret
  exact ⟨rfl, HB.out⟩

set_option maxHeartbeats 2000000 in
set_option maxRecDepth 100000 in
theorem insNone_g (c : Nat) (f : Value) (w : World) : Calls Tryz.prog 188 #[.slice none 0 c, .int .i64 0, .int .i64 0, f] w fun e w' => e = .returned (.tuple #[]) ∧ w' = w := by
  go_enter Tryz.func188, Tryz.ntmps188
  go_wp2
  refine wp_loop_rounds 1 ?_
  rw [rounds_succ]
  go_wp2
  go_end0
  exact ⟨rfl, rfl⟩
set_option maxHeartbeats 2000000 in
set_option maxRecDepth 100000 in
theorem stableNone_g (c : Nat) (f : Value) (w : World) : Calls Tryz.prog 157 #[.slice none 0 c, .int .i64 0, f] w fun e w' => e = .returned (.tuple #[]) ∧ w' = w := by
  have HC := Lib.hid (fun W => insNone_g c f W)
  go_enter Tryz.func157, Tryz.ntmps157
  go_wp2
  refine wp_loop_rounds 1 ?_
  rw [rounds_succ]
  go_wp2_with fail
  refine (HC.out _).mono ?_
  rintro e w' ⟨rfl, rfl⟩
  go_wp2
  refine wp_loop_rounds 1 ?_
  rw [rounds_succ]
  go_wp2
  go_end0
  exact ⟨rfl, rfl⟩
set_option maxHeartbeats 2000000 in
set_option maxRecDepth 100000 in
theorem sortNone_g (c : Nat) (f : Value) (w : World) : Calls Tryz.prog 132 #[.slice none 0 c, f] w fun e w' => e = .returned (.tuple #[]) ∧ w' = w := by
  have HC := Lib.hid (stableNone_g c f w)
  go_enter Tryz.func132, Tryz.ntmps132
  go_wp2_with fail
  refine HC.out.mono ?_
  rintro e w' ⟨rfl, rfl⟩
  go_wp2
  go_end0
  exact ⟨rfl, rfl⟩

set_option maxHeartbeats 2000000 in
set_option maxRecDepth 100000 in
theorem insNone_r (c : Nat) (f : Value) (w : World) : Calls Tryz.prog 168 #[.slice none 0 c, .int .i64 0, .int .i64 0, f] w fun e w' => e = .returned (.tuple #[]) ∧ w' = w := by
  go_enter Tryz.func168, Tryz.ntmps168
  go_wp2
  refine wp_loop_rounds 1 ?_
  rw [rounds_succ]
  go_wp2
  go_end0
  exact ⟨rfl, rfl⟩
set_option maxHeartbeats 2000000 in
set_option maxRecDepth 100000 in
theorem stableNone_r (c : Nat) (f : Value) (w : World) : Calls Tryz.prog 191 #[.slice none 0 c, .int .i64 0, f] w fun e w' => e = .returned (.tuple #[]) ∧ w' = w := by
  have HC := Lib.hid (fun W => insNone_r c f W)
  go_enter Tryz.func191, Tryz.ntmps191
  go_wp2
  refine wp_loop_rounds 1 ?_
  rw [rounds_succ]
  go_wp2_with fail
  refine (HC.out _).mono ?_
  rintro e w' ⟨rfl, rfl⟩
  go_wp2
  refine wp_loop_rounds 1 ?_
  rw [rounds_succ]
  go_wp2
  go_end0
  exact ⟨rfl, rfl⟩
set_option maxHeartbeats 2000000 in
set_option maxRecDepth 100000 in
theorem sortNone_r (c : Nat) (f : Value) (w : World) : Calls Tryz.prog 160 #[.slice none 0 c, f] w fun e w' => e = .returned (.tuple #[]) ∧ w' = w := by
  have HC := Lib.hid (stableNone_r c f w)
  go_enter Tryz.func160, Tryz.ntmps160
  go_wp2_with fail
  refine HC.out.mono ?_
  rintro e w' ⟨rfl, rfl⟩
  go_wp2
  go_end0
  exact ⟨rfl, rfl⟩

structure AtO (w : World) where
  oK : Option Addr
  cK : Nat
  b : Nat
  x : One
  ok : LabS w 0 oK x.1 ∧ x.1.length ≤ maxLen
instance (w : World) : Inhabited (AtO w) := ⟨⟨none, 0, 0, ([], [], 0), ⟨.inl rfl, fun h => absurd rfl h⟩, Nat.zero_le _⟩⟩
def encO {w : World} (r : AtO w) : List Value := [.slice r.oK r.x.1.length r.cK, .slice (some ⟨r.b, 0, none⟩) 1 1]
theorem encO_len {w : World} (r : AtO w) : (encO r).length = 2 := rfl
theorem encO_one {w : World} (x : AtO w) : ∀ v ∈ encO x, v.oneCell' = true := fun v hv => by simp [encO] at hv; rcases hv with rfl | rfl <;> rfl
def cmpO {w : World} (r s : AtO w) : Int := cmpL r.x.1 s.x.1
def RowAt (w : World) (b : Nat) (x : Rw) : Prop := ∃ oL cL m, w.heap[b]? = some (.cells #[.slice oL x.1.length cL, .int .i64 x.2] 53 m) ∧ LabS w 0 oL x.1 ∧ x.1.length ≤ maxLen
theorem atsO {w : World} : ∀ (us : List (List Value)) (xs : List One), us.length = xs.length → (∀ (j : Nat) (x : One), xs[j]? = some x → ∃ u, us[j]? = some u ∧ EOne w u x) → ∃ d : List (AtO w), us = d.map encO ∧ xs = d.map AtO.x ∧ ∀ r ∈ d, RowAt w r.b r.x.2
  | [], [], _, _ => ⟨[], rfl, rfl, fun _ h => absurd h (by simp)⟩
  | [], _ :: _, h, _ => by simp at h
  | _ :: _, [], h, _ => by simp at h
  | u :: us, x :: xs, h, hx => by
    obtain ⟨d, rfl, rfl, hd⟩ := atsO us xs (by simpa using h) fun j y hy => hx (j + 1) y (by simpa using hy)
    obtain ⟨u2, h1, oK, cK, b, oL, cL, m, rfl, h2, h3, h4, h5, h6⟩ := hx 0 x rfl
    simp at h1
    refine ⟨⟨oK, cK, b, x, h2, h3⟩ :: d, by rw [List.map_cons, h1]; rfl, rfl, fun r hr => ?_⟩
    rcases List.mem_cons.1 hr with rfl | hr
    · exact ⟨oL, cL, m, h4, h5, h6⟩
    · exact hd r hr
def ltOne (x y : One) : Bool := decide (cmpL x.1 y.1 < 0)
theorem swoOne : SWO ltOne where
  irrefl x := swoG.irrefl (oneOf x)
  trans x y z := swoG.trans (oneOf x) (oneOf y) (oneOf z)
  ntrans x y z := swoG.ntrans (oneOf x) (oneOf y) (oneOf z)
theorem swoAtO {w : World} : SWO (ltOf (cmpO (w := w))) where
  irrefl x := swoOne.irrefl x.x
  trans x y z := swoOne.trans x.x y.x z.x
  ntrans x y z := swoOne.ntrans x.x y.x z.x
theorem srt_map {α β : Type} (f : α → β) (lt : α → α → Bool) (lt2 : β → β → Bool) (h : ∀ a b, lt a b = lt2 (f a) (f b)) (l : List α) : (Stb.srt lt l).map f = Stb.srt lt2 (l.map f) := by
  unfold Stb.srt
  exact List.map_mergeSort (r := Stb.leS lt) (s := Stb.leS lt2) (f := f) (fun a _ b _ => by simp [Stb.leS, h])
theorem rowK_of {α : Type} [Inhabited α] {enc : α → List Value} {w : World} {g : Nat} {d : List α} (h1 : ∀ x, (enc x).length = 2) (h2 : ∀ x, ∀ v ∈ enc x, v.oneCell' = true) (hH : HoldsK enc 2 w g 0 d.toArray) (hg : g < w.heap.size) : RowK enc 2 w g 0 d.toArray := ⟨h1, h2, hH, hg⟩
theorem grown_of_SWK {α : Type} [Inhabited α] {enc : α → List Value} {w w' : World} {g : Nat} {d : Array α} (h : SWK enc 2 w g 0 d w') : ∃ n os, w' = sortWorldK enc 2 w g 0 n d os := h

theorem cmpLaysO {w : World} {B g : Nat} (size : Nat) (hg : B ≤ g ∧ ∃ cs m, w.heap[g]? = some (.cells cs 115 m)) : CmpLays Tryz.prog 133 #[] (encO (w := w)) 2 cmpO g 0 size w := by
  intro m os dk _ x y
  have hr0 : ∀ k, some g = some k → 0 ≤ k ∧ ∃ cs m, w.heap[k]? = some (.cells cs 115 m) := fun k hk => by cases hk; exact ⟨Nat.zero_le _, hg.2⟩
  have hx := x.ok.1.grown neLG hr0 (grownBy_sort (enc := encO) (n := m) (os := os) dk)
  have hy := y.ok.1.grown neLG hr0 (grownBy_sort (enc := encO) (n := m) (os := os) dk)
  exact cmpOne_gr x.oK y.oK _ _ _ x.cK _ y.cK 1 1 1 1 x.x.1 y.x.1 _ rfl rfl x.ok.2 y.ok.2 hx.sees hy.sees

abbrev OwnO (w : World) (B : Nat) (v : Value) (us : List (List Value)) (xs : List One) : Prop := OwnG EOne 2 115 w B v us xs

theorem sortOnes_any {B : Nat} {v : Value} {us : List (List Value)} {xs : List One} {w : World} (hm : xs.length ≤ 1000000) (h : OwnO w B v us xs) :
    Calls Tryz.prog 132 #[v, .func (.func 133) #[] #[]] w fun e w' => e = .returned (.tuple #[]) ∧ ∃ us2 : List (List Value), OwnO w' B v us2 (Stb.srt ltOne xs) ∧ w.grownBy w' v.ownBlock := by
  obtain ⟨d, rfl, rfl, hd⟩ := atsO us xs h.len h.one
  have hown := h.own
  have hrow := own_row h.own
  rw [List.length_map] at hown hm
  have h9 := hown
  rcases h9.2 with ⟨rfl, h0⟩ | ⟨g, cap, cur, rfl, hbg, hb, h1, h2, h3, h4⟩
  · have h0' : d = [] := List.eq_nil_of_length_eq_zero h0
    subst h0'
    refine (sortNone_g 0 _ w).mono ?_
    rintro e w' ⟨rfl, rfl⟩
    exact ⟨rfl, [], by simpa [Stb.srt_nil] using OwnG.nil _ _, ⟨rfl, rfl, rfl, Nat.le_refl _, fun _ _ _ => rfl⟩⟩
  · obtain ⟨hH, hg⟩ := holdsK_own encO_len hown
    have hgr := hrow g rfl
    have eg : ∀ args w, (callFunc 133 args).run Tryz.prog w = .ok (.enter 133 args) w := enters_of Tryz.func133 (by kernel_rfl) rfl
    have hcon := Stb.sortStable_g (rowK_of encO_len encO_one hH hg) (fun x => ⟨_, _, _, _, _, _, rfl⟩) cmpO swoAtO 133 eg cap d.length (cmpLaysO d.length hgr) d w rfl (by simp) (by omega) (SWK.start hH)
    refine hcon.mono ?_
    rintro e w' ⟨rfl, n, os, rfl⟩
    have hgrow : w.grownBy (sortWorldK encO 2 w g 0 n (Stb.srt (ltOf cmpO) d).toArray os) (some g) := grownBy_sort _
    have hl : (Stb.srt (ltOf cmpO) d).length = d.length := Stb.srt_len d
    refine ⟨rfl, (Stb.srt (ltOf cmpO) d).map encO, ⟨by simp [Stb.srt_len], ?_, ?_⟩, hgrow⟩
    · rw [List.length_map, hl]
      exact own_sort encO_len hl hown
    · intro j x hx
      rw [← srt_map AtO.x (ltOf cmpO) ltOne (fun _ _ => rfl), List.getElem?_map, Option.map_eq_some_iff] at hx
      obtain ⟨r, hr, rfl⟩ := hx
      have hmem : r ∈ d := (Stb.srt_perm d).mem_iff.1 (List.mem_of_getElem? hr)
      obtain ⟨oL, cL, m, r1, r2, r3⟩ := hd r hmem
      have hr0 : ∀ k, some g = some k → 0 ≤ k ∧ ∃ cs m, w.heap[k]? = some (.cells cs 115 m) := fun k hk => by cases hk; exact ⟨Nat.zero_le _, hgr.2⟩
      exact ⟨encO r, by rw [List.getElem?_map, hr]; rfl, r.oK, r.cK, r.b, oL, cL, m, rfl, r.ok.1.grown neLG hr0 hgrow, r.ok.2, heap_grown r1 neRG (fun k hk => (hr0 k hk).2) hgrow, r2.grown neLG hr0 hgrow, r3⟩

def cmpVA {w : World} (r s : At w) : Int := cmpI s.x.2 r.x.2
theorem swoV : SWO ltV where
  irrefl x := by unfold ltV; simp
  trans x y z h1 h2 := by simp only [ltV, decide_eq_true_eq] at *; omega
  ntrans x y z h1 h2 := by simp only [ltV, decide_eq_false_iff_not] at *; omega
theorem ltVA {w : World} (r s : At w) : ltOf cmpVA r s = ltV r.x s.x := by
  unfold ltOf cmpVA ltV
  exact decide_eq_decide.2 (cmpI_lt _ _)
theorem swoVA {w : World} : SWO (ltOf (cmpVA (w := w))) where
  irrefl x := by rw [ltVA]; exact swoV.irrefl _
  trans x y z h1 h2 := by rw [ltVA] at *; exact swoV.trans _ _ _ h1 h2
  ntrans x y z h1 h2 := by rw [ltVA] at *; exact swoV.ntrans _ _ _ h1 h2
theorem encA_one {w : World} (x : At w) : ∀ v ∈ encA x, v.oneCell' = true := fun v hv => by simp [encA] at hv; rcases hv with rfl | rfl <;> rfl
theorem cmpLaysV {w : World} {g : Nat} (size : Nat) : CmpLays Tryz.prog 161 #[] (encA (w := w)) 2 cmpVA g 0 size w := by
  intro m os dk _ x y
  exact cmpV_gr x.o y.o _ x.c _ y.c x.x.2 y.x.2 _

theorem sortV_any {B : Nat} {v : Value} {us : List (List Value)} {xs : List Rw} {w : World} (hm : xs.length ≤ 1000000) (h : OwnR w B v us xs) :
    Calls Tryz.prog 160 #[v, .func (.func 161) #[] #[]] w fun e w' => e = .returned (.tuple #[]) ∧ ∃ us2 : List (List Value), OwnR w' B v us2 (Stb.srt ltV xs) ∧ w.grownBy w' v.ownBlock := by
  obtain ⟨d, rfl, rfl⟩ := ats us xs h.len h.one
  have hown := h.own
  have hrow := own_row h.own
  rw [List.length_map] at hown hm
  have h9 := hown
  rcases h9.2 with ⟨rfl, h0⟩ | ⟨g, cap, cur, rfl, hbg, hb, h1, h2, h3, h4⟩
  · have h0' : d = [] := List.eq_nil_of_length_eq_zero h0
    subst h0'
    refine (sortNone_r 0 _ w).mono ?_
    rintro e w' ⟨rfl, rfl⟩
    exact ⟨rfl, [], by simpa [Stb.srt_nil] using OwnG.nil _ _, ⟨rfl, rfl, rfl, Nat.le_refl _, fun _ _ _ => rfl⟩⟩
  · obtain ⟨hH, hg⟩ := holdsK_own encA_len hown
    have hgr := hrow g rfl
    have eg : ∀ args w, (callFunc 161 args).run Tryz.prog w = .ok (.enter 161 args) w := enters_of Tryz.func161 (by kernel_rfl) rfl
    have hcon := Stb.sortStable_r (rowK_of encA_len encA_one hH hg) (fun x => ⟨_, _, _, _, rfl⟩) cmpVA swoVA 161 eg cap d.length (cmpLaysV d.length) d w rfl (by simp) (by omega) (SWK.start hH)
    refine hcon.mono ?_
    rintro e w' ⟨rfl, n, os, rfl⟩
    have hgrow : w.grownBy (sortWorldK encA 2 w g 0 n (Stb.srt (ltOf cmpVA) d).toArray os) (some g) := grownBy_sort _
    have hl : (Stb.srt (ltOf cmpVA) d).length = d.length := Stb.srt_len d
    refine ⟨rfl, (Stb.srt (ltOf cmpVA) d).map encA, ⟨by simp [Stb.srt_len], ?_, ?_⟩, hgrow⟩
    · rw [List.length_map, hl]
      exact own_sort encA_len hl hown
    · intro j x hx
      rw [← srt_map At.x (ltOf cmpVA) ltV ltVA, List.getElem?_map, Option.map_eq_some_iff] at hx
      obtain ⟨r, hr, rfl⟩ := hx
      exact ⟨encA r, by rw [List.getElem?_map, hr]; rfl, r.o, r.c, rfl, r.ok.1.grown neRow (fun k hk => by cases hk; exact ⟨Nat.zero_le _, hgr.2⟩) hgrow, r.ok.2⟩
theorem cmpLaysD {w : World} {B g : Nat} (size : Nat) (hg : B ≤ g ∧ ∃ cs m, w.heap[g]? = some (.cells cs 53 m)) : CmpLays Tryz.prog 100 #[] (encA (w := w)) 2 cmpA g 0 size w := by
  intro m os dk _ x y
  have hr : ∀ k, some g = some k → B ≤ k ∧ ∃ cs m, w.heap[k]? = some (.cells cs 53 m) := fun k hk => by cases hk; exact hg
  have hr0 : ∀ k, some g = some k → 0 ≤ k ∧ ∃ cs m, w.heap[k]? = some (.cells cs 53 m) := fun k hk => ⟨Nat.zero_le _, (hr k hk).2⟩
  have hx := x.ok.1.grown neRow hr0 (grownBy_sortA (w := w) (n := m) (os := os) dk)
  have hy := y.ok.1.grown neRow hr0 (grownBy_sortA (w := w) (n := m) (os := os) dk)
  exact cmpDo_gr x.o y.o _ x.c _ y.c x.x.2 y.x.2 x.x.1 y.x.1 _ rfl rfl x.ok.2 y.ok.2 hx.sees hy.sees
theorem sortDo_any {B : Nat} {v : Value} {us : List (List Value)} {xs : List Rw} {w : World} (hm : xs.length ≤ 1000000) (h : OwnR w B v us xs) :
    Calls Tryz.prog 99 #[v, .func (.func 100) #[] #[]] w fun e w' => e = .returned (.tuple #[]) ∧ ∃ (us2 : List (List Value)) (s : List Rw), s.Perm xs ∧ (s.Pairwise fun x y => leR x y = true) ∧ OwnR w' B v us2 s ∧ w.grownBy w' v.ownBlock := by
  obtain ⟨d, rfl, rfl⟩ := ats us xs h.len h.one
  have hown := h.own
  have hrow := own_row h.own
  rw [List.length_map] at hown hm
  have h9 := hown
  rcases h9.2 with ⟨rfl, h0⟩ | ⟨g, cap, cur, rfl, hbg, hb, h1, h2, h3, h4⟩
  · have h0' : d = [] := List.eq_nil_of_length_eq_zero h0
    subst h0'
    refine (AnyF.slices_SortFunc_none Tryz.sortRow none 0 _ w).mono ?_
    rintro e w' ⟨rfl, rfl⟩
    exact ⟨rfl, [], [], List.Perm.refl _, List.Pairwise.nil, OwnG.nil _ _, ⟨rfl, rfl, rfl, Nat.le_refl _, fun _ _ _ => rfl⟩⟩
  · obtain ⟨hH, hg⟩ := holdsK_ownA hown
    have hgr := hrow g rfl
    have eg : ∀ args w, (callFunc 100 args).run Tryz.prog w = .ok (.enter 100 args) w := enters_of Tryz.func100 (by kernel_rfl) rfl
    have hcon := AnyQ.slices_SortFunc Tryz.sortRow 2 Tryz.isAgg53 Tryz.sizeOf53 encA encA_len (fun x v hv => by simp [encA] at hv; rcases hv with rfl | rfl <;> rfl) cmpA swoA 100 #[] g 0 cap d.toArray w eg (cmpLaysD d.toArray.size hgr) hH hg (by simp; omega)
    change Calls Tryz.prog 99 #[.slice (some ⟨g, 0, none⟩) d.length cap, .func (.func 100) #[] #[]] w _ at hcon
    refine hcon.mono ?_
    rintro e w' ⟨rfl, d', n, os, hp, hs, rfl⟩
    obtain ⟨s, rfl⟩ : ∃ s : List (At w), d' = s.toArray := ⟨d'.toList, by simp⟩
    have hl : s.length = d.length := by simpa using hp.1
    have hperm : s.Perm d := by
      have := hp.2.2
      have e1 : s.toArray.extract 0 d.toArray.size = s.toArray := by simp [← hl]
      have e2 : d.toArray.extract 0 d.toArray.size = d.toArray := by simp
      rw [e1, e2] at this
      simpa using this
    have hgrow : w.grownBy (sortWorldK encA 2 w g 0 n s.toArray os) (some g) := grownBy_sortA _
    refine ⟨rfl, s.map encA, s.map At.x, hperm.map _, sorted_atA ?_, ⟨by simp, ?_, ?_⟩, hgrow⟩
    · have e1 : d.toArray.size = s.length := by simp [hl]
      rw [e1] at hs
      exact hs
    · rw [List.length_map, hl]
      exact own_sortA hl hown
    · intro j x hx
      rw [List.getElem?_map, Option.map_eq_some_iff] at hx
      obtain ⟨r, hr, rfl⟩ := hx
      refine ⟨encA r, by rw [List.getElem?_map, hr]; rfl, r.o, r.c, rfl, r.ok.1.grown neRow (fun k hk => by cases hk; exact ⟨Nat.zero_le _, hgr.2⟩) hgrow, r.ok.2⟩
end Go.Proofs.YtbdnonphkobkoaaGreat.Grp
