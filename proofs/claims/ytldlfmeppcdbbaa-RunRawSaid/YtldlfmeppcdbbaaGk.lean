import Derived.Test.YtldlfmeppcdbbaaGj
import Derived.Test.YtldlfmeppcdbbaaGi
import Derived.Deep.QuietTactic
import Derived.Laws.AppendOwnNone
section
/- The document's Tidy of rows; light rows; the walks. -/

namespace Go.Proofs.Ytldlfmeppcdbbaa.Vec
open Go.RowKit

set_option maxHeartbeats 8000000 in
set_option maxRecDepth 100000 in
theorem rtidyR_any (o : Option Addr) (n c : Nat) (xs : List Rw) (w : World) (B : Nat) (hB : B ≤ w.heap.size) (hn : xs.length = n) (hm : n ≤ maxLen) (hl : SmR xs) (hS : RowsS w B o xs) :
    Calls Try.prog 36 #[.slice o n c] w fun e w' => OutB B w.heap.size (tidyR xs) e w' ∧ Below w.heap.size w w' := by
  have HN := Lib.hid hn
  have HS := Lib.hid hS
  have HL := Lib.hid hl
  clear hn hS hl
  by_cases h2000 : 2000 < n
  · have i1 : (2000 : Int) < n := by omega
    have HE := Lib.hid (show tidyR xs = ([], 1) by
      unfold tidyR fitR; rw [HN.out, decide_eq_false (by omega), Bool.false_and]; rfl)
    unfold maxLen at hm
    go_enter Try.func36, Try.ntmps36
    go_wp2
    go_ret2
    refine ⟨⟨.slice none 0 0, ?_, [], ?_⟩, Below.refl _ _⟩
    · rw [HE.out]; rfl
    · rw [HE.out]; exact OwnG.nil _ _
  · have i1 : ¬ (2000 : Int) < n := by omega
    have HE := Lib.hid (show fitR xs = xs.all okR by
      unfold fitR; rw [HN.out, decide_eq_true (by omega), Bool.true_and]; rfl)
    unfold maxLen at hm
    go_enter Try.func36, Try.ntmps36
    go_wp2
    go_loopw [4] (fun v4 wr => ∃ k : Nat, v4 = .int .i64 k ∧ k ≤ n ∧ Hid (Below w.heap.size w wr) ∧ Hid ((xs.take k).all okR = true)) (fun v4 _ => n - (Go.RowKit.intOf v4).toNat)
    case atStart => exact ⟨0, rfl, Nat.zero_le _, Below.refl _ _, rfl⟩
    case round =>
      obtain ⟨k, rfl, hk, HB, H⟩ := hrel
      by_cases hkn : k < n
      · have j1 : (k : Int) < n := by omega
        obtain ⟨x, hx⟩ := get_ltG HN.out hkn
        obtain ⟨b, off, rfl, hR⟩ := (HS.out.below frow HB.out).at hx
        obtain ⟨oL, cL, c0, c1, hL, lL⟩ := row_at hR hx
        have hlow := hR.low
        have HX := Lib.hid (take_atG hx)
        have HMem := Lib.hid (List.mem_of_getElem? hx)
        have hsm := HL.out x HMem.out
        obtain ⟨nL, hnL⟩ : ∃ nL, x.1.length = nL := ⟨_, rfl⟩
        have HR := Lib.hid (show Calls Try.prog 49 #[.slice oL nL cL] wr fun e w' => e = .returned (.bool (rightB x.1)) ∧ Below wr.heap.size wr w' by
          rw [← hnL]; exact rright_any oL cL x.1 wr (by have := hsm.len; omega) hL.sees hsm.sizes)
        have HFx := Lib.hid (fun W => Fix.value_any x.2 W)
        rw [hnL] at c0
        have HC1 := Lib.hid (fun W (h : Below wr.heap.size wr W) => (show W.cell? ⟨b, off + k * 2 + 1, none⟩ = some (.int .i64 x.2) from (h.cell (p := ⟨b, _, none⟩) hlow).trans c1))
        clear hR hx hL lL hnL hsm hlow c1
        cases hr : rightB x.1 with
        | false =>
          have HO := Lib.hid (show tidyR xs = ([], 1) by
            unfold tidyR
            rw [HE.out, if_neg]
            rw [Bool.not_eq_true, List.all_eq_false]; exact ⟨x, HMem.out, by unfold okR; rw [hr]; simp⟩)
          rw [hr] at HR
          clear hr
          go_wp2_with fail
          refine HR.out.mono ?_
          rintro e w2 ⟨rfl, b2⟩
          have HB2 := Lib.hid (HB.out.trans (b2.mono HB.out.size))
          clear b2
          go_wp2
          go_ret2
          refine ⟨⟨.slice none 0 0, ?_, [], ?_⟩, HB2.out⟩
          · rw [HO.out]; rfl
          · rw [HO.out]; exact OwnG.nil _ _
        | true =>
          rw [hr] at HR
          obtain ⟨g, hg⟩ : ∃ g, Fix.rgtB x.2 = g := ⟨_, rfl⟩
          have HOk := Lib.hid (show okR x = g by unfold okR; rw [hr, hg]; rfl)
          rw [hg] at HFx
          clear hr hg
          go_wp2_with fail
          refine HR.out.mono ?_
          rintro e w2 ⟨rfl, b2⟩
          have HB2 := Lib.hid (HB.out.trans (b2.mono HB.out.size))
          have t1 := HC1.out w2 b2
          clear b2
          cases g with
          | false =>
            have HO := Lib.hid (show tidyR xs = ([], 1) by
              unfold tidyR
              rw [HE.out, if_neg]
              rw [Bool.not_eq_true, List.all_eq_false]; exact ⟨x, HMem.out, by rw [HOk.out]; simp⟩)
            go_wp2_with (go_at_call 35; refine (HFx.out _).mono ?_; rintro e w3 ⟨rfl, rfl⟩)
            go_ret2
            refine ⟨⟨.slice none 0 0, ?_, [], ?_⟩, HB2.out⟩
            · rw [HO.out]; rfl
            · rw [HO.out]; exact OwnG.nil _ _
          | true =>
            have H2 := Lib.hid (show (xs.take (k + 1)).all okR = true by
              rw [HX.out, List.all_append, H.out]; simp [HOk.out])
            go_wp2_with (go_at_call 35; refine (HFx.out _).mono ?_; rintro e w3 ⟨rfl, rfl⟩)
            go_roundw
            case rel => exact ⟨k + 1, by go_num, by omega, HB2, H2⟩
            case measure => simp [Go.RowKit.intOf]; omega
      · have H2 := Lib.hid (show tidyR xs = orderR xs by
          unfold tidyR
          rw [HE.out, if_pos]
          rw [← H.out, List.take_of_length_le (by rw [HN.out]; omega)])
        have j1 : ¬ (k : Int) < n := by omega
        have hbs := HB.out.size
        have HI := Lib.hid (rorder_any o n c xs wr B (by omega) HN.out (by omega) (HS.out.below frow HB.out))
        rw [← H2.out] at HI
        clear hbs
        go_wp2_with fail
        refine HI.out.mono ?_
        rintro e w2 ⟨⟨v, rfl, us2, ho⟩, b2⟩
        have HO := Lib.hid (ho.own_le HB.out.size)
        have HB2 := Lib.hid (HB.out.trans (b2.mono HB.out.size))
        clear ho b2
        go_wp2
        go_ret2
        exact ⟨⟨v, rfl, us2, HO.out⟩, HB2.out⟩

/-- Are rows few and short enough? -/
def lightR (xs : List Rw) : Bool := (xs.take 100).all (fun x => lightB x.1) && decide ((xs.length : Int) ≤ 60)
theorem light_sml {l : Labs} (h : lightB l = true) : SmL l := by
  unfold lightB at h
  rw [Bool.and_eq_true, List.all_eq_true] at h
  obtain ⟨h1, h2⟩ := h
  have h3 : l.length ≤ 20 := by simp at h2; omega
  refine ⟨by omega, fun y hy => ?_⟩
  have := h1 y (by rw [List.take_of_length_le (by omega)]; exact hy)
  unfold shortB at this
  simp at this
  omega
theorem lightR_mk {xs : List Rw} (h : lightR xs = true) : xs.length ≤ 60 ∧ SmR xs := by
  unfold lightR at h
  rw [Bool.and_eq_true, List.all_eq_true] at h
  obtain ⟨h1, h2⟩ := h
  have h3 : xs.length ≤ 60 := by simp at h2; omega
  refine ⟨h3, fun x hx => light_sml (h1 x (by rw [List.take_of_length_le (by omega)]; exact hx))⟩
end Go.Proofs.Ytldlfmeppcdbbaa.Vec
end

section
/- The statements' own vectors: rows that may be, in order; light rows. -/

namespace Go.Proofs.Ytldlfmeppcdbbaa.Vec
open Go.RowKit

/-- One row more, if it may be. -/
def stepT (out : List Rw) (x : Rw) : List Rw :=
  if tidyB x.1 && Fix.rgtB x.2 then (if (tidyR (out ++ [(sortL x.1, x.2)])).2 = 0 then (tidyR (out ++ [(sortL x.1, x.2)])).1 else out) else out
def vecT (xs : List Rw) : List Rw := xs.foldl stepT []
theorem vecT_snoc {xs : List Rw} {k : Nat} {x : Rw} (h : xs[k]? = some x) : vecT (xs.take (k + 1)) = stepT (vecT (xs.take k)) x := by
  unfold vecT
  rw [take_atG h, List.foldl_append]; rfl
theorem tidyR_ok {xs : List Rw} (h : (tidyR xs).2 = 0) : rightR (tidyR xs).1 = true ∧ (tidyR xs).1.length = xs.length ∧ (tidyR xs).1.Perm xs := by
  unfold tidyR at h ⊢
  cases hf : fitR xs with
  | false => rw [hf] at h; simp at h
  | true =>
    rw [hf, if_pos rfl] at h
    rw [if_pos rfl]
    rcases order_cases xs with e | ⟨_, hp, hr⟩
    · rw [e] at h; simp at h
    · obtain ⟨h1, h2⟩ := fit_mk hf
      exact ⟨right_mk (by rw [hp.length_eq]; exact h1) (fun x hx => h2 x (hp.mem_iff.1 hx)) hr, hp.length_eq, hp⟩
theorem stepT_right {out : List Rw} (x : Rw) (h : rightR out = true) : rightR (stepT out x) = true := by
  unfold stepT
  split
  · split
    · next h0 => exact (tidyR_ok h0).1
    · exact h
  · exact h
theorem stepT_len (out : List Rw) (x : Rw) : (stepT out x).length ≤ out.length + 1 := by
  unfold stepT
  split
  · split
    · next h0 => rw [(tidyR_ok h0).2.1, List.length_append]; simp
    · omega
  · omega
theorem vecT_right (xs : List Rw) : rightR (vecT xs) = true := by
  unfold vecT
  have : ∀ (l out : List Rw), rightR out = true → rightR (l.foldl stepT out) = true := by
    intro l
    induction l with
    | nil => intro out h; exact h
    | cons x l ih => intro out h; exact ih _ (stepT_right x h)
  exact this xs [] rfl
theorem vecT_len (xs : List Rw) : (vecT xs).length ≤ xs.length := by
  unfold vecT
  have : ∀ (l out : List Rw), (l.foldl stepT out).length ≤ out.length + l.length := by
    intro l
    induction l with
    | nil => intro out; simp
    | cons x l ih =>
      intro out
      have h1 := ih (stepT out x)
      have h2 := stepT_len out x
      rw [List.foldl_cons, List.length_cons]; omega
  have := this xs []
  simpa using this
/-- Rows of the call's own. -/
def RowsIs (w : World) (r : List Rw) (e : Ending) (w' : World) : Prop := (∃ v us, e = .returned v ∧ OwnR w' w.heap.size v us r) ∧ Below w.heap.size w w'

theorem first_row {W wC : World} {B : Nat} {v2 : Value} {oT : Option Addr} {nT cT : Nat} {tl : Labs} {v : Int} (hn : tl.length = nT) (hl : tl.length ≤ maxLen) (h : LabS W 0 oT tl) (hoC : wC.ownsRow B 40 2 v2 (0 + 1) ([] ++ [.slice oT nT cT, .int .i64 v])) (hgC : W.grownBy wC (Value.slice none 0 0).ownBlock) : OwnR wC B v2 ([] ++ [[.slice oT nT cT, .int .i64 v]]) ([] ++ [(tl, v)]) := by
  subst hn
  exact OwnG.snoc (us := []) (xs := []) (v := .slice none 0 0) frow (Nat.zero_le _) (OwnG.nil W B) ⟨oT, cT, rfl, h, hl⟩ hoC hgC
theorem OwnG.at_all {α : Type} {E : Elem α} {k : Nat} {t : TypeId} {w : World} {B g n c : Nat} {us : List (List Value)} {xs : List α} (h : OwnG E k t w B (.slice (some ⟨g, 0, none⟩) n c) us xs) {W : World} (hb : Below w.heap.size w W) : ∀ j u, us.flatten[j]? = some u → W.cell? ((⟨g, 0, none⟩ : Addr).add j) = some u := by
  intro j u hj
  have h2 := h.own.cells (g := g) rfl j u hj
  have hg := (h.own.lt g rfl).2
  rw [← h2]
  unfold Addr.add
  split
  · exact hb.cell (p := ⟨g, 0, none⟩) hg
  · exact hb.cell (p := ⟨g, _, none⟩) hg
theorem OwnG.copy_snoc {α : Type} {E : Elem α} {k : Nat} {t : TypeId} {BE : Nat} {wq wC : World} {B w0 i : Nat} {v v3 : Value} {us : List (List Value)} {S : List α} {u : List Value} {x : α} (F : Firm E k t BE) (h : OwnG E k t wq B v us S) (hx : E wq u x) (hb : Below wq.heap.size wq wC) (hown : wC.ownsRow w0 t k v3 i ([] ++ us.flatten ++ u)) (hi : i = us.length + 1) : OwnG E k t wC w0 v3 (us ++ [u]) (S ++ [x]) := by
  refine ⟨by rw [List.length_append, List.length_append, h.len]; rfl, ?_, fun j y hy => ?_⟩
  · rw [List.length_append, List.flatten_append, List.flatten_singleton]
    rw [hi] at hown
    exact hown
  · by_cases hj : j < S.length
    · rw [List.getElem?_append_left hj] at hy
      obtain ⟨q, h1, h2⟩ := h.one j y hy
      exact ⟨q, by rw [List.getElem?_append_left (by rw [h.len]; exact hj)]; exact h1, F.below _ _ _ _ h2 hb⟩
    · have hjl := (List.getElem?_eq_some_iff.1 hy).1
      rw [List.length_append] at hjl
      simp at hjl
      obtain rfl : j = S.length := by omega
      rw [List.getElem?_append_right (Nat.le_refl _), Nat.sub_self] at hy
      simp at hy; subst hy
      refine ⟨u, ?_, F.below _ _ _ _ hx hb⟩
      rw [← h.len, List.getElem?_append_right (Nat.le_refl _), Nat.sub_self]; rfl

set_option maxHeartbeats 16000000 in
set_option maxRecDepth 100000 in
theorem ltidy_any (o : Option Addr) (n c : Nat) (xs : List Rw) (w : World) (B : Nat) (hn : xs.length = n) (hm : n ≤ 1000) (hl : SmR xs) (hS : RowsS w B o xs) :
    Calls Try.prog 14 #[.slice o n c] w (RowsIs w (vecT xs)) := by
  obtain ⟨i0, hi, hz0, hz1, hz2⟩ := info_parts infoRow
  have HN := Lib.hid hn
  have HS := Lib.hid hS
  have HL := Lib.hid hl
  clear hn hS hl
  go_enter Try.func14, Try.ntmps14
  go_wp2
  go_loopw [3, 4, 5, 6, 7, 8] (fun v3 v4 v5 v6 v7 v8 wr => ∃ (i : Nat) (us : List (List Value)) (out : List Rw), v4 = .int .i64 i ∧ i ≤ n ∧ out.length ≤ i ∧ Hid (out = vecT (xs.take i)) ∧ Hid (OwnR wr w.heap.size v3 us out) ∧ Hid (Below w.heap.size w wr)) (fun _ v4 _ _ _ _ _ => n - (Go.RowKit.intOf v4).toNat)
  case atStart => exact ⟨0, [], [], rfl, Nat.zero_le _, Nat.zero_le _, Lib.hid rfl, Lib.hid (OwnG.nil _ _), Below.refl _ _⟩
  case round =>
    obtain ⟨i, us, out, rfl, hin0, hol, HV, HO, HB⟩ := hrel
    by_cases hin : i < n
    · have j1 : (i : Int) < n := by omega
      obtain ⟨x, hx⟩ := get_ltG HN.out hin
      obtain ⟨b, off, rfl, hR⟩ := (HS.out.below frow HB.out).at hx
      obtain ⟨oL, cL, c0, c1, hL, lL⟩ := row_at hR hx
      have hlow := hR.low
      have hsm := HL.out x (List.mem_of_getElem? hx)
      have HVS := Lib.hid (show vecT (xs.take (i + 1)) = stepT out x by rw [vecT_snoc hx, HV.out])
      obtain ⟨nL, hnL⟩ : ∃ nL, x.1.length = nL := ⟨_, rfl⟩
      have HT := Lib.hid (show Calls Try.prog 34 #[.slice oL nL cL] wr fun e w' => RTidied wr.heap.size x.1 e w' ∧ Below wr.heap.size wr w' by
        rw [← hnL]; exact rtidy_any oL cL x.1 wr (by have := hsm.len; omega) hL.sees hsm.sizes)
      rw [hnL] at c0
      have HC := Lib.hid (fun W (h : Below wr.heap.size wr W) => (show W.cell? ⟨b, off + i * 2 + 1, none⟩ = some (.int .i64 x.2) from (h.cell (p := ⟨b, _, none⟩) hlow).trans c1))
      have HFx := Lib.hid (fun W => Fix.value_any x.2 W)
      clear hR hx hL lL hnL hsm hlow c1
      go_wp2_with fail
      refine HT.out.mono ?_
      rintro e w1 ⟨ht, b1⟩
      have HB1 := Lib.hid (HB.out.trans (b1.mono HB.out.size))
      have HO1 := Lib.hid (HO.out.below frow b1)
      have HC1 := Lib.hid (fun W (h : Below w1.heap.size w1 W) => HC.out W (b1.trans (h.mono b1.size)))
      clear b1 HC HT c0
      rcases ht with ⟨ht, v, rfl, hown⟩ | ⟨ht, rfl⟩
      case inr =>
        have H2 := Lib.hid (show out = vecT (xs.take (i + 1)) by rw [HVS.out]; unfold stepT; rw [ht]; simp)
        clear ht
        go_wp2
        go_roundw
        case rel => exact ⟨i + 1, us, out, by go_num, by omega, by omega, H2, HO1, HB1⟩
        case measure => simp [Go.RowKit.intOf]; omega
      case inl =>
        obtain ⟨g, hg⟩ : ∃ g, Fix.rgtB x.2 = g := ⟨_, rfl⟩
        have c1 := HC1.out w1 (Below.refl _ _)
        cases g with
        | false =>
          have H2 := Lib.hid (show out = vecT (xs.take (i + 1)) by rw [HVS.out]; unfold stepT; rw [hg]; simp)
          rw [hg] at HFx
          clear ht hown hg
          go_wp2_with (go_at_call 35; refine (HFx.out _).mono ?_; rintro e w3 ⟨rfl, rfl⟩)
          go_roundw
          case rel => exact ⟨i + 1, us, out, by go_num, by omega, by omega, H2, HO1, HB1⟩
          case measure => simp [Go.RowKit.intOf]; omega
        | true =>
          have HST := Lib.hid (show vecT (xs.take (i + 1)) = if (tidyR (out ++ [(sortL x.1, x.2)])).2 = 0 then (tidyR (out ++ [(sortL x.1, x.2)])).1 else out by
            rw [HVS.out]; unfold stepT; rw [ht, hg]; rfl)
          rw [hg] at HFx
          obtain ⟨oT, cT, rfl, hT, lT⟩ := labs_own (C := 0) hown
          have hrt : rightB (sortL x.1) = true := ht
          have HSmT := Lib.hid (show SmR (out ++ [(sortL x.1, x.2)]) from fun y hy => by
            rcases List.mem_append.1 hy with hy | hy
            · rw [HV.out] at hy
              exact right_small ((right_fit (vecT_right _)).2.1 y hy).1
            · simp at hy; subst hy; exact right_small hrt)
          obtain ⟨tl, htl⟩ : ∃ tl, sortL x.1 = tl := ⟨_, rfl⟩
          rw [htl] at hT lT HSmT HST ⊢
          obtain ⟨nT, hnT⟩ : ∃ nT, tl.length = nT := ⟨_, rfl⟩
          rw [hnT]
          have HTL := Lib.hid hT
          have HnT := Lib.hid hnT
          have HlT := Lib.hid lT
          clear ht hown hg hrt htl hT hnT lT HVS HV
          have HB0 := Lib.hid HB1.out.size
          have hown3 := HO1.out.own
          rcases hown3.2 with ⟨rfl, h0⟩ | ⟨g, cap, cur, rfl, hbg, hb, hk1, hk2, hk3, hk4⟩
          · obtain rfl : us = [] := List.eq_nil_of_length_eq_zero h0
            obtain rfl : out = [] := List.eq_nil_of_length_eq_zero (by rw [← HO1.out.len]; rfl)
            have B0 := Lib.hid (show Below w1.heap.size w1 w1.drew from (Below.refl _ _).drew)
            have B1 := Lib.hid (show Below w1.heap.size w1 (w1.drew.alloc (.cells #[.slice oT nT cT, .int .i64 x.2] 40)) from B0.out.alloc (Nat.le_refl _) _)
            have cX := HC1.out w1.drew B0.out
            have cX1 := HC1.out (w1.drew.alloc (.cells #[.slice oT nT cT, .int .i64 x.2] 40)) B1.out
            clear hown3 h0
            rw [List.nil_append] at HSmT HST
            go_wp2_with (go_at_call 35; refine (HFx.out _).mono ?_; rintro e w3 ⟨rfl, rfl⟩)
            go_region_held3 (fun w' => w'.cell? ⟨b, off + i * 2 + 1, none⟩ = some (.int .i64 x.2)) (first | exact cX | exact cX1 | exact cC | exact cD) (first
              | (refine own_stepL rfl (.tmp 37) (.tmp 45) 23 rfl w1.heap.size 40 i0 (.agg #[.slice none 0 0, .int .i64 0]) 2 32 Try.underlying23 hi hz0 hz1 hz2 rfl (by decide) (.slice none 0 0) 0 [] rfl (World.ownsRow_nil _ _ _ _) ⟨w1.heap.size, 0, none⟩ 1 1 [.slice oT nT cT, .int .i64 x.2] rfl rfl (cells_k _ _ _) (by intro v hv; simp at hv; rcases hv with rfl | rfl <;> rfl) (by unfold maxLen; omega) (by omega) B1.out.size ?_
                 intro v2 wC hoC hgC
                 have BC := Lib.hid (B1.out.trans ((below_ownL hgC).mono B1.out.size))
                 have HOC := Lib.hid (first_row HnT.out HlT.out (HTL.out.below B1.out) hoC hgC)
                 obtain ⟨g2, c2, rfl, q1, q2, q3, q4⟩ := own_posG hoC (by omega)
                 have cC := HC1.out wC BC.out
                 obtain ⟨oQ, cQ, eQ, hsQ, hmQ⟩ := HOC.out.sees frow
                 have hNn : 1 ≤ maxLen := by unfold maxLen; omega
                 have HTC := Lib.hid (rtidyR_any oQ (1) cQ [(tl, x.2)] wC 0 (Nat.zero_le _) (by rfl) hNn HSmT.out hsQ)
                 obtain ⟨rfl, hqq, rfl⟩ := Value.slice.inj eQ
                 clear hoC hgC hsQ hmQ eQ hqq hNn)
              | (go_at_call 36; go_fit HTC.out; rintro e wD ⟨⟨vD, rfl, usD, hoD⟩, bD⟩
                 have HBD := Lib.hid (BC.out.trans (bD.mono BC.out.size))
                 have cD := HC1.out wD HBD.out
                 have HOD := Lib.hid hoD
                 clear hoD bD))
            all_goals
              by_cases hr0 : (tidyR [(tl, x.2)]).2 = 0
              · have t0 : ((tidyR [(tl, x.2)]).2 == 0) = true := by rw [beq_iff_eq]; exact hr0
                have H2 := Lib.hid (show (tidyR [(tl, x.2)]).1 = vecT (xs.take (i + 1)) by rw [HST.out, if_pos hr0])
                have hl2 := (tidyR_ok hr0).2.1
                have hl3 : (tidyR [(tl, x.2)]).1.length ≤ i + 1 := by rw [hl2]; simp; try omega
                have HOE := Lib.hid (HOD.out.own_le (B' := w.heap.size) (Nat.le_trans HB1.out.size BC.out.size))
                have HBE := Lib.hid (HB1.out.trans (HBD.out.mono HB1.out.size))
                generalize (tidyR [(tl, x.2)]).2 = r2 at t0
                clear hr0 hl2
                go_wp2
                go_roundw
                case rel => exact ⟨i + 1, _, _, by go_num, by omega, hl3, H2, HOE, HBE⟩
                case measure => simp [Go.RowKit.intOf]; omega
              · have t0 : ((tidyR [(tl, x.2)]).2 == 0) = false := by rw [beq_eq_false_iff_ne]; exact hr0
                have H2 := Lib.hid (show [] = vecT (xs.take (i + 1)) by rw [HST.out, if_neg hr0])
                have HOE := Lib.hid (HO1.out.below frow HBD.out)
                have HBE := Lib.hid (HB1.out.trans (HBD.out.mono HB1.out.size))
                generalize (tidyR [(tl, x.2)]).2 = r2 at t0
                clear hr0
                go_wp2
                go_roundw
                case rel => exact ⟨i + 1, _, [], by go_num, by omega, by first | omega | simp, H2, HOE, HBE⟩
                case measure => simp [Go.RowKit.intOf]; omega
          · obtain ⟨nO, hnO⟩ : ∃ nO, us.length = nO := ⟨_, rfl⟩
            rw [hnO] at HO1
            have HUL := Lib.hid hnO
            have hlo : nO ≤ i := by rw [← hnO, HO1.out.len]; exact hol
            have L1 := Lib.hid (show us.flatten.length = nO * 2 by rw [flat_len (HO1.out.wide frow), hnO])
            have OC1 := Lib.hid (show ∀ v ∈ us.flatten, v.oneCell' = true from fun v hv => by obtain ⟨u, hu, hv⟩ := List.mem_flatten.1 hv; exact HO1.out.cellsE frow u hu v hv)
            have SRC := Lib.hid (fun W (h : Below w1.heap.size w1 W) => HO1.out.at_all h)
            have HLO := Lib.hid (show (out ++ [(tl, x.2)]).length = nO + 1 by rw [List.length_append, ← HO1.out.len, hnO]; rfl)
            rw [hnO]
            have B0 := Lib.hid (show Below w1.heap.size w1 w1.drew from (Below.refl _ _).drew)
            have B1 := Lib.hid (show Below w1.heap.size w1 (w1.drew.alloc (.cells #[.slice oT nT cT, .int .i64 x.2] 40)) from B0.out.alloc (Nat.le_refl _) _)
            have cX := HC1.out w1.drew B0.out
            have cX1 := HC1.out (w1.drew.alloc (.cells #[.slice oT nT cT, .int .i64 x.2] 40)) B1.out
            have k1 : (0 : Int) ≤ nO := by omega
            clear hown3 hb hk4 hnO
            go_wp2_with (go_at_call 35; refine (HFx.out _).mono ?_; rintro e w3 ⟨rfl, rfl⟩)
            go_region_held3 (fun w' => w'.cell? ⟨b, off + i * 2 + 1, none⟩ = some (.int .i64 x.2)) (first | exact cX | exact cX1 | exact cA | exact cA1 | exact cC | exact cD) (first
              | (refine own_stepL rfl (.const (.slice none 0 0)) (.tmp 36) 23 rfl w1.heap.size 40 i0 (.agg #[.slice none 0 0, .int .i64 0]) 2 32 Try.underlying23 hi hz0 hz1 hz2 rfl (by decide) (.slice none 0 0) 0 [] rfl (World.ownsRow_nil _ _ _ _) ⟨g, 0, none⟩ nO cap us.flatten rfl L1.out (fun j u hj => SRC.out w1.drew B0.out j u hj) OC1.out (by unfold maxLen; omega) (by omega) (Nat.le_refl _) ?_
                 intro v1 wA hoA hgA
                 have HOA := Lib.hid hoA
                 have BA := Lib.hid (B0.out.trans ((below_ownL hgA).mono (Nat.le_refl _)))
                 have cA := HC1.out wA BA.out
                 have cA1 := HC1.out (wA.alloc (.cells #[.slice oT nT cT, .int .i64 x.2] 40)) (BA.out.alloc BA.out.size _)
                 clear hoA hgA)
              | (refine own_stepL rfl (.tmp 37) (.tmp 45) 23 rfl w1.heap.size 40 i0 (.agg #[.slice none 0 0, .int .i64 0]) 2 32 Try.underlying23 hi hz0 hz1 hz2 rfl (by decide) v1 _ _ rfl (HOA.out.alloc _) ⟨wA.heap.size, 0, none⟩ 1 1 [.slice oT nT cT, .int .i64 x.2] rfl rfl (cells_k _ _ _) (by intro v hv; simp at hv; rcases hv with rfl | rfl <;> rfl) (by unfold maxLen; omega) (by omega) (Nat.le_trans BA.out.size (by simp)) ?_
                 intro v2 wC hoC hgC
                 have BC := Lib.hid (Below.grown (BA.out.alloc BA.out.size _) hgC (Nat.le_trans BA.out.size (by simp)) (fun j hj => (HOA.out.lt j hj).1) : Below w1.heap.size w1 wC)
                 have HOC := Lib.hid (show OwnR wC w1.heap.size v2 (us ++ [[.slice oT nT cT, .int .i64 x.2]]) (out ++ [(tl, x.2)]) from HO1.out.copy_snoc frow ⟨oT, cT, by rw [HnT.out], HTL.out, HlT.out⟩ BC.out hoC (by rw [HUL.out]; omega))
                 obtain ⟨g2, c2, rfl, q1, q2, q3, q4⟩ := own_posG hoC (by omega)
                 have cC := HC1.out wC BC.out
                 obtain ⟨oQ, cQ, eQ, hsQ, hmQ⟩ := HOC.out.sees frow
                 have hNn : (nO + 1) ≤ maxLen := by unfold maxLen; omega
                 have HTC := Lib.hid (rtidyR_any oQ ((nO + 1)) cQ (out ++ [(tl, x.2)]) wC 0 (Nat.zero_le _) (by exact HLO.out) hNn HSmT.out hsQ)
                 rw [show (out ++ [(tl, x.2)]).length = (nO + 1) by exact HLO.out] at eQ
                 obtain ⟨rfl, hqq, rfl⟩ := Value.slice.inj eQ
                 clear hoC hgC hsQ hmQ eQ hqq hNn)
              | (refine own_stepL rfl (.const (.slice none 0 0)) (.tmp 36) 23 rfl w1.heap.size 40 i0 (.agg #[.slice none 0 0, .int .i64 0]) 2 32 Try.underlying23 hi hz0 hz1 hz2 rfl (by decide) (.slice none 0 0) 0 [] rfl (World.ownsRow_nil _ _ _ _) ⟨g, 0, none⟩ nO cap us.flatten rfl L1.out (fun j u hj => SRC.out (w1.drew.alloc (.cells #[.slice oT nT cT, .int .i64 x.2] 40)) B1.out j u hj) OC1.out (by unfold maxLen; omega) (by omega) B1.out.size ?_
                 intro v1 wA hoA hgA
                 have HOA := Lib.hid hoA
                 have BA := Lib.hid (B1.out.trans ((below_ownL hgA).mono B1.out.size))
                 have HX2 := Lib.hid (cell_keptR hgA)
                 have cA := HC1.out wA BA.out
                 clear hoA hgA)
              | (refine own_stepL rfl (.tmp 37) (.tmp 45) 23 rfl w1.heap.size 40 i0 (.agg #[.slice none 0 0, .int .i64 0]) 2 32 Try.underlying23 hi hz0 hz1 hz2 rfl (by decide) v1 _ _ rfl HOA.out ⟨w1.heap.size, 0, none⟩ 1 1 [.slice oT nT cT, .int .i64 x.2] rfl rfl HX2.out (by intro v hv; simp at hv; rcases hv with rfl | rfl <;> rfl) (by unfold maxLen; omega) (by omega) BA.out.size ?_
                 intro v2 wC hoC hgC
                 have BC := Lib.hid (Below.grown BA.out hgC BA.out.size (fun j hj => (HOA.out.lt j hj).1) : Below w1.heap.size w1 wC)
                 have HOC := Lib.hid (show OwnR wC w1.heap.size v2 (us ++ [[.slice oT nT cT, .int .i64 x.2]]) (out ++ [(tl, x.2)]) from HO1.out.copy_snoc frow ⟨oT, cT, by rw [HnT.out], HTL.out, HlT.out⟩ BC.out hoC (by rw [HUL.out]; omega))
                 obtain ⟨g2, c2, rfl, q1, q2, q3, q4⟩ := own_posG hoC (by omega)
                 have cC := HC1.out wC BC.out
                 obtain ⟨oQ, cQ, eQ, hsQ, hmQ⟩ := HOC.out.sees frow
                 have hNn : (nO + 1) ≤ maxLen := by unfold maxLen; omega
                 have HTC := Lib.hid (rtidyR_any oQ ((nO + 1)) cQ (out ++ [(tl, x.2)]) wC 0 (Nat.zero_le _) (by exact HLO.out) hNn HSmT.out hsQ)
                 rw [show (out ++ [(tl, x.2)]).length = (nO + 1) by exact HLO.out] at eQ
                 obtain ⟨rfl, hqq, rfl⟩ := Value.slice.inj eQ
                 clear hoC hgC hsQ hmQ eQ hqq hNn)
              | (go_at_call 36; go_fit HTC.out; rintro e wD ⟨⟨vD, rfl, usD, hoD⟩, bD⟩
                 have HBD := Lib.hid (BC.out.trans (bD.mono BC.out.size))
                 have cD := HC1.out wD HBD.out
                 have HOD := Lib.hid hoD
                 clear hoD bD))
            all_goals
              by_cases hr0 : (tidyR (out ++ [(tl, x.2)])).2 = 0
              · have t0 : ((tidyR (out ++ [(tl, x.2)])).2 == 0) = true := by rw [beq_iff_eq]; exact hr0
                have H2 := Lib.hid (show (tidyR (out ++ [(tl, x.2)])).1 = vecT (xs.take (i + 1)) by rw [HST.out, if_pos hr0])
                have hl2 := (tidyR_ok hr0).2.1
                have hl3 : (tidyR (out ++ [(tl, x.2)])).1.length ≤ i + 1 := by rw [hl2]; simp; try omega
                have HOE := Lib.hid (HOD.out.own_le (B' := w.heap.size) (Nat.le_trans HB1.out.size BC.out.size))
                have HBE := Lib.hid (HB1.out.trans (HBD.out.mono HB1.out.size))
                generalize (tidyR (out ++ [(tl, x.2)])).2 = r2 at t0
                clear hr0 hl2
                go_wp2
                go_roundw
                case rel => exact ⟨i + 1, _, _, by go_num, by omega, hl3, H2, HOE, HBE⟩
                case measure => simp [Go.RowKit.intOf]; omega
              · have t0 : ((tidyR (out ++ [(tl, x.2)])).2 == 0) = false := by rw [beq_eq_false_iff_ne]; exact hr0
                have H2 := Lib.hid (show out = vecT (xs.take (i + 1)) by rw [HST.out, if_neg hr0])
                have HOE := Lib.hid (HO1.out.below frow HBD.out)
                have HBE := Lib.hid (HB1.out.trans (HBD.out.mono HB1.out.size))
                generalize (tidyR (out ++ [(tl, x.2)])).2 = r2 at t0
                clear hr0
                go_wp2
                go_roundw
                case rel => exact ⟨i + 1, _, out, by go_num, by omega, by first | omega | simp, H2, HOE, HBE⟩
                case measure => simp [Go.RowKit.intOf]; omega
    · have j1 : ¬ (i : Int) < n := by omega
      have hE : xs.take i = xs := List.take_of_length_le (by rw [HN.out]; omega)
      have H2 := Lib.hid (show out = vecT xs by rw [HV.out, hE])
      clear hE
      go_wp2
      go_ret
      refine ⟨⟨u3, us, rfl, ?_⟩, HB.out⟩
      rw [← H2.out]; exact HO.out
end Go.Proofs.Ytldlfmeppcdbbaa.Vec
end

section
/- Rows compared; light rows: the walks. -/

namespace Go.Proofs.Ytldlfmeppcdbbaa.Vec
open Go.RowKit

/-- Are two rows alike? -/
def eqR (x y : Rw) : Bool := Go.Proofs.Ytldlfmeppcdbbaa.sameL x.1 y.1 && (x.2 == y.2)
def sameR : List Rw → List Rw → Bool
  | [], [] => true
  | x :: xs, y :: ys => eqR x y && sameR xs ys
  | _, _ => false
theorem sameR_len : ∀ (xs ys : List Rw), xs.length ≠ ys.length → sameR xs ys = false
  | [], [], h => absurd rfl h
  | [], _ :: _, _ => rfl
  | _ :: _, [], _ => rfl
  | x :: xs, y :: ys, h => by rw [sameR, sameR_len xs ys (by simpa using h), Bool.and_false]

set_option maxHeartbeats 4000000 in
set_option maxRecDepth 100000 in
theorem sameRows_quiet (o1 o2 : Option Addr) (c1 c2 : Nat) (xs ys : List Rw) (w : World) (hm : xs.length ≤ maxLen) (hm2 : ys.length ≤ maxLen) (B : Nat) (h1 : RowsS w B o1 xs) (h2 : RowsS w B o2 ys) :
    Calls Try.prog 11 #[.slice o1 xs.length c1, .slice o2 ys.length c2] w fun e w' => e = .returned (.bool (sameR xs ys)) ∧ ∃ q, w' = w.drewN q := by
  obtain ⟨n, hn⟩ : ∃ n, xs.length = n := ⟨_, rfl⟩
  obtain ⟨m, hm'⟩ : ∃ m, ys.length = m := ⟨_, rfl⟩
  have HN := Lib.hid hn
  have HM := Lib.hid hm'
  rw [hn] at hm ⊢
  rw [hm'] at hm2 ⊢
  clear hn hm'
  unfold maxLen at hm hm2
  by_cases hnm : n = m
  · subst hnm
    have HS1 := Lib.hid h1
    have HS2 := Lib.hid h2
    clear h1 h2
    go_enter Try.func11, Try.ntmps11
    go_wp2
    go_loopw [5] (fun v13 wr => ∃ k : Nat, v13 = .int .i64 k ∧ k ≤ n ∧ Hid (∃ q, wr = w.drewN q) ∧ Hid (sameR (xs.drop k) (ys.drop k) = sameR xs ys)) (fun v13 _ => n - (Go.RowKit.intOf v13).toNat)
    case atStart => exact ⟨0, rfl, Nat.zero_le _, ⟨0, rfl⟩, rfl⟩
    case round =>
      obtain ⟨k, rfl, hk, HB, H⟩ := hrel
      by_cases hkn : k < n
      · have j1 : (k : Int) < n := by omega
        obtain ⟨x, hx⟩ := get_ltG HN.out hkn
        obtain ⟨b, off, rfl, hS⟩ := (HS1.out.below frow (quietB HB.out)).at hx
        obtain ⟨y, hy⟩ := get_ltG HM.out hkn
        obtain ⟨b2, off2, rfl, hS2⟩ := (HS2.out.below frow (quietB HB.out)).at hy
        obtain ⟨oL, cL, c0, c1, hL, lL⟩ := row_at hS hx
        obtain ⟨oM, cM, d0, d1, hM, lM⟩ := row_at hS2 hy
        have HX := Lib.hid (drop_atG hx)
        have HY := Lib.hid (drop_atG hy)
        have HCL := Lib.hid (fun q => Go.Proofs.Ytldlfmeppcdbbaa.sameLabels_quiet oL oM cL cM x.1 y.1 (wr.drewN q) lL lM (hL.sees.below (quietB ⟨q, rfl⟩)) (hM.sees.below (quietB ⟨q, rfl⟩)))
        clear hS hS2 hx hy hL hM
        generalize x.1.length = nL at c0 HCL lL
        generalize y.1.length = nM at d0 HCL lM
        unfold maxLen at lL lM
        have HE := Lib.hid (show eqR x y = (Go.Proofs.Ytldlfmeppcdbbaa.sameL x.1 y.1 && (x.2 == y.2)) from rfl)
        cases eP : x.2 == y.2 with
        | false =>
          rw [eP] at HE
          have H2 := Lib.hid (show false = sameR xs ys by rw [← H.out, HX.out, HY.out, sameR, HE.out]; simp)
          clear HCL
          go_wp2_with fail
          go_quiet (fail)
          have HBq := Lib.hid (quietQ HB.out nq)
          go_wp2
          go_ret
          exact ⟨ret_bool H2.out, HBq.out⟩
        | true =>
          cases eL : Go.Proofs.Ytldlfmeppcdbbaa.sameL x.1 y.1 with
          | false =>
            rw [eL] at HCL HE
            have H2 := Lib.hid (show false = sameR xs ys by rw [← H.out, HX.out, HY.out, sameR, HE.out]; simp)
            clear eL
            go_wp2_with fail
            go_quiet (first | (go_at_call 25; exact Calls.quiet_of (HCL.out _)))
            have HBq := Lib.hid (quietQ HB.out nq)
            go_wp2
            go_ret
            exact ⟨ret_bool H2.out, HBq.out⟩
          | true =>
            rw [eL] at HCL HE
            rw [eP] at HE
            have H2 := Lib.hid (show sameR (xs.drop (k + 1)) (ys.drop (k + 1)) = sameR xs ys by rw [← H.out, HX.out, HY.out, sameR, HE.out]; simp)
            clear eL
            go_wp2_with fail
            go_quiet (first | (go_at_call 25; exact Calls.quiet_of (HCL.out _)))
            have HBq := Lib.hid (quietQ HB.out nq)
            go_wp2
            go_roundw
            case rel => exact ⟨k + 1, by go_num, by omega, HBq, H2⟩
            case measure => simp [Go.RowKit.intOf]; omega
      · have j1 : (n : Int) ≤ k := by omega
        have H2 := Lib.hid (show true = sameR xs ys by
          have e1 : xs.drop k = [] := List.drop_eq_nil_of_le (by rw [HN.out]; omega)
          have e2 : ys.drop k = [] := List.drop_eq_nil_of_le (by rw [HM.out]; omega)
          rw [← H.out, e1, e2, sameR])
        go_wp2
        go_ret
        exact ⟨ret_bool H2.out, HB.out⟩
  · have H2 := Lib.hid (show false = sameR xs ys from (sameR_len xs ys (by rw [HN.out, HM.out]; exact hnm)).symm)
    have t1 : ((n : Int) != (m : Int)) = true := by rw [bne_iff_ne]; omega
    have t2 : ((n : Int) == (m : Int)) = false := by rw [beq_eq_false_iff_ne]; omega
    clear hnm
    go_enter Try.func11, Try.ntmps11
    go_wp2
    go_ret
    exact ⟨ret_bool H2.out, 0, rfl⟩
theorem sameRows_any (o1 o2 : Option Addr) (c1 c2 : Nat) (xs ys : List Rw) (w : World) (hm : xs.length ≤ maxLen) (hm2 : ys.length ≤ maxLen) (B : Nat) (h1 : RowsS w B o1 xs) (h2 : RowsS w B o2 ys) :
    Calls Try.prog 11 #[.slice o1 xs.length c1, .slice o2 ys.length c2] w fun e w' => e = .returned (.bool (sameR xs ys)) ∧ Below w.heap.size w w' :=
  (sameRows_quiet o1 o2 c1 c2 xs ys w hm hm2 B h1 h2).mono fun _ _ h => ⟨h.1, quietB h.2⟩
theorem sameR_iff : ∀ (xs ys : List Rw), sameR xs ys = true ↔ xs = ys
  | [], [] => by simp [sameR]
  | [], y :: ys => by simp [sameR]
  | x :: xs, [] => by simp [sameR]
  | x :: xs, y :: ys => by
    rw [sameR, Bool.and_eq_true, sameR_iff xs ys, eqR, Bool.and_eq_true, sameL_iff, beq_iff_eq, List.cons.injEq]
    constructor
    · rintro ⟨⟨h1, h2⟩, h3⟩; exact ⟨Prod.ext h1 h2, h3⟩
    · rintro ⟨rfl, rfl⟩; exact ⟨⟨rfl, rfl⟩, rfl⟩

set_option maxHeartbeats 4000000 in
set_option maxRecDepth 100000 in
theorem lightR_any (o : Option Addr) (n c : Nat) (xs : List Rw) (w : World) (B : Nat) (hn : xs.length = n) (hS : RowsS w B o xs) :
    Calls Try.prog 13 #[.slice o n c] w fun e w' => e = .returned (.bool (lightR xs)) ∧ Below w.heap.size w w' := by
  have HN := Lib.hid hn
  have HS := Lib.hid hS
  clear hn hS
  have HE := Lib.hid (show lightR xs = ((xs.take 100).all (fun x => lightB x.1) && decide ((n : Int) ≤ 60)) by unfold lightR; rw [HN.out])
  go_enter Try.func13, Try.ntmps13
  go_wp2
  go_loopw [3] (fun v3 wr => ∃ k : Nat, v3 = .int .i64 k ∧ k ≤ n ∧ k ≤ 100 ∧ Hid (Below w.heap.size w wr) ∧ Hid ((xs.take k).all (fun x => lightB x.1) = true)) (fun v3 _ => n - (Go.RowKit.intOf v3).toNat)
  case atStart => exact ⟨0, rfl, Nat.zero_le _, Nat.zero_le _, Below.refl _ _, rfl⟩
  case round =>
    obtain ⟨k, rfl, hk, hk100, HB, H⟩ := hrel
    by_cases hkn : k < n
    · have j1 : (k : Int) < n := by omega
      by_cases h100 : k < 100
      · have j2 : (k : Int) < 100 := by omega
        obtain ⟨x, hx⟩ := get_ltG HN.out hkn
        obtain ⟨b, off, rfl, hR⟩ := (HS.out.below frow HB.out).at hx
        obtain ⟨oL, cL, c0, c1, hL, lL⟩ := row_at hR hx
        have HX := Lib.hid (take_atG hx)
        have HMem := Lib.hid (show x ∈ xs.take 100 from by
          obtain ⟨h1, h2⟩ := List.getElem?_eq_some_iff.1 hx
          rw [← h2]; exact List.mem_iff_getElem.2 ⟨k, by rw [List.length_take]; omega, List.getElem_take⟩)
        obtain ⟨nL, hnL⟩ : ∃ nL, x.1.length = nL := ⟨_, rfl⟩
        have HLt := Lib.hid (light_any oL cL x.1 wr lL hL.sees)
        rw [hnL] at c0 HLt
        obtain ⟨g, hg⟩ : ∃ g, lightB x.1 = g := ⟨_, rfl⟩
        have HG := Lib.hid hg
        rw [hg] at HLt
        clear hR hx hL lL hnL hg c1
        cases g with
        | false =>
          have H2 := Lib.hid (show lightR xs = false by
            rw [HE.out, show (xs.take 100).all (fun x => lightB x.1) = false by rw [List.all_eq_false]; exact ⟨x, HMem.out, by rw [HG.out]; simp⟩, Bool.false_and])
          go_wp2_with fail
          refine HLt.out.mono ?_
          rintro e w2 ⟨rfl, b2⟩
          have HB2 := Lib.hid (HB.out.trans (b2.mono HB.out.size))
          clear b2
          go_wp2
          go_ret
          exact ⟨ret_bool H2.out.symm, HB2.out⟩
        | true =>
          have H2 := Lib.hid (show (xs.take (k + 1)).all (fun x => lightB x.1) = true by
            rw [HX.out, List.all_append, H.out]; simp [HG.out])
          go_wp2_with fail
          refine HLt.out.mono ?_
          rintro e w2 ⟨rfl, b2⟩
          have HB2 := Lib.hid (HB.out.trans (b2.mono HB.out.size))
          clear b2
          go_wp2
          go_roundw
          case rel => exact ⟨k + 1, by go_num, by omega, by omega, HB2, H2⟩
          case measure => simp [Go.RowKit.intOf]; omega
      · have j2 : ¬ (k : Int) < 100 := by omega
        have H2 := Lib.hid (show lightR xs = decide ((n : Int) ≤ 60) by
          have e : k = 100 := by omega
          have h := H.out
          rw [e] at h
          rw [HE.out, h, Bool.true_and])
        go_wp2
        go_ret
        exact ⟨ret_bool H2.out.symm, HB.out⟩
    · have j1 : ¬ (k : Int) < n := by omega
      have H2 := Lib.hid (show lightR xs = decide ((n : Int) ≤ 60) by
        have e : xs.take 100 = xs.take k := by
          rw [List.take_of_length_le (by rw [HN.out]; omega), List.take_of_length_le (by rw [HN.out]; omega)]
        rw [HE.out, e, H.out, Bool.true_and])
      go_wp2
      go_ret
      exact ⟨ret_bool H2.out.symm, HB.out⟩
end Go.Proofs.Ytldlfmeppcdbbaa.Vec
end

section
/- A first call whose answer the document fixes. -/

namespace Go.Proofs.Ytldlfmeppcdbbaa.Vec
open Go.RowKit

end Go.Proofs.Ytldlfmeppcdbbaa.Vec
end

section
/- Lists of the call's own put behind each other; what comparisons come to. -/

namespace Go.Proofs.Ytldlfmeppcdbbaa.Vec
open Go.RowKit

theorem grown_refl (w : World) (r : Option Nat) : w.grownBy w r := ⟨rfl, rfl, rfl, Nat.le_refl _, fun _ _ _ => rfl⟩
theorem OwnG.app {α : Type} {E : Elem α} {k : Nat} {t : TypeId} {BE : Nat} {w w' : World} {B : Nat} {v v' : Value} {us us2 : List (List Value)} {xs ys : List α} (F : Firm E k t BE) (hB : BE ≤ B) (h : OwnG E k t w B v us xs) (hl : us2.length = ys.length) (h2 : ∀ (j : Nat) (x : α), ys[j]? = some x → ∃ u, us2[j]? = some u ∧ E w u x) (hown : w'.ownsRow B t k v' (us.length + us2.length) (us.flatten ++ us2.flatten)) (hg : w.grownBy w' v.ownBlock) : OwnG E k t w' B v' (us ++ us2) (xs ++ ys) := by
  have hr : ∀ g, v.ownBlock = some g → BE ≤ g ∧ ∃ cs m, w.heap[g]? = some (.cells cs t m) := fun g hg => ⟨Nat.le_trans hB (own_row h.own g hg).1, (own_row h.own g hg).2⟩
  refine ⟨by rw [List.length_append, List.length_append, h.len, hl], by rw [List.length_append, List.flatten_append]; exact hown, fun j y hy => ?_⟩
  by_cases hj : j < xs.length
  · rw [List.getElem?_append_left hj] at hy
    obtain ⟨q, h1, h3⟩ := h.one j y hy
    exact ⟨q, by rw [List.getElem?_append_left (by rw [h.len]; exact hj)]; exact h1, F.grown _ _ _ _ _ h3 hr hg⟩
  · rw [List.getElem?_append_right (by omega)] at hy
    obtain ⟨q, h1, h3⟩ := h2 _ y hy
    exact ⟨q, by rw [List.getElem?_append_right (by rw [h.len]; omega), h.len]; exact h1, F.grown _ _ _ _ _ h3 hr hg⟩
theorem flat_lenG {k : Nat} {us : List (List Value)} (h : ∀ u ∈ us, u.length = k) : us.flatten.length = us.length * k := by
  induction us with
  | nil => simp
  | cons u us ih => rw [List.flatten_cons, List.length_append, ih (fun v hv => h v (List.mem_cons_of_mem _ hv)), h u List.mem_cons_self, List.length_cons, Nat.add_mul]; omega
/-- append(l, m...), both of the call's own. -/
theorem wpList_append_G {α : Type} {E : Elem α} {P : Program} (w : World) {ops : Array Oper} {rest : List Oper} {o : Oper} {a : Act} {Q : Exit → Act → World → Prop} (hgd : o.guard = none) (s x : Operand) (t : TypeId)
    (ho : o.op = .call { callee := .builtin .append, args := #[s, x], argTypes := #[t, t] })
    (base : Nat) (e : TypeId) (i : TypeInfo) (z : Value) (size bytes : Nat) (ht : P.underlying t = some (.slice e)) (hi : P.info? e = some i) (hz : i.zero = some z)
    (hsize : i.size = size) (hby : i.bytes = bytes) (hzs : z.cells.size = size) (hsz : 0 < size) {BE : Nat} (F : Firm E size e BE) (hBE : BE ≤ base)
    (v : Value) (us : List (List Value)) (xs : List α) (hs : a.eval s = v) (hown : OwnG E size e w base v us xs)
    (v2 : Value) (base2 : Nat) (us2 : List (List Value)) (ys : List α) (hx : a.eval x = v2) (h2 : OwnG E size e w base2 v2 us2 ys)
    (h63 : xs.length + ys.length ≤ maxLen) (hbytes : (xs.length + ys.length) * bytes ≤ 140737488355328) (hbase : base ≤ w.heap.size)
    (h : ∀ v' w', OwnG E size e w' base v' (us ++ us2) (xs ++ ys) → w.grownBy w' v.ownBlock → wpList P ops Q rest (a.put o.dst v') w') : wpList P ops Q (o :: rest) a w := by
  have hl := hown.len
  have hl2 := h2.len
  have h9 := h2.own
  rcases h9.2 with ⟨rfl, h0⟩ | ⟨g, cap, cur, rfl, _, _, _, _, _, _⟩
  · obtain rfl : us2 = [] := List.eq_nil_of_length_eq_zero h0
    obtain rfl : ys = [] := List.eq_nil_of_length_eq_zero (by rw [← hl2]; rfl)
    refine wpList_append_own_none hgd s x t ho base e i size ht hi v us.length us.flatten hs hown.own hx (h v w ?_ (grown_refl _ _))
    rw [List.append_nil, List.append_nil]; exact hown
  · refine wpList_append_own w hgd s x t ho base e i z size bytes ht hi hz hsize hby hzs hsz v us.length us.flatten hs hown.own ⟨g, 0, none⟩ us2.length cap us2.flatten hx (flat_lenG (h2.wide F)) (h2.at_all (Below.refl _ _)) (fun u hu => by obtain ⟨q, hq, hu⟩ := List.mem_flatten.1 hu; exact h2.cellsE F q hq u hu) (by omega) (by rw [hl, hl2]; exact hbytes) hbase (fun v' w' h3 h4 _ => h v' w' ?_ h4)
    exact hown.app F hBE hl2 h2.one h3 h4
end Go.Proofs.Ytldlfmeppcdbbaa.Vec
end
