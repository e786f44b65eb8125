import Derived.Test.YtmidpekkomhogaaMg10
import Derived.Test.YtmidpekkomhogaaMg09
import Derived.Maps.AppendAt
import Derived.Deep.RegionWith
section
/- The store: all series told anew, how many points, a copy. -/

namespace Go.Proofs.Ytmidpekkomhogaa.Sto
open Go.RowKit

/-- Series that the call owns: each in rows of its own, all of them from a block on. -/
structure Alls (B : Nat) (w : World) (v : Value) (us : List (Value × Value)) (xs : List Srs) : Prop where
  len : us.length = xs.length
  own : w.ownsRow B 52 2 v us.length (Ser.flatU us)
  told : ∀ (j : Nat) (x : Srs), xs[j]? = some x → ∃ q, us[j]? = some q ∧ Told B w x q.1 q.2
  apart : ∀ (i j : Nat) (p q : Value × Value), i ≠ j → us[i]? = some p → us[j]? = some q → (p.1.ownBlock = none ∨ p.1.ownBlock ≠ q.1.ownBlock) ∧ (p.2.ownBlock = none ∨ p.2.ownBlock ≠ q.2.ownBlock)
theorem alls_nil (B : Nat) (w : World) : Alls B w (.slice none 0 0) [] [] := ⟨rfl, World.ownsRow_nil _ _ _ _, fun j x h => by simp at h, fun i j p q _ h => by simp at h⟩
theorem Alls.below {B : Nat} {w w' : World} {v : Value} {us : List (Value × Value)} {xs : List Srs} (h : Alls B w v us xs) (hb : Below w.heap.size w w') : Alls B w' v us xs :=
  ⟨h.len, own_grown h.own hb, fun j x hx => by
    obtain ⟨q, h1, h2⟩ := h.told j x hx
    exact ⟨q, h1, h2.below hb⟩, h.apart⟩
/-- One more, made since. -/
theorem Alls.snoc {B C : Nat} {w w' : World} {v v' u1 u2 : Value} {us : List (Value × Value)} {xs : List Srs} {x : Srs} (h : Alls B w v us xs) (hC : ∀ (j : Nat) (q : Value × Value), us[j]? = some q → (∀ g, q.1.ownBlock = some g → g < C) ∧ (∀ g, q.2.ownBlock = some g → g < C)) (hBC : B ≤ C) (ht : Told C w x u1 u2)
    (hown : w'.ownsRow B 52 2 v' (us.length + 1) (Ser.flatU us ++ [u1, u2])) (hg : w.grownBy w' v.ownBlock) : Alls B w' v' (us ++ [(u1, u2)]) (xs ++ [x]) := by
  have far : ∀ {e n : Nat} {v2 : Value} {L : List Value} {B2 : Nat}, w.ownsRow B2 e 2 v2 n L → e ≠ 52 → w'.ownsRow B2 e 2 v2 n L := fun ho he => own_same ho fun g hgg =>
    hg.block g (Array.getElem?_eq_some_iff.1 (own_typ ho hgg).choose_spec.choose_spec).1 fun e2 => typ_ne (own_typ ho hgg) (own_typ h.own e2.symm) he rfl
  have ftold : ∀ {y : Srs} {a b : Value} {B2 : Nat}, Told B2 w y a b → Told B2 w' y a b := fun ht => ⟨far ht.1 (by decide), far ht.2 (by decide)⟩
  have hval : ∀ (i : Nat) (p : Value × Value), (us ++ [(u1, u2)])[i]? = some p → (i < us.length ∧ us[i]? = some p) ∨ (i = us.length ∧ p = (u1, u2)) := fun i p hi => by
    by_cases h1 : i < us.length
    · rw [List.getElem?_append_left h1] at hi; exact .inl ⟨h1, hi⟩
    · rw [List.getElem?_append_right (by omega)] at hi
      have h2 := (List.getElem?_eq_some_iff.1 hi).1
      simp at h2
      obtain rfl : i = us.length := by omega
      simp at hi
      exact .inr ⟨rfl, hi.symm⟩
  refine ⟨by simp [h.len], by rw [List.length_append, Ser.flatU_snoc]; exact hown, fun j y hy => ?_, fun i j p q hij hp hq => ?_⟩
  · by_cases h1 : j < xs.length
    · rw [List.getElem?_append_left h1] at hy
      obtain ⟨q, a1, a2⟩ := h.told j y hy
      exact ⟨q, by rw [List.getElem?_append_left (by rw [h.len]; exact h1)]; exact a1, ftold a2⟩
    · rw [List.getElem?_append_right (by omega)] at hy
      have h2 := (List.getElem?_eq_some_iff.1 hy).1
      simp at h2
      obtain rfl : j = xs.length := by omega
      simp at hy
      subst hy
      exact ⟨(u1, u2), by rw [← h.len]; simp, ftold (ht.mono hBC)⟩
  · have no : ∀ {a b : Value}, (∀ g, a.ownBlock = some g → g < C) → (∀ g, b.ownBlock = some g → C ≤ g) → (a.ownBlock = none ∨ a.ownBlock ≠ b.ownBlock) ∧ (b.ownBlock = none ∨ b.ownBlock ≠ a.ownBlock) := fun {a b} ha hb => by
      cases h1 : a.ownBlock with
      | none => exact ⟨.inl rfl, by cases b.ownBlock <;> simp⟩
      | some g =>
        have := ha g h1
        exact ⟨.inr fun e => by have := hb g e.symm; omega, .inr fun e => by have := hb g e; omega⟩
    have n1 := fun g hg => (ht.1.lt g hg).1
    have n2 := fun g hg => (ht.2.lt g hg).1
    rcases hval i p hp with ⟨_, h1⟩ | ⟨rfl, rfl⟩
    · rcases hval j q hq with ⟨_, h2⟩ | ⟨rfl, rfl⟩
      · exact h.apart i j p q hij h1 h2
      · exact ⟨(no (hC i p h1).1 n1).1, (no (hC i p h1).2 n2).1⟩
    · rcases hval j q hq with ⟨_, h2⟩ | ⟨rfl, rfl⟩
      · exact ⟨(no (hC j q h2).1 n1).2, (no (hC j q h2).2 n2).2⟩
      · exact absurd rfl hij
theorem Alls.low {B : Nat} {w : World} {v : Value} {us : List (Value × Value)} {xs : List Srs} (h : Alls B w v us xs) (j : Nat) (q : Value × Value) (hq : us[j]? = some q) : (∀ g, q.1.ownBlock = some g → g < w.heap.size) ∧ (∀ g, q.2.ownBlock = some g → g < w.heap.size) := by
  have hin : j < xs.length := by rw [← h.len]; exact (List.getElem?_eq_some_iff.1 hq).1
  obtain ⟨q', h1, h2⟩ := h.told j xs[j] (List.getElem?_eq_getElem hin)
  rw [hq] at h1
  cases h1
  exact ⟨fun g hg => (h2.1.lt g hg).2, fun g hg => (h2.2.lt g hg).2⟩
/-- Read as series. -/
theorem Alls.ownU {B : Nat} {w : World} {v : Value} {us : List (Value × Value)} {xs : List Srs} (h : Alls B w v us xs) : Ser.OwnU w B v us xs :=
  ⟨h.len, h.own, fun j x hx => by
    obtain ⟨q, h1, h2⟩ := h.told j x hx
    obtain ⟨o, c, e1, e2, e3⟩ := own_sees h2.1
    obtain ⟨o', c', e4, e5, e6⟩ := Pnt.own_sees h2.2
    exact ⟨q, h1, o, c, o', c', e1, e4, e2, e5, e3, e6, Ser.typ_own (e1 ▸ h2.1), Ser.typ_own (e4 ▸ h2.2)⟩⟩
/-- As a store's row. -/
theorem Alls.row {B : Nat} {w : World} {v : Value} {us : List (Value × Value)} {xs : List Srs} (h : Alls B w v us xs) : Row (fun k => B ≤ k ∧ k < w.heap.size) w v us xs :=
  ⟨h.len, own_mono h.own (Nat.zero_le _), fun g hg => h.own.lt g hg, fun j x hx => by
    obtain ⟨q, h1, h2⟩ := h.told j x hx
    exact ⟨q, h1, told_lab h2, own_mono h2.2 (Nat.zero_le _), fun g hg => h2.2.lt g hg⟩, fun i j p q hij hp hq => (h.apart i j p q hij hp hq).2⟩

set_option maxHeartbeats 4000000 in
set_option maxRecDepth 100000 in
/-- Series told anew, all of them: whatever holds of their cells. -/
theorem cloneAll_any (o : Option Addr) (n c : Nat) (xs : List Srs) (w : World) (hn : xs.length = n) (hn60 : n ≤ 1000) (he : ∀ x ∈ xs, Small x.1 ∧ 0 < x.2.length ∧ x.2.length ≤ 1000) (hS : Ser.SeesO w o xs) :
    Calls Try.prog 25 #[.slice o n c] w fun e w' => (∃ v us, e = .returned v ∧ Alls w.heap.size w' v us xs) ∧ Below w.heap.size w w' := by
  obtain ⟨i0, hi, hz0, hz1, hz2⟩ := info_parts Ser.info38
  have HN := Lib.hid hn
  have HS := Lib.hid hS
  have HE := Lib.hid he
  have HC := Lib.hid (fun oL (nL cL b off nP cP : Nat) (x : Srs) W h1 h2 h3 h4 h5 h6 h7 => clone_ser oL nL cL b off nP cP x W h1 h2 h3 h4 h5 h6 h7)
  clear hS he hn
  go_enter Try.func25, Try.ntmps25
  go_wp2
  go_loopw [3, 5, 8] (fun v3 v5 v8 wr => ∃ (k : Nat) (us : List (Value × Value)), v8 = .int .i64 k ∧ k ≤ n ∧ us.length = k ∧ Hid (Alls w.heap.size wr v3 us (xs.take k)) ∧ Hid (Below w.heap.size w wr)) (fun _ _ v8 _ => n - (Go.RowKit.intOf v8).toNat)
  case atStart => exact ⟨0, [], rfl, Nat.zero_le _, rfl, alls_nil _ _, Below.refl _ _⟩
  case round =>
    obtain ⟨k, us, rfl, hk, hu, HA, HB⟩ := hrel
    by_cases hkn : k < n
    · have j1 : (k : Int) < n := by omega
      obtain ⟨x, hx⟩ := Ser.get_lt HN.out hkn
      obtain ⟨b, off, rfl, hSS⟩ := (HS.out.below HB.out).at hx
      obtain ⟨u, v, c0, c1, oL, cL, oP, cP, rfl, rfl, hL, hP, lL, lP⟩ := hSS.at0 _ x hx
      have hlow := hSS.low
      obtain ⟨e1, e2, e3⟩ := HE.out x (List.mem_of_getElem? hx)
      obtain ⟨bP, offP, rfl, hPS⟩ := hP.resolve_left (fun h => by rw [h] at e2; simp at e2)
      have HX := Lib.hid hx
      have hbx : Below wr.heap.size wr (wr.alloc (Obj.cells #[.slice oL x.1.length cL, .slice (some ⟨bP, offP, none⟩) x.2.length cP] 52)) := (Below.refl _ _).alloc (Nat.le_refl _) _
      have HBX := Lib.hid hbx
      have HCC := Lib.hid (HC.out oL x.1.length cL bP offP x.2.length cP x _ rfl rfl e1 e2 (by omega) (hL.below hbx) (hPS.below hbx))
      clear hSS hx hL hP hPS lL lP e1 e2 e3 hbx
      obtain ⟨nL, hnL⟩ : ∃ nL, x.1.length = nL := ⟨_, rfl⟩
      obtain ⟨nP, hnP⟩ : ∃ nP, x.2.length = nP := ⟨_, rfl⟩
      rw [hnL] at c0 HBX HCC
      rw [hnP] at c1 HBX HCC
      have HnL := Lib.hid hnL
      have HnP := Lib.hid hnP
      clear hnL hnP
      go_wp2_with fail
      refine HCC.out.mono ?_
      rintro e w2 ⟨⟨u1, u2, rfl, hT⟩, b2⟩
      obtain ⟨oA, cA, rfl, _⟩ := own_shape hT.1
      obtain ⟨oB, cB, rfl, _⟩ := own_shape hT.2
      have HB2 := Lib.hid (show Below w.heap.size w w2 from (HB.out.trans (HBX.out.mono HB.out.size)).trans (b2.mono (Nat.le_trans HB.out.size HBX.out.size)))
      have HA2 := Lib.hid (HA.out.below (HBX.out.trans (b2.mono HBX.out.size)))
      have HT := Lib.hid hT
      have HSZ := Lib.hid (Nat.le_trans HB.out.size HBX.out.size)
      have HLOW := Lib.hid (show ∀ (j : Nat) (q : Value × Value), us[j]? = some q → (∀ g, q.1.ownBlock = some g → g < (wr.alloc (Obj.cells #[.slice oL nL cL, .slice (some ⟨bP, offP, none⟩) nP cP] 52)).heap.size) ∧ (∀ g, q.2.ownBlock = some g → g < (wr.alloc (Obj.cells #[.slice oL nL cL, .slice (some ⟨bP, offP, none⟩) nP cP] 52)).heap.size) from fun j q hq => by
        have h1 := HA.out.low j q hq
        have h2 := HBX.out.size
        exact ⟨fun g hg => by have := h1.1 g hg; omega, fun g hg => by have := h1.2 g hg; omega⟩)
      have hown2 := HA2.out.own
      clear b2 hT HCC
      have hzw := HB2.out.size
      have hn2 : us.length ≤ 1000 := by omega
      go_wp2_with (at_builtin; go_must (refine wpList_append_own _ rfl _ _ 29 rfl w.heap.size 52 i0 (.agg #[.slice none 0 0, .slice none 0 0]) 2 48 Try.underlying29 hi hz0 hz1 hz2 rfl (by decide) _ _ _ rfl (hown2.alloc _) ⟨w2.heap.size, 0, none⟩ 1 1 [.slice oA x.1.length cA, .slice oB x.2.length cB] rfl rfl (Ser.cells_2v _ _ _ _ rfl) (Ser.one_2v _ _ _ _ _ _) (by unfold maxLen; omega) (by omega) (by simp; omega) ?_); intro v' w3 hown' hgrow3 hnil3)
      have hB3 : Below w.heap.size w w3 := Below.grown (HB2.out.alloc (by omega) _) hgrow3 (by simp; omega) (fun j hj => (hown2.lt _ hj).1)
      have hA2a : Alls w.heap.size (w2.alloc (Obj.cells #[.slice oA x.1.length cA, .slice oB x.2.length cB] 52)) u3 us (xs.take k) := HA2.out.below ((Below.refl _ _).alloc (Nat.le_refl _) _)
      have hT2a := HT.out.below (show Below w2.heap.size w2 (w2.alloc (Obj.cells #[.slice oA x.1.length cA, .slice oB x.2.length cB] 52)) from (Below.refl _ _).alloc (Nat.le_refl _) _)
      have HA3 := Lib.hid (show Alls w.heap.size w3 v' (us ++ [(.slice oA x.1.length cA, .slice oB x.2.length cB)]) (xs.take (k + 1)) by
        rw [List.take_add_one, HX.out]
        exact hA2a.snoc HLOW.out HSZ.out hT2a hown' hgrow3)
      have HB3 := Lib.hid hB3
      clear hown' hgrow3 hnil3 hown2 hB3 hzw hA2a hT2a
      go_roundw
      case rel => exact ⟨k + 1, _, by go_num, by omega, by simp; omega, HA3, HB3⟩
      case measure => simp [Go.RowKit.intOf]; omega
    · have HZ := Lib.hid (show xs.take k = xs from List.take_of_length_le (by rw [HN.out]; omega))
      rw [HZ.out] at HA
      go_wp2
      go_ret
      exact ⟨⟨_, us, rfl, HA.out⟩, HB.out⟩
theorem small_each {xs : List Srs} (h : Fine xs) : ∀ x ∈ xs, Small x.1 ∧ 0 < x.2.length ∧ x.2.length ≤ 1000 := fun x hx => by
  obtain ⟨h1, h2, h3⟩ := h.each x hx
  exact ⟨h1, h2, by omega⟩
theorem St.sees {F : Nat → Prop} {w : World} {p : Nat} {xs : List Srs} (h : St F w p xs) (hf : Fine xs) : ∃ o c, w.cell? ⟨p, 0, none⟩ = some (.slice o xs.length c) ∧ Ser.SeesO w o xs ∧ xs.length ≤ 40 := by
  obtain ⟨v, us, h1, h2⟩ := h.row
  obtain ⟨o, c, rfl, h3, _⟩ := h2.sees fun x hx => by have := (hf.each x hx).1.len; unfold maxLen; omega
  exact ⟨o, c, by simp [World.cell?, h1], h3, hf.few⟩

set_option maxHeartbeats 2000000 in
set_option maxRecDepth 100000 in
theorem all_any (F : Nat → Prop) (p : Nat) (xs : List Srs) (w : World) (h : St F w p xs) (hf : Fine xs) :
    Calls Try.prog 9 #[.pointer (some ⟨p, 0, none⟩)] w fun e w' => (∃ v us, e = .returned v ∧ Alls w.heap.size w' v us xs) ∧ Below w.heap.size w w' := by
  obtain ⟨o, c, h1, h2, h3⟩ := h.sees hf
  obtain ⟨n, hn⟩ : ∃ n, xs.length = n := ⟨_, rfl⟩
  have HC := Lib.hid (cloneAll_any o n c xs w hn (by omega) (small_each hf) h2)
  rw [hn] at h1
  clear h hf h2 h3 hn
  go_enter Try.func9, Try.ntmps9
  go_wp2_with fail
  refine HC.out.mono ?_
  rintro e w1 ⟨⟨v, us, rfl, hA⟩, b1⟩
  have HA := Lib.hid hA
  clear hA
  go_wp2
  go_ret
  exact ⟨⟨_, us, rfl, HA.out⟩, b1⟩

set_option maxHeartbeats 2000000 in
set_option maxRecDepth 100000 in
theorem points_any (F : Nat → Prop) (p : Nat) (xs : List Srs) (w : World) (h : St F w p xs) (hf : Fine xs) :
    Calls Try.prog 14 #[.pointer (some ⟨p, 0, none⟩)] w fun e w' => e = .returned (.int .i64 (pointsN (K := Labs) xs : Nat)) ∧ Below w.heap.size w w' := by
  obtain ⟨o, c, h1, h2, h3⟩ := h.sees hf
  obtain ⟨n, hn⟩ : ∃ n, xs.length = n := ⟨_, rfl⟩
  have HN := Lib.hid hn
  have HS := Lib.hid h2
  have HE := Lib.hid hf.each
  have hle : ∀ k, k ≤ n → pointsN (K := Labs) (xs.take k) ≤ k * 25 := by
    intro k
    induction k with
    | zero => intro _; simp [pointsN]
    | succ k ih =>
      intro hk
      obtain ⟨x, hx⟩ := Ser.get_lt hn (show k < n by omega)
      have h1 := ih (by omega)
      have h2 := (hf.each x (List.mem_of_getElem? hx)).2.2
      rw [List.take_add_one, hx]
      unfold pointsN at h1 ⊢
      rw [List.map_append, List.sum_append]
      simp only [Option.toList_some, List.map_cons, List.map_nil, List.sum_cons, List.sum_nil]
      omega
  have HLE := Lib.hid hle
  rw [hn] at h1 h3
  clear h hf h2 hn hle
  go_enter Try.func14, Try.ntmps14
  go_wp2
  go_loopw [3, 5, 13] (fun v3 v5 v13 wr => ∃ (k s : Nat), v13 = .int .i64 k ∧ k ≤ n ∧ v3 = .int .i64 s ∧ Hid (pointsN (K := Labs) (xs.take k) = s) ∧ Hid (Below w.heap.size w wr)) (fun _ _ v13 _ => n - (Go.RowKit.intOf v13).toNat)
  case atStart => exact ⟨0, 0, rfl, Nat.zero_le _, rfl, rfl, Below.refl _ _⟩
  case round =>
    obtain ⟨k, s, rfl, hk, rfl, HP, HB⟩ := hrel
    have hsb : s ≤ 1000 := by have h1 := HLE.out k hk; have h2 := HP.out; omega
    by_cases hkn : k < n
    · have j1 : (k : Int) < n := by omega
      obtain ⟨x, hx⟩ := Ser.get_lt HN.out hkn
      obtain ⟨b, off, rfl, hSS⟩ := (HS.out.below HB.out).at hx
      obtain ⟨u, v, c0, c1, oL, cL, oP, cP, rfl, rfl, hL, hPP, lL, lP⟩ := hSS.at0 _ x hx
      have h25 := (HE.out x (List.mem_of_getElem? hx)).2.2
      have HP2 := Lib.hid (show pointsN (K := Labs) (xs.take (k + 1)) = s + x.2.length by
        rw [List.take_add_one, hx]
        have := HP.out
        unfold pointsN at this ⊢
        rw [List.map_append, List.sum_append, this]
        simp)
      have HB1 := Lib.hid (show Below w.heap.size w (wr.alloc (Obj.cells #[.slice oL x.1.length cL, .slice oP x.2.length cP] 52)) from HB.out.alloc HB.out.size _)
      clear hSS hx hL hPP lL lP
      generalize x.1.length = nL at c0 HB1
      generalize x.2.length = nP at c1 HB1 HP2 h25
      have j2 : IntKind.i64.wrap ((s : Int) + (nP : Int)) = (s : Int) + (nP : Int) := by rw [IntKind.wrap_i64]; omega
      go_wp2
      go_roundw
      case rel => exact ⟨k + 1, s + nP, by go_num, by omega, by go_num, HP2, HB1⟩
      case measure => simp [Go.RowKit.intOf]; omega
    · have HZ := Lib.hid (show xs.take k = xs from List.take_of_length_le (by rw [HN.out]; omega))
      rw [HZ.out] at HP
      go_wp2
      go_ret
      exact ⟨by rw [HP.out]; rfl, HB.out⟩
end Go.Proofs.Ytmidpekkomhogaa.Sto
end

section
/- The store: rows that hold no tree of a pattern; an append keeps them so. -/

namespace Go.Proofs.Ytmidpekkomhogaa.Sto
open Go.RowKit

/-- A cell that no tree of a pattern has. -/
def NoTree (u : Value) : Prop := (∀ r, u ≠ .int .i32 r) ∧ ∀ t x, u ≠ .iface t x
/-- A row whose cells, the spare ones too, no tree has. -/
def Bare (w : World) (v : Value) : Prop := ∀ g, v.ownBlock = some g → ∃ cs t, w.heap[g]? = some (.cells cs t (0, 0)) ∧ ∀ u ∈ cs.toList, NoTree u
theorem Bare.below {w w' : World} {v : Value} (h : Bare w v) (hb : Below w.heap.size w w') : Bare w' v := fun g hg => by
  obtain ⟨cs, t, h1, h2⟩ := h g hg
  exact ⟨cs, t, (hb.block g (Array.getElem?_eq_some_iff.1 h1).1).trans h1, h2⟩
section
variable {P : Program} (w : World)
theorem run_append_bare (base : Nat) (t ty e : TypeId) (i : TypeInfo) (z : Value) (size bytes : Nat) (ht : P.underlying t = some (.slice e)) (hi : P.info? e = some i) (hz : i.zero = some z)
    (hsize : i.size = size) (hby : i.bytes = bytes) (hzs : z.cells.size = size) (hsz : 0 < size) (hzb : ∀ u ∈ z.cells.toList, NoTree u)
    (v : Value) (n : Nat) (xs : List Value) (hown : w.ownsRow base e size v n xs) (hbare : Bare w v)
    (a : Addr) (m c : Nat) (news : List Value) (hl : news.length = m * size) (hnews : ∀ j u, news[j]? = some u → w.cell? (a.add j) = some u) (h1 : ∀ u ∈ news, u.oneCell' = true) (hnb : ∀ u ∈ news, NoTree u)
    (hm : 0 < m) (h63 : n + m ≤ maxLen) (hbytes : (n + m) * bytes ≤ 140737488355328) (hbase : base ≤ w.heap.size) :
    ∃ v' w', (Builtin.append_ #[t, t] ty #[v, .slice (some a) m c]).run P w = .ok v' w' ∧ w'.ownsRow base e size v' (n + m) (xs ++ news) ∧ w.grownBy w' v.ownBlock ∧ Bare w' v' := by
  obtain ⟨v', w', hr, h2, h3, _, h5⟩ := run_append_own_at (P := P) w base t ty e i z size bytes ht hi hz hsize hby hzs hsz v n xs hown a m c news hl hnews h1 h63 hbytes hbase
  refine ⟨v', w', hr, h2, h3, ?_⟩
  subst hsize
  subst hby
  have zb : ∀ k, ∀ u ∈ (Builtin.zeroCells z.cells k).toList, NoTree u := by
    intro k u hu
    have h0 : 0 < z.cells.size := by omega
    unfold Builtin.zeroCells at hu
    rw [Array.toList_map] at hu
    obtain ⟨j, _, rfl⟩ := List.mem_map.1 hu
    have hj : j % z.cells.size < z.cells.size := Nat.mod_lt _ h0
    rw [getElem!_pos z.cells _ hj]
    exact hzb _ (by simp)
  rcases hown.2 with ⟨rfl, rfl⟩ | ⟨g, cap, cur, rfl, hbg, hg, hnc, hcm, hcs, htake⟩
  · have hr2 := run_append_nil (P := P) w t ty e i z ht hi hz a m c news hl hnews hm (by unfold maxLen at h63; omega) (by simp only [Nat.zero_add] at hbytes; omega)
    rw [hr] at hr2
    cases hr2
    intro g hg
    have : w.heap.size = g := by simpa [Value.ownBlock] using hg
    subst this
    refine ⟨_, e, heap_alloc_new w.drew _, fun u hu => ?_⟩
    rw [Array.toList_append, List.mem_append] at hu
    exact hu.elim (fun h => hnb u h) (zb _ u)
  · obtain ⟨cs, t2, hh, hb⟩ := hbare g rfl
    rw [hg] at hh
    cases hh
    by_cases hroom : n + m ≤ cap
    · have hfit : n * i.size + news.length ≤ cur.size := by rw [hl, hcs, ← Nat.add_mul]; exact Nat.mul_le_mul_right _ hroom
      have hr2 := run_append_room (P := P) w t ty e i ht hi g n cap cur hg a m c news hl hnews h1 hroom hfit
      rw [hr] at hr2
      cases hr2
      intro g' hg'
      have : g = g' := by simpa [Value.ownBlock] using hg'
      subst this
      refine ⟨_, e, setRow_heap w g cur _ e _ hg, fun u hu => ?_⟩
      simp only [List.mem_append] at hu
      rcases hu with (hu | hu) | hu
      · exact hb u (List.mem_of_mem_take hu)
      · exact hnb u hu
      · exact hb u (List.mem_of_mem_drop hu)
    · have holds : ∀ j u, xs[j]? = some u → w.cell? ((⟨g, 0, none⟩ : Addr).add j) = some u := hown.cells (g := g) rfl
      have hr2 := run_append_grow (P := P) w t ty e i z ht hi hz ⟨g, 0, none⟩ n cap xs hown.1 holds a m c news hl hnews (by omega) (by unfold maxLen at h63; omega) (growslice_fits (by omega) hbytes)
      rw [hr] at hr2
      cases hr2
      intro g' hg'
      have : w.heap.size = g' := by simpa [Value.ownBlock] using hg'
      subst this
      refine ⟨_, e, heap_alloc_new w.drew _, fun u hu => ?_⟩
      rw [Array.toList_append, Array.toList_append, List.mem_append, List.mem_append] at hu
      rcases hu with (hu | hu) | hu
      · exact hb u (List.mem_of_mem_take (show u ∈ cur.toList.take (n * i.size) by rw [htake]; exact hu))
      · exact hnb u hu
      · exact zb _ u hu
theorem wpList_append_bare {ops : Array Oper} {rest : List Oper} {o : Oper} {a : Act} {Q : Exit → Act → World → Prop} (hgd : o.guard = none) (s x : Operand) (t : TypeId)
    (ho : o.op = .call { callee := .builtin .append, args := #[s, x], argTypes := #[t, t] })
    (base : Nat) (e : TypeId) (i : TypeInfo) (z : Value) (size bytes : Nat) (ht : P.underlying t = some (.slice e)) (hi : P.info? e = some i) (hz : i.zero = some z)
    (hsize : i.size = size) (hby : i.bytes = bytes) (hzs : z.cells.size = size) (hsz : 0 < size) (hzb : ∀ u ∈ z.cells.toList, NoTree u)
    (v : Value) (n : Nat) (xs : List Value) (hs : a.eval s = v) (hown : w.ownsRow base e size v n xs) (hbare : Bare w v)
    (ad : Addr) (m c : Nat) (news : List Value) (hx : a.eval x = .slice (some ad) m c) (hl : news.length = m * size) (hnews : ∀ j u, news[j]? = some u → w.cell? (ad.add j) = some u) (h1 : ∀ u ∈ news, u.oneCell' = true) (hnb : ∀ u ∈ news, NoTree u)
    (hm : 0 < m) (h63 : n + m ≤ maxLen) (hbytes : (n + m) * bytes ≤ 140737488355328) (hbase : base ≤ w.heap.size)
    (h : ∀ v' w', w'.ownsRow base e size v' (n + m) (xs ++ news) → w.grownBy w' v.ownBlock → Bare w' v' → wpList P ops Q rest (a.put o.dst v') w') : wpList P ops Q (o :: rest) a w :=
  wpList_plain hgd fun _ hK => by
    obtain ⟨v', w', hr, h2, h3, h4⟩ := run_append_bare (P := P) w base t o.type e i z size bytes ht hi hz hsize hby hzs hsz hzb v n xs hown hbare ad m c news hl hnews h1 hnb hm h63 hbytes hbase
    unfold Oper.wp execOp
    simp only [ho, resolve, invoke, builtin, Sem.run_bind, Sem.run_pure, Result.andThen_ok, List.map_toArray, List.map_cons, List.map_nil, hs, hx, hr]
    exact hK _ _ (h v' w' h2 h3 h4)
end
/-- A tree's blocks are none that no tree has. -/
theorem tree_off {w : World} {P : Nat → Prop} {v : Value} {x : Pat.Pt} {k : Nat} {cs : Array Value} {t : TypeId} (hk : w.heap[k]? = some (.cells cs t (0, 0))) (hb : ∀ u ∈ cs.toList, NoTree u) (h : Pat.Tree w P v x) : Pat.Tree w (fun q => P q ∧ q ≠ k) v x := by
  have cell : ∀ (o : Nat) (u : Value), w.cell? ⟨k, o, none⟩ = some u → NoTree u := fun o u hu => by
    rw [cell_of_row w k o cs t (0, 0) hk, ← Array.getElem?_toList] at hu
    exact hb u (List.mem_of_getElem? hu)
  have sv : ∀ (o : Option Addr) (vs : List Value), Pat.SeesV w P o vs → (∀ (j : Nat) (v : Value), vs[j]? = some v → ∃ t u, v = .iface t u) → Pat.SeesV w (fun q => P q ∧ q ≠ k) o vs := by
    intro o vs h hi
    rcases h with h | ⟨b', off, e, hp, hl, hs⟩
    · exact .inl h
    · cases vs with
      | nil => exact .inl rfl
      | cons v vs =>
        refine .inr ⟨b', off, e, ⟨hp, ?_⟩, hl, hs⟩
        rintro rfl
        obtain ⟨t', u', rfl⟩ := hi 0 v rfl
        exact (cell _ _ (hs 0 _ rfl)).2 _ _ rfl
  induction h with
  | only r => exact .only r
  | dot => exact .dot
  | cls neg o n cap xs hn hm h =>
    refine .cls neg o n cap xs hn hm ?_
    rcases h with h | ⟨b', off, e, hp, hl, hs⟩
    · exact .inl h
    · cases xs with
      | nil => exact .inl rfl
      | cons x xs =>
        refine .inr ⟨b', off, e, ⟨hp, ?_⟩, hl, hs⟩
        rintro rfl
        exact (cell _ _ (hs 0 _ rfl).1).1 _ rfl
  | times v x a b _ ih => exact .times v x a b ih
  | choice o n cap vs l hn hl hm h ht ih =>
    refine .choice o n cap vs l hn hl hm (sv o vs h fun j v hv => ?_) ih
    obtain ⟨y, hy⟩ : ∃ y, l[j]? = some y := ⟨_, List.getElem?_eq_getElem (by have := (List.getElem?_eq_some_iff.1 hv).1; omega)⟩
    exact (ht j v y hv hy).iface
  | chain o n cap vs l hn hl hm h ht ih =>
    refine .chain o n cap vs l hn hl hm (sv o vs h fun j v hv => ?_) ih
    obtain ⟨y, hy⟩ : ∃ y, l[j]? = some y := ⟨_, List.getElem?_eq_getElem (by have := (List.getElem?_eq_some_iff.1 hv).1; omega)⟩
    exact (ht j v y hv hy).iface
/-- A question stays where a row of questions alone grows. -/
theorem QAt.grown {w w' : World} {B n : Nat} {v p : Value} {m : Mat} {L : List Value} (h : QAt w m p) (hown : w.ownsRow B 80 4 v n L) (hbare : Bare w v) (hg : w.grownBy w' v.ownBlock) : QAt w' m p := by
  refine ⟨h.ok, h.none', fun ho => ?_⟩
  obtain ⟨bp, x, h1, h2, h3, h4⟩ := h.pat ho
  refine ⟨bp, x, h1, h2, ?_, h4⟩
  obtain ⟨va, vt, vs, hp, hr⟩ := h3
  have own : ∀ {B e size n : Nat} {v2 : Value} {xs : List Value}, w.ownsRow B e size v2 n xs → e ≠ 80 → w'.ownsRow B e size v2 n xs := fun h he => own_same h fun g hgg =>
    hg.block g (Array.getElem?_eq_some_iff.1 (own_typ h hgg).choose_spec.choose_spec).1 fun e2 => typ_ne (own_typ h hgg) (own_typ hown e2.symm) he rfl
  refine ⟨va, vt, vs, (hg.block bp (Array.getElem?_eq_some_iff.1 hp).1 ?_).trans hp, own hr.atoms (by decide), own hr.links (by decide), fun j u y hu hy => ?_⟩
  · intro e2
    have := own_typ hown e2.symm
    exact typ_ne ⟨_, _, hp⟩ this (by decide) rfl
  · have ht := hr.kids j u y hu hy
    cases hv : v.ownBlock with
    | none => exact ht.keep fun q hq hl => ⟨hg.block q hl (by rw [hv]; simp), hq⟩
    | some g =>
      obtain ⟨cs, t, hh, hb⟩ := hbare g hv
      exact (tree_off hh hb ht).keep fun q hq hl => ⟨hg.block q hl (by rw [hv]; intro e; cases e; exact hq.2 rfl), hq.1⟩
end Go.Proofs.Ytmidpekkomhogaa.Sto
end

section
/- The store: matchers read, one after another; asked. -/

namespace Go.Proofs.Ytmidpekkomhogaa.Sto
open Go.RowKit

/-- A slice that reads as these matchers. -/
def SeesM (w : World) (o : Option Addr) (ms : List Mat) : Prop := ms = [] ∨ ∃ b off, o = some ⟨b, off, none⟩ ∧ b < w.heap.size ∧ ∀ (j : Nat) (m : Mat), ms[j]? = some m → w.cell? ⟨b, off + j * 3, none⟩ = some (.string m.1) ∧ w.cell? ⟨b, off + j * 3 + 1, none⟩ = some (.int .i64 m.2.1) ∧ w.cell? ⟨b, off + j * 3 + 2, none⟩ = some (.string m.2.2)
theorem SeesM.below {w w' : World} {o : Option Addr} {ms : List Mat} (h : SeesM w o ms) (hb : Below w.heap.size w w') : SeesM w' o ms :=
  h.imp id fun ⟨b, off, e, h1, h2⟩ => ⟨b, off, e, Nat.lt_of_lt_of_le h1 hb.size, fun j m hm => ⟨(hb.cell (p := ⟨b, off + j * 3, none⟩) h1).trans (h2 j m hm).1, (hb.cell (p := ⟨b, off + j * 3 + 1, none⟩) h1).trans (h2 j m hm).2.1, (hb.cell (p := ⟨b, off + j * 3 + 2, none⟩) h1).trans (h2 j m hm).2.2⟩⟩
/-- May matchers be? -/
def matsB (ms : List Mat) : Bool := decide (ms.length ≤ 10) && ms.all matB
abbrev Qn := Mat × Option Addr
def flatQ (qs : List Qn) : List Value := qs.flatMap fun q => [.string q.1.1, .int .i64 q.1.2.1, .string q.1.2.2, .pointer q.2]
theorem flatQ_snoc (qs : List Qn) (q : Qn) : flatQ (qs ++ [q]) = flatQ qs ++ [.string q.1.1, .int .i64 q.1.2.1, .string q.1.2.2, .pointer q.2] := by simp [flatQ]
theorem flatQ_at : ∀ (qs : List Qn) (j : Nat) (q : Qn), qs[j]? = some q → (flatQ qs)[j * 4]? = some (.string q.1.1) ∧ (flatQ qs)[j * 4 + 1]? = some (.int .i64 q.1.2.1) ∧ (flatQ qs)[j * 4 + 2]? = some (.string q.1.2.2) ∧ (flatQ qs)[j * 4 + 3]? = some (.pointer q.2)
  | [], j, x, h => by simp at h
  | y :: ys, 0, x, h => by simp at h; subst h; simp [flatQ]
  | y :: ys, j + 1, x, h => by
    have := flatQ_at ys j x (by simpa using h)
    rw [show (j + 1) * 4 = j * 4 + 1 + 1 + 1 + 1 by omega]
    simpa [flatQ] using this
/-- Questions in a row of the call's own. -/
structure Asks (B : Nat) (w : World) (v : Value) (qs : List Qn) : Prop where
  own : w.ownsRow B 80 4 v qs.length (flatQ qs)
  bare : Bare w v
  each : ∀ (j : Nat) (q : Qn), qs[j]? = some q → QAt w q.1 (.pointer q.2)
theorem asks_nil (B : Nat) (w : World) : Asks B w (.slice none 0 0) [] := ⟨World.ownsRow_nil _ _ _ _, fun g hg => (by cases hg), fun j q h => (by simp at h)⟩
theorem Asks.below {B : Nat} {w w' : World} {v : Value} {qs : List Qn} (h : Asks B w v qs) (hb : Below w.heap.size w w') : Asks B w' v qs :=
  ⟨own_grown h.own hb, h.bare.below hb, fun j q hq => (h.each j q hq).below hb⟩
theorem infoQ : (Try.prog.info? 80).map (fun i => (i.zero, i.size, i.bytes)) = some (some (.agg #[.string ⟨#[]⟩, .int .i64 0, .string ⟨#[]⟩, .pointer none]), 4, 48) := by kernel_rfl
theorem cells_4v (w : World) (a b c d : Value) (t : TypeId) : ∀ j u, [a, b, c, d][j]? = some u → (w.alloc (.cells #[a, b, c, d] t)).cell? ((⟨w.heap.size, 0, none⟩ : Addr).add j) = some u := by
  intro j u hj
  match j, hj with
  | 0, hj => simp at hj; subst hj; simp [Addr.add]
  | 1, hj => simp at hj; subst hj; simp [Addr.add]
  | 2, hj => simp at hj; subst hj; simp [Addr.add]
  | 3, hj => simp at hj; subst hj; simp [Addr.add]
  | j + 4, hj => simp at hj
theorem one_4q (a c : ByteArray) (b : Int) (d : Option Addr) : ∀ v ∈ [Value.string a, .int .i64 b, .string c, .pointer d], v.oneCell' = true := by
  intro v hv; simp at hv; rcases hv with rfl | rfl | rfl | rfl <;> rfl
theorem bare_4q (a c : ByteArray) (b : Int) (d : Option Addr) : ∀ v ∈ [Value.string a, .int .i64 b, .string c, .pointer d], NoTree v := by
  intro v hv; simp at hv; rcases hv with rfl | rfl | rfl | rfl <;> exact ⟨fun r h => (by cases h), fun t x h => (by cases h)⟩

set_option maxHeartbeats 4000000 in
set_option maxRecDepth 100000 in
theorem read_any (o : Option Addr) (n c : Nat) (ms : List Mat) (w : World) (hn : ms.length = n) (hn2 : n ≤ 1000000) (hok : ∀ m ∈ ms, m.Ok) (hS : SeesM w o ms) :
    Calls Try.prog 22 #[.slice o n c] w fun e w' => (∃ v, e = .returned (.tuple #[v, .bool (matsB ms)]) ∧ (matsB ms = true → ∃ qs, qs.map (·.1) = ms ∧ Asks w.heap.size w' v qs)) ∧ Below w.heap.size w w' := by
  obtain ⟨i0, hi, hz0, hz1, hz2⟩ := info_parts infoQ
  by_cases h10 : 10 < n
  · have h10i : (10 : Int) < n := by omega
    have HM := Lib.hid (show matsB ms = false by unfold matsB; rw [hn, decide_eq_false (by omega)]; rfl)
    rw [HM.out]
    go_enter Try.func22, Try.ntmps22
    go_wp2
    go_ret2
    exact ⟨⟨_, rfl, fun h => by cases h⟩, Below.refl _ _⟩
  · have h10i : ¬ (10 : Int) < n := by omega
    have HMS := Lib.hid (show matsB ms = ms.all matB by unfold matsB; rw [hn, decide_eq_true (by omega)]; rfl)
    have HN := Lib.hid hn
    have HS := Lib.hid hS
    have HO := Lib.hid hok
    have HR := Lib.hid (fun (m : Mat) W (h : m.Ok) => readOne_any m W h)
    obtain ⟨R, hR⟩ : ∃ R, matsB ms = R := ⟨_, rfl⟩
    have HRR := Lib.hid hR
    rw [hR]
    clear hS hok hn hR
    go_enter Try.func22, Try.ntmps22
    go_wp2
    go_loopw [4, 6, 7, 8, 14] (fun v4 v6 v7 v8 v14 wr => ∃ (k : Nat) (qs : List Qn), v14 = .int .i64 k ∧ k ≤ n ∧ Hid (qs.map (·.1) = ms.take k) ∧ Hid ((ms.take k).all matB = true) ∧ Hid (Asks w.heap.size wr v4 qs) ∧ Hid (Below w.heap.size w wr)) (fun _ _ _ _ v14 _ => n - (Go.RowKit.intOf v14).toNat)
    case atStart => exact ⟨0, [], rfl, Nat.zero_le _, rfl, rfl, asks_nil _ _, Below.refl _ _⟩
    case round =>
      obtain ⟨k, qs, rfl, hk, HQ, HAL, HA, HB⟩ := hrel
      by_cases hkn : k < n
      · have j1 : (k : Int) < n := by omega
        obtain ⟨m, hm⟩ : ∃ m, ms[k]? = some m := ⟨_, List.getElem?_eq_getElem (by rw [HN.out]; exact hkn)⟩
        obtain ⟨b, off, rfl, hbl, hcs⟩ := (HS.out.below HB.out).resolve_left (fun h => by rw [h] at hm; simp at hm)
        obtain ⟨c0, c1, c2⟩ := hcs k m hm
        have hmok := HO.out m (List.mem_of_getElem? hm)
        have HX := Lib.hid hm
        have HC := Lib.hid (HR.out m (wr.alloc (Obj.cells #[.string m.1, .int .i64 m.2.1, .string m.2.2] 24)) hmok)
        have HBX := Lib.hid (show Below wr.heap.size wr (wr.alloc (Obj.cells #[.string m.1, .int .i64 m.2.1, .string m.2.2] 24)) from (Below.refl _ _).alloc (Nat.le_refl _) _)
        have HTK := Lib.hid (show ms.take (k + 1) = ms.take k ++ [m] by rw [List.take_add_one, hm]; rfl)
        clear hcs hm hmok
        go_wp2_with fail
        refine HC.out.mono ?_
        rintro e w2 ⟨⟨a, b', c', p, rfl, hq⟩, b2⟩
        have HB2 := Lib.hid (show Below w.heap.size w w2 from (HB.out.trans (HBX.out.mono HB.out.size)).trans (b2.mono (Nat.le_trans HB.out.size HBX.out.size)))
        have HA2 := Lib.hid (HA.out.below (HBX.out.trans (b2.mono HBX.out.size)))
        clear b2 HC
        cases hmb : matB m with
        | false =>
          have HF := Lib.hid (show R = false by
            rw [← HRR.out, HMS.out]
            have : m ∈ ms := List.mem_of_getElem? HX.out
            rw [Bool.eq_false_iff]
            intro h
            rw [List.all_eq_true] at h
            rw [h m this] at hmb
            cases hmb)
          clear hq
          go_wp2
          go_ret2
          obtain rfl := HF.out
          exact ⟨⟨_, rfl, fun h => by cases h⟩, HB2.out.alloc HB2.out.size _⟩
        | true =>
          obtain ⟨rfl, rfl, rfl, hqa⟩ := hq hmb
          have HQA := Lib.hid hqa
          have HAL2 := Lib.hid (show (ms.take (k + 1)).all matB = true by rw [HTK.out, List.all_append, HAL.out]; simp [hmb])
          have HQ2 := Lib.hid (show (qs ++ [(m, p)]).map (·.1) = ms.take (k + 1) by rw [HTK.out, List.map_append, HQ.out]; rfl)
          have hql : qs.length = k := by have := congrArg List.length HQ.out; rw [List.length_map, List.length_take, HN.out] at this; omega
          have hown2 := HA2.out.own
          have hbare2 := HA2.out.bare
          have hzw := HB2.out.size
          clear hqa hq hmb
          have V1 : Below w2.heap.size w2 ((w2.alloc (Obj.cells #[.string m.1, .int .i64 m.2.1, .string m.2.2, .pointer p] 80)).alloc (Obj.cells #[.string m.1, .int .i64 m.2.1, .string m.2.2, .pointer p] 80)) := ((Below.refl _ _).alloc (Nat.le_refl _) _).alloc (by simp) _
          have HV := Lib.hid V1
          have hownV := own_grown hown2 V1
          have hbareV := hbare2.below V1
          clear V1
          go_wp2_with (at_builtin; go_must (refine wpList_append_bare _ rfl _ _ 64 rfl w.heap.size 80 i0 (.agg #[.string ⟨#[]⟩, .int .i64 0, .string ⟨#[]⟩, .pointer none]) 4 48 Try.underlying64 hi hz0 hz1 hz2 rfl (by decide) (bare_4q _ _ _ _) _ _ _ rfl hownV hbareV ⟨w2.heap.size + 1, 0, none⟩ 1 1 [.string m.1, .int .i64 m.2.1, .string m.2.2, .pointer p] rfl rfl (by rw [show w2.heap.size + 1 = (w2.alloc (Obj.cells #[.string m.1, .int .i64 m.2.1, .string m.2.2, .pointer p] 80)).heap.size by simp]; exact cells_4v _ _ _ _ _ _) (one_4q _ _ _ _) (bare_4q _ _ _ _) (by decide) (by unfold maxLen; omega) (by omega) (by simp; omega) ?_); intro v' w3 hown' hgrow3 hbare3)
          have hB3 : Below w.heap.size w w3 := Below.grown (HB2.out.trans (HV.out.mono hzw)) hgrow3 (Nat.le_trans hzw HV.out.size) (fun j hj => (hownV.lt _ hj).1)
          have HA3 := Lib.hid (show Asks w.heap.size w3 v' (qs ++ [(m, p)]) from ⟨by rw [List.length_append, flatQ_snoc]; exact hown', hbare3, fun j q hq => by
            by_cases hj : j < qs.length
            · rw [List.getElem?_append_left hj] at hq
              exact ((HA2.out.each j q hq).below HV.out).grown hownV hbareV hgrow3
            · rw [List.getElem?_append_right (by omega)] at hq
              have h2 := (List.getElem?_eq_some_iff.1 hq).1
              simp at h2
              obtain rfl : j = qs.length := by omega
              simp at hq
              subst hq
              exact (HQA.out.below HV.out).grown hownV hbareV hgrow3⟩)
          have HB3 := Lib.hid hB3
          clear hown' hgrow3 hbare3 hown2 hbare2 hB3 hzw hownV hbareV
          go_roundw
          case rel => exact ⟨k + 1, _, by go_num, by omega, HQ2, HAL2, HA3, HB3⟩
          case measure => simp [Go.RowKit.intOf]; omega
      · have HZ := Lib.hid (show ms.take k = ms from List.take_of_length_le (by rw [HN.out]; omega))
        have HT := Lib.hid (show R = true by rw [← HRR.out, HMS.out, ← HAL.out, HZ.out])
        have HQ3 := Lib.hid (HQ.out.trans HZ.out)
        go_wp2
        go_ret2
        obtain rfl := HT.out
        exact ⟨⟨_, rfl, fun _ => ⟨qs, HQ3.out, HA.out⟩⟩, HB.out⟩

theorem saysB_is {m : Mat} {v : ByteArray} (h : m.2.1 = 1) : saysB m v = (v.toList == m.2.2.toList) := by unfold saysB; rw [if_pos h]
theorem saysB_not {m : Mat} {v : ByteArray} (h : m.2.1 = 2) : saysB m v = !(v.toList == m.2.2.toList) := by unfold saysB; rw [if_neg (by omega), if_pos h]
theorem saysB_like {m : Mat} {v : ByteArray} {x : Pat.Pt} (h : m.2.1 = 3) (hp : patO m.2.2 = some x) : saysB m v = Pat.wholeF (Pat.layF x ⟨[], []⟩) (spell v.data.toList) := by
  unfold saysB; rw [if_neg (by omega), if_neg (by omega), hp]; dsimp only; rw [if_pos h]
theorem saysB_unlike {m : Mat} {v : ByteArray} {x : Pat.Pt} (h : m.2.1 = 4) (hp : patO m.2.2 = some x) : saysB m v = !Pat.wholeF (Pat.layF x ⟨[], []⟩) (spell v.data.toList) := by
  unfold saysB; rw [if_neg (by omega), if_neg (by omega), hp]; dsimp only; rw [if_neg (by omega)]
theorem op_cases {m : Mat} (h : matB m = true) : m.2.1 = 1 ∨ m.2.1 = 2 ∨ m.2.1 = 3 ∨ m.2.1 = 4 := by
  unfold matB at h
  simp at h
  omega

set_option maxHeartbeats 4000000 in
set_option maxRecDepth 100000 in
theorem isTrue_any (m : Mat) (p : Value) (v : ByteArray) (w : World) (h : QAt w m p) (hv : v.size ≤ 1099511627776) :
    Calls Try.prog 33 #[.agg #[.string m.1, .int .i64 m.2.1, .string m.2.2, p], .string v] w fun e w' => e = .returned (.bool (saysB m v)) ∧ Below w.heap.size w w' := by
  rcases op_cases h.ok with ho | ho | ho | ho
  · rw [saysB_is ho, h.none' (.inl ho), ho]
    clear h
    go_enter Try.func33, Try.ntmps33
    go_wp2
    go_ret
    exact ⟨rfl, (Below.refl _ _).alloc (Nat.le_refl _) _⟩
  · rw [saysB_not ho, h.none' (.inr ho), ho]
    clear h
    go_enter Try.func33, Try.ntmps33
    go_wp2
    go_ret
    exact ⟨rfl, (Below.refl _ _).alloc (Nat.le_refl _) _⟩
  · obtain ⟨bp, x, rfl, h2, h3, h4⟩ := h.pat (.inl ho)
    rw [saysB_like ho h2, ho]
    have HW := Lib.hid (fun W (hb : Below w.heap.size w W) => Pat.whole_any bp _ _ v W (h3.below hb) h4 hv)
    generalize Pat.wholeF (Pat.layF x ⟨[], []⟩) (spell v.data.toList) = r at HW ⊢
    clear h h2 h3 h4
    go_enter Try.func33, Try.ntmps33
    go_wp2_with fail
    refine (HW.out _ ((Below.refl _ _).alloc (Nat.le_refl _) _)).mono ?_
    rintro e w1 ⟨rfl, b1⟩
    go_wp2
    go_ret
    exact ⟨rfl, ((Below.refl _ _).alloc (Nat.le_refl _) _).trans (b1.mono (by simp))⟩
  · obtain ⟨bp, x, rfl, h2, h3, h4⟩ := h.pat (.inr ho)
    rw [saysB_unlike ho h2, ho]
    have HW := Lib.hid (fun W (hb : Below w.heap.size w W) => Pat.whole_any bp _ _ v W (h3.below hb) h4 hv)
    generalize Pat.wholeF (Pat.layF x ⟨[], []⟩) (spell v.data.toList) = r at HW ⊢
    clear h h2 h3 h4
    go_enter Try.func33, Try.ntmps33
    go_wp2_with fail
    refine (HW.out _ ((Below.refl _ _).alloc (Nat.le_refl _) _)).mono ?_
    rintro e w1 ⟨rfl, b1⟩
    go_wp2
    go_ret
    exact ⟨rfl, ((Below.refl _ _).alloc (Nat.le_refl _) _).trans (b1.mono (by simp))⟩

theorem getL_size : ∀ (l : Labs) (nm : ByteArray), (∀ y ∈ l, y.1.size ≤ 1000 ∧ y.2.size ≤ 1000) → (getL nm l).size ≤ 1000
  | [], _, _ => by show (0 : Nat) ≤ 1000; omega
  | y :: l, nm, h => by
    rw [getL]
    split
    · exact (h y List.mem_cons_self).2
    · exact getL_size l nm fun z hz => h z (List.mem_cons_of_mem _ hz)
/-- Is all that is asked true of labels? -/
def trueB (ms : List Mat) (l : Labs) : Bool := ms.all fun m => saysB m (getL m.1 l)
set_option maxHeartbeats 4000000 in
set_option maxRecDepth 100000 in
theorem areTrue_any (B n c nL cL : Nat) (o oL : Option Addr) (qs : List Qn) (l : Labs) (w : World) (hA : Asks B w (.slice o n c) qs) (hn : qs.length = n) (hL : l.length = nL) (hl : Small l) (hS : SeesO w oL l) :
    Calls Try.prog 23 #[.slice o n c, .slice oL nL cL] w fun e w' => e = .returned (.bool (trueB (qs.map (·.1)) l)) ∧ Below w.heap.size w w' := by
  obtain ⟨R, hR⟩ : ∃ R, trueB (qs.map (·.1)) l = R := ⟨_, rfl⟩
  rw [hR]
  have HR := Lib.hid hR
  have HA := Lib.hid hA
  have HN := Lib.hid hn
  have HG := Lib.hid (fun (nm : ByteArray) W (hb : Below w.heap.size w W) => (show Calls Try.prog 29 #[.slice oL nL cL, .string nm] W fun e w' => e = .returned (.string (getL nm l)) ∧ Below W.heap.size W w' by
    rw [← hL]; exact get_any oL cL l nm W (by have := hl.len; unfold maxLen; omega) (hS.below hb) fun x hx => (hl.big x hx).2))
  have HZ := Lib.hid (fun nm => getL_size l nm hl.sizes)
  have HI := Lib.hid (fun (m : Mat) (p : Value) (v : ByteArray) W (h : QAt W m p) (hv : v.size ≤ 1099511627776) => isTrue_any m p v W h hv)
  have hm : n ≤ maxLen := by
    rcases hA.own.2 with ⟨e, h0⟩ | ⟨g, cap, cur, e, _, _, h1, h2, _⟩
    · rw [← hn, h0]; exact Nat.zero_le _
    · rw [← hn]; omega
  unfold maxLen at hm
  clear hR hA hn hL hl hS
  go_enter Try.func23, Try.ntmps23
  go_wp2
  go_loopw [6, 9] (fun v6 v9 wr => ∃ k : Nat, v9 = .int .i64 k ∧ k ≤ n ∧ Hid (trueB ((qs.drop k).map (·.1)) l = R) ∧ Hid (Below w.heap.size w wr)) (fun _ v9 _ => n - (Go.RowKit.intOf v9).toNat)
  case atStart => exact ⟨0, rfl, Nat.zero_le _, HR.out, Below.refl _ _⟩
  case round =>
    obtain ⟨k, rfl, hk, HT, HB⟩ := hrel
    by_cases hkn : k < n
    · have j1 : (k : Int) < n := by omega
      obtain ⟨q, hq⟩ : ∃ q, qs[k]? = some q := ⟨_, List.getElem?_eq_getElem (by rw [HN.out]; exact hkn)⟩
      have hAk := HA.out.below HB.out
      have hQA := hAk.each k q hq
      obtain ⟨g, rfl⟩ : ∃ g, o = some ⟨g, 0, none⟩ := by
        rcases hAk.own.2 with ⟨e, h0⟩ | ⟨g, cap, cur, e, _⟩
        · rw [HN.out] at h0; omega
        · cases e; exact ⟨g, rfl⟩
      obtain ⟨f0, f1, f2, f3⟩ := flatQ_at qs k q hq
      have hadd : ∀ i, (⟨g, 0, none⟩ : Addr).add i = ⟨g, i, none⟩ := fun i => by unfold Addr.add; split <;> simp_all
      have c0 := hAk.own.cells (g := g) rfl _ _ f0
      have c1 := hAk.own.cells (g := g) rfl _ _ f1
      have c2 := hAk.own.cells (g := g) rfl _ _ f2
      have c3 := hAk.own.cells (g := g) rfl _ _ f3
      rw [hadd] at c0 c1 c2 c3
      have HDR := Lib.hid (show (qs.drop k).map (·.1) = q.1 :: (qs.drop (k + 1)).map (·.1) by
        obtain ⟨hk', e⟩ := List.getElem?_eq_some_iff.1 hq
        rw [List.drop_eq_getElem_cons hk', e]; rfl)
      obtain ⟨⟨nm, op, vl⟩, p⟩ := q
      dsimp only at c0 c1 c2 c3 hQA HDR
      obtain ⟨W, hW⟩ : ∃ W, wr.alloc (Obj.cells #[.string nm, .int .i64 op, .string vl, .pointer p] 80) = W := ⟨_, rfl⟩
      have hBW : Below wr.heap.size wr W := by rw [← hW]; exact (Below.refl _ _).alloc (Nat.le_refl _) _
      have hWx : W.heap[wr.heap.size]? = some (.cells #[.string nm, .int .i64 op, .string vl, .pointer p] 80 (0, 0)) := by rw [← hW]; exact Array.getElem?_push_size
      have hWs : wr.heap.size < W.heap.size := (Array.getElem?_eq_some_iff.1 hWx).1
      have rd : ∀ W', Below W.heap.size W W' → W'.cell? ⟨wr.heap.size, 0, none⟩ = some (.string nm) ∧ W'.cell? ⟨wr.heap.size, 1, none⟩ = some (.int .i64 op) ∧ W'.cell? ⟨wr.heap.size, 2, none⟩ = some (.string vl) ∧ W'.cell? ⟨wr.heap.size, 3, none⟩ = some (.pointer p) := fun W' h => by
        have h1 := (h.block _ hWs).trans hWx
        refine ⟨?_, ?_, ?_, ?_⟩ <;> simp [World.cell?, h1]
      obtain ⟨r0, r1, r2, r3⟩ := rd W (Below.refl _ _)
      have hBw : Below w.heap.size w W := HB.out.trans (hBW.mono HB.out.size)
      have HG2 := Lib.hid ((HG.out nm W.drew hBw.drew).mono fun e w' q => show e = .returned (.string (getL nm l)) ∧ (w'.cell? ⟨wr.heap.size, 0, none⟩ = some (.string nm) ∧ w'.cell? ⟨wr.heap.size, 1, none⟩ = some (.int .i64 op) ∧ w'.cell? ⟨wr.heap.size, 2, none⟩ = some (.string vl) ∧ w'.cell? ⟨wr.heap.size, 3, none⟩ = some (.pointer p)) ∧ Hid (Below W.heap.size W w') from
        have hb : Below W.heap.size W w' := (Below.refl _ _).drew.trans q.2
        ⟨q.1, rd w' hb, hb⟩)
      have HI2 := Lib.hid (fun W' (h : Hid (Below W.heap.size W W')) => (HI.out (nm, op, vl) (.pointer p) (getL nm l) W' ((hQA.below hBW).below h.out) (by have := HZ.out nm; omega)))
      have HBW := Lib.hid hBw
      clear rd hAk hQA hadd f0 f1 f2 f3 hq hBW hWx hWs hBw
      cases hsy : saysB (nm, op, vl) (getL nm l) with
      | false =>
        have HF := Lib.hid (show R = false by rw [← HT.out, HDR.out]; unfold trueB; rw [List.all_cons]; dsimp only; rw [hsy]; rfl)
        rw [hsy] at HI2
        clear hsy
        go_wp2_with fail
        go_region_with (first | (go_at_call 29; refine HG2.out.mono ?_; rintro e w2 ⟨rfl, ⟨s0, s1, s2, s3⟩, HB2⟩) | (go_at_call 33; refine (HI2.out _ HB2).mono ?_; rintro e w3 ⟨rfl, b3⟩))
        all_goals
          have HB3 := Lib.hid (HBW.out.trans ((HB2.out.trans (b3.mono HB2.out.size)).mono HBW.out.size))
          clear b3
          go_wp2
          go_ret
          obtain rfl := HF.out
          exact ⟨rfl, HB3.out⟩
      | true =>
        have HT2 := Lib.hid (show trueB ((qs.drop (k + 1)).map (·.1)) l = R by
          rw [← HT.out, HDR.out]; unfold trueB; rw [List.all_cons]; dsimp only; rw [hsy]; rfl)
        rw [hsy] at HI2
        clear hsy
        go_wp2_with fail
        go_region_with (first | (go_at_call 29; refine HG2.out.mono ?_; rintro e w2 ⟨rfl, ⟨s0, s1, s2, s3⟩, HB2⟩) | (go_at_call 33; refine (HI2.out _ HB2).mono ?_; rintro e w3 ⟨rfl, b3⟩))
        all_goals
          have HB3 := Lib.hid (HBW.out.trans ((HB2.out.trans (b3.mono HB2.out.size)).mono HBW.out.size))
          clear b3
          go_wp2
          go_roundw
          case rel => exact ⟨k + 1, by go_num, by omega, HT2, HB3⟩
          case measure => simp [Go.RowKit.intOf]; omega
    · have HT2 := Lib.hid (show R = true by rw [← HT.out, List.drop_eq_nil_of_le (by rw [HN.out]; omega)]; rfl)
      go_wp2
      go_ret
      obtain rfl := HT2.out
      exact ⟨rfl, HB.out⟩
end Go.Proofs.Ytmidpekkomhogaa.Sto
end
