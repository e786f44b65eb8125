/- A walk: a text out of its quotation marks. -/
import Derived.Test.YtphkodkenkiecaaGreatDoorWg
import Derived.WalkSpells
namespace Go.Proofs.YtphkodkenkiecaaGreatDoor
open Go.RowKit

def unquoteL (l : List UInt8) : Option (List UInt8) :=
  if l.length < 2 ∨ l.getD 0 0 ≠ 34 ∨ l.getD (l.length - 1) 0 ≠ 34 then none
  else match unescL ((l.drop 1).take (l.length - 1 - 1)) with
    | none => none
    | some t => if quoteL t = l then some t else none

theorem unescGo_len : ∀ (f k : Nat) (l t : List UInt8), unescGo f k l = some t → t.length ≤ 4 * l.length
  | 0, k, l, t, h => by simp [unescGo] at h; subst h; simp
  | f + 1, k, l, t, h => by
    rw [unescGo] at h
    by_cases hne : l = []
    · rw [if_pos hne] at h; cases h; simp
    · have hw := Lib.decodeL_width l
      have hwl := Lib.decodeL_le l hne
      rw [if_neg hne] at h
      by_cases hk : 0 < k
      · rw [if_pos hk] at h
        have := unescGo_len f _ _ _ h
        rw [List.length_drop] at this; omega
      · rw [if_neg hk] at h
        by_cases h92 : (Lib.decodeL l).1 ≠ 92
        · rw [if_pos h92] at h
          cases hq : unescGo f 0 (l.drop (Lib.decodeL l).2) with
          | none => rw [hq] at h; cases h
          | some u =>
            rw [hq] at h
            simp at h; subst h
            have := unescGo_len f _ _ _ hq
            have h4 := Lib.runeCells_le ((Lib.decodeL l).1 : Int)
            rw [Lib.runeCells_length] at h4
            rw [List.length_drop] at this
            rw [List.length_append]; omega
        · rw [if_neg h92] at h
          by_cases h0 : (escL l).2 = 0
          · rw [if_pos h0] at h; cases h
          · rw [if_neg h0] at h
            cases hq : unescGo f ((escL l).2 - (Lib.decodeL l).2) (l.drop (Lib.decodeL l).2) with
            | none => rw [hq] at h; cases h
            | some u =>
              rw [hq] at h
              simp at h; subst h
              have := unescGo_len f _ _ _ hq
              rw [List.length_drop] at this
              rw [List.length_cons]; omega

theorem UEnd_cases {o : Option (List UInt8)} {e : Ending} (h : UEnd o e) : (∃ t, o = some t ∧ e = .returned (.tuple #[.string ⟨t.toArray⟩, .bool true])) ∨ (o = none ∧ e = .returned (.tuple #[.string ⟨#[]⟩, .bool false])) := by
  cases o with
  | some t => exact .inl ⟨t, rfl, h⟩
  | none => exact .inr ⟨rfl, h⟩
theorem str_eq {a : List UInt8} {s : ByteArray} : ((⟨a.toArray⟩ : ByteArray) = s) ↔ a = s.data.toList := by
  constructor
  · intro h; rw [← h]
  · intro h; subst h; cases s; simp

set_option maxHeartbeats 2000000 in
set_option maxRecDepth 100000 in
theorem unquote_any (s : ByteArray) (hs : s.size ≤ 274877906944) (ev : Value) (w : World) (h0 : 0 < w.heap.size) (hG : w.cell? ⟨0, 0, none⟩ = some ev) (hev : ev = .nilIface ∨ ∃ te pe, ev = .iface te pe) :
    Calls Tryz.prog 92 #[.string s] w fun e w' => UEnd (unquoteL s.data.toList) e ∧ Below w.heap.size w w' := by
  have HSZ := Lib.hid (Lib.size_eq s)
  by_cases h2 : s.size < 2
  · have HN : Hid (none = unquoteL s.data.toList) := by have := HSZ.out; show _ = _; unfold unquoteL; rw [if_pos (.inl (by omega))]
    have i2 : (s.size : Int) < 2 := by omega
    have t2 : decide ((s.size : Int) < 2) = true := by simpa using i2
    go_enter Tryz.func92, Tryz.ntmps92
    go_wp2
    go_ret2
    exact ⟨UEnd_none HN.out, Below.refl _ _⟩
  · have i2 : (2 : Int) ≤ s.size := by omega
    have t2 : decide ((s.size : Int) < 2) = false := by simp; omega
    have i3 : (1 : Int) ≤ (s.size : Int) - 1 := by omega
    have g0 := getD_at (s := s) (i := 0) (by omega)
    have g1 := getD_at (s := s) (i := s.size - 1) (by omega)
    have n1 : ∀ b : UInt8, b ≠ 34 ↔ b.toNat ≠ 34 := fun b => ⟨fun h h' => h (UInt8.toNat_inj.1 h'), fun h h' => h (by rw [h']; rfl)⟩
    by_cases q : s[0].toNat = 34 ∧ s[s.size - 1].toNat = 34
    · have t0 : ((s[0].toNat : Int) != 34) = false := by rw [bne_eq_false_iff_eq]; omega
      have t1 : ((s[s.size - 1].toNat : Int) != 34) = false := by rw [bne_eq_false_iff_eq]; omega
      have hU : unquoteL s.data.toList = match unescL ((s.data.toList.drop 1).take (s.size - 1 - 1)) with
          | none => none
          | some t => if quoteL t = s.data.toList then some t else none := by
        unfold unquoteL
        rw [if_neg, ← HSZ.out]
        rw [← HSZ.out, g0, g1, n1, n1]; omega
      have hx : (s.extract 1 (s.size - 1)).data.toList = (s.data.toList.drop 1).take (s.size - 1 - 1) := Lib.extract_data s 1 (s.size - 1)
      have hx2 : (s.extract 1 (s.size - 1)).size ≤ s.size := by rw [ByteArray.size_extract]; omega
      have cU := unescape_any (s.extract 1 (s.size - 1)) (by omega) ev w h0 hG hev
      rw [hx] at cU
      rw [← hx] at hU
      have hl : (s.extract 1 (s.size - 1)).data.toList.length ≤ s.size := by rw [← Lib.size_eq]; exact hx2
      clear g0 g1 n1 q
      rw [← hx] at cU
      cases hu : unescL (s.extract 1 (s.size - 1)).data.toList with
      | none =>
        have CU := Lib.hid (cU.mono (R' := fun e w' => e = .returned (.tuple #[.string ⟨#[]⟩, .bool false]) ∧ Below w.heap.size w w') (fun e w' ⟨h, hb⟩ => ⟨by rw [hu] at h; exact h, hb⟩))
        have HN : Hid (none = unquoteL s.data.toList) := by show _ = _; rw [hU, hu]
        clear cU hu hU hx hx2 hl
        go_enter Tryz.func92, Tryz.ntmps92
        go_wp2_with (go_at_call 101; refine CU.out.mono ?_; rintro e w1 ⟨rfl, hb⟩)
        go_ret2
        exact ⟨UEnd_none HN.out, hb⟩
      | some t =>
        have CU := Lib.hid (cU.mono (R' := fun e w' => e = .returned (.tuple #[.string ⟨t.toArray⟩, .bool true]) ∧ Below w.heap.size w w') (fun e w' ⟨h, hb⟩ => ⟨by rw [hu] at h; exact h, hb⟩))
        have ht : t.length ≤ 4 * s.size := by
          have := unescGo_len _ _ _ _ hu
          omega
        have CQ := Lib.hid (fun W => quote_any ⟨t.toArray⟩ W (by rw [Lib.size_eq]; show t.length ≤ _; omega))
        rw [hu] at hU
        dsimp only at hU
        clear cU hu hx hx2 hl ht
        by_cases hq : quoteL t = s.data.toList
        · rw [if_pos hq] at hU
          have HU := Lib.hid hU.symm
          have tq : (quoteL t == s.toList) = true := by rw [beq_iff_eq, Lib.toList_data]; exact hq
          clear hU hq
          go_enter Tryz.func92, Tryz.ntmps92
          go_wp2_with (go_at_call 101; refine CU.out.mono ?_; rintro e w1 ⟨rfl, hb⟩)
          go_wp2_with (go_at_call 102; refine (CQ.out _).mono ?_; rintro e w2 ⟨rfl, hb2⟩)
          go_ret2
          exact ⟨UEnd_some HU.out, hb.trans (hb2.mono hb.size)⟩
        · rw [if_neg hq] at hU
          have HU := Lib.hid hU.symm
          have tq : (quoteL t == s.toList) = false := by rw [beq_eq_false_iff_ne, Lib.toList_data]; exact hq
          clear hU hq
          go_enter Tryz.func92, Tryz.ntmps92
          go_wp2_with (go_at_call 101; refine CU.out.mono ?_; rintro e w1 ⟨rfl, hb⟩)
          go_wp2_with (go_at_call 102; refine (CQ.out _).mono ?_; rintro e w2 ⟨rfl, hb2⟩)
          go_ret2
          exact ⟨UEnd_none HU.out, hb.trans (hb2.mono hb.size)⟩
    · have HN : Hid (none = unquoteL s.data.toList) := by
        show _ = _
        unfold unquoteL
        rw [if_pos]
        rw [← HSZ.out, g0, g1, n1, n1]; omega
      have t0 : ((s[0].toNat : Int) != 34) = true ∨ (((s[0].toNat : Int) != 34) = false ∧ ((s[s.size - 1].toNat : Int) != 34) = true) := by
        simp only [bne_iff_ne, bne_eq_false_iff_eq]; omega
      clear g0 g1 n1 q
      go_enter Tryz.func92, Tryz.ntmps92
      rcases t0 with t | ⟨t, t'⟩
      all_goals
        go_wp2
        go_ret2
        exact ⟨UEnd_none HN.out, Below.refl _ _⟩
end Go.Proofs.YtphkodkenkiecaaGreatDoor
