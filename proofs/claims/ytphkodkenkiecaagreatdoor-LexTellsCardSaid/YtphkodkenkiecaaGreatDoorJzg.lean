/- The walk of the statement on words: against the document's answer. -/
import Derived.Test.YtphkodkenkiecaaGreatDoorJzf
import Derived.Test.YtphkodkenkiecaaGreatDoorTnk
namespace Go.Proofs.YtphkodkenkiecaaGreatDoor
open Go.RowKit

def elW (w : Wd) : BkT.El := ((w.1 : Nat), (w.2.1 : Nat), ⟨w.2.2.toArray⟩)
theorem flat_tok (ws : List Wd) : flatT ws = BkT.flatE (ws.map elW) := by
  unfold flatT BkT.flatE
  rw [List.flatMap_map]; rfl
def wordsX (l : List UInt8) : Int × List BkT.El := if 600 < l.length then (1, []) else match lexL l with
  | none => (2, [])
  | some ws => (0, ws.map elW)
theorem words_x {B : Nat} {l : List UInt8} {e : Ending} {w' : World} (h : WordsEnd B l e w') : ∃ v, e = .returned (.tuple #[v, .int .i64 (wordsX l).1]) ∧ w'.ownsRow B 45 3 v (wordsX l).2.length (BkT.flatE (wordsX l).2) := by
  unfold WordsEnd at h
  unfold wordsX
  by_cases hb : 600 < l.length
  · rw [if_pos hb] at h ⊢
    exact ⟨_, h, World.ownsRow_nil _ _ _ _⟩
  · rw [if_neg hb] at h ⊢
    cases hl : lexL l with
    | none => rw [hl] at h; exact ⟨_, h, World.ownsRow_nil _ _ _ _⟩
    | some ws =>
      rw [hl] at h
      obtain ⟨v, he, ho⟩ := h
      refine ⟨v, he, ?_⟩
      show w'.ownsRow B _ 3 v (ws.map elW).length (BkT.flatE (ws.map elW))
      rw [List.length_map, ← flat_tok]; exact ho
theorem lex_few (l : List UInt8) : ∀ (a : Nat) (ws : List Wd), lexAt a l = some ws → ws.length ≤ l.length := by
  induction l using lex_induct with
  | h0 => intro a ws h; obtain rfl : [] = ws := Option.some.inj h; simp
  | h1 l hne ih =>
    intro a ws h
    have hl : 0 < l.length := List.length_pos_iff.2 hne
    by_cases h3 : kindZ (rune l) = 3
    · rw [lexAt_blank a hne h3] at h
      have := ih _ (by rw [List.length_drop]; omega) _ _ h
      rw [List.length_drop] at this; omega
    · cases hf : firstL l with
      | none => rw [lexAt_none a hne h3 hf] at h; cases h
      | some t =>
        have hb1 := first_len hne hf
        rw [lexAt_tok a hne h3 hf] at h
        cases hx : lexAt (a + t.2.2) (l.drop t.2.2) with
        | none => rw [hx] at h; cases h
        | some vs =>
          rw [hx] at h
          obtain rfl := Option.some.inj h
          have := ih _ (by rw [List.length_drop]; omega) _ _ hx
          rw [List.length_drop] at this
          rw [List.length_cons]; omega
theorem words_few (l : List UInt8) : (wordsX l).2.length ≤ 600 := by
  unfold wordsX
  split
  · simp
  · split
    · simp
    · rename_i ws hl
      have := lex_few l 0 ws hl
      show (ws.map elW).length ≤ _
      rw [List.length_map]; omega
theorem own_dr {w : World} {B e sz n : Nat} {v : Value} {xs : List Value} (h : w.ownsRow B e sz v n xs) (m : Nat) : (w.drewN m).ownsRow B e sz v n xs := own_below h ⟨rfl, rfl, rfl, Nat.le_refl _, fun _ _ => rfl⟩

set_option maxHeartbeats 8000000 in
set_option maxRecDepth 100000 in
theorem lextells_any (s g : ByteArray) (w : World) (h : Env w) (hs : s.size ≤ maxLen) (hg : g.size ≤ maxLen) :
    Calls Tryz.prog 3 #[.string s, .string g] w fun e w' => e = .returned (.bool true) ∧ Below w.heap.size w w' := by
  unfold maxLen at hs hg
  have HE := Lib.hid h
  have cA := Lib.hid (fun W (hb : Below w.heap.size w W) => alive_any W (h.below hb))
  by_cases hbig : 1000 < s.size ∨ 100 < g.size
  · have i1 : (1000 : Int) < s.size ∨ ((s.size : Int) ≤ 1000 ∧ (100 : Int) < g.size) := by omega
    clear hbig h
    rcases i1 with i1 | ⟨i1, i2⟩
    all_goals
      go_enter Tryz.func3, Tryz.ntmps3
      go_wp2_with (go_at_call 4; refine (cA.out _ (Below.refl _ _)).mono ?_; rintro e w1 ⟨rfl, b1⟩)
      go_ret
      exact ⟨rfl, b1⟩
  · have i1 : (s.size : Int) ≤ 1000 := by omega
    have i2 : (g.size : Int) ≤ 100 := by omega
    have C1 := Lib.hid (fun W (hb : Below w.heap.size w W) => (words_any s W (HE.out.below hb) (by unfold maxLen; omega)).mono (R' := fun e w' => (∃ v, e = .returned (.tuple #[v, .int .i64 (wordsX s.data.toList).1]) ∧ w'.ownsRow (W.heap.size + 1) 45 3 v (wordsX s.data.toList).2.length (BkT.flatE (wordsX s.data.toList).2)) ∧ Below W.heap.size W w') (fun e w' ⟨h1, h2⟩ => ⟨words_x h1, h2⟩))
    have C2 := Lib.hid (fun W => (dwords_any s W (by omega)).mono (R' := fun e w' => (∃ v, e = .returned (.tuple #[v, .int .i64 (wordsX s.data.toList).1]) ∧ w'.ownsRow W.heap.size 45 3 v (wordsX s.data.toList).2.length (BkT.flatE (wordsX s.data.toList).2)) ∧ Below W.heap.size W w') (fun e w' ⟨h1, h2⟩ => ⟨words_x h1, h2⟩))
    have hfew := words_few s.data.toList
    have S1 := Lib.hid (fun W => sign_is g W)
    have S2 := Lib.hid (fun W => dsign_is g W)
    generalize (wordsX s.data.toList).1 = x at *
    generalize (wordsX s.data.toList).2 = xs at *
    generalize signB g.data.toList = sb at *
    have HFew := Lib.hid hfew
    clear hbig h hs hg hfew
    go_enter Tryz.func3, Tryz.ntmps3
    go_wp2_with fail
    refine (cA.out _ (Below.refl _ _)).mono ?_
    rintro e w1 ⟨rfl, b1⟩
    have B1 := Lib.hid b1
    clear b1
    go_wp2_with fail
    obtain ⟨W0, hW0⟩ : ∃ W0, w1.alloc (Obj.cells #[.slice none 0 0, .slice none 0 0, .slice none 0 0, .slice none 0 0, .slice none 0 0, .slice none 0 0, .slice none 0 0, .slice none 0 0, .slice none 0 0, .slice none 0 0, .slice none 0 0, .slice none 0 0, .slice none 0 0, .slice none 0 0, .slice none 0 0, .slice none 0 0, .slice none 0 0, .slice none 0 0, .slice none 0 0, .slice none 0 0] 35) = W0 := ⟨_, rfl⟩
    rw [hW0]
    have HK0 := Lib.hid (show Tok.Bk w1.heap.size W0 0 by rw [← hW0]; exact Tok.bk_start w1)
    have HW0 := Lib.hid (show Below w1.heap.size w1 W0 by rw [← hW0]; exact (Below.refl _ _).alloc (Nat.le_refl _) _)
    obtain ⟨B, hB⟩ : ∃ B, w1.heap.size = B := ⟨_, rfl⟩
    have HBB := Lib.hid hB
    rw [hB] at HK0 HW0 ⊢
    have hBw : w.heap.size ≤ B := by have := B1.out.size; omega
    have h0 : B ≤ W0.heap.size := by have := HW0.out.size; omega
    clear hW0 hB
    refine (C1.out _ (B1.out.trans (HW0.out.mono hBw))).mono ?_
    rintro e w2 ⟨⟨va, rfl, ha⟩, b2⟩
    have h2 : W0.heap.size ≤ w2.heap.size := b2.size
    have HA := Lib.hid ha
    have HB2 := Lib.hid b2
    clear ha b2
    go_wp2_with fail
    refine (C1.out _ ((B1.out.trans (HW0.out.mono hBw)).trans (HB2.out.mono (by omega)))).mono ?_
    rintro e w3 ⟨⟨vb, rfl, hb⟩, b3⟩
    have h3 : w2.heap.size ≤ w3.heap.size := b3.size
    have HA3 := Lib.hid (own_below HA.out b3)
    have HBv := Lib.hid hb
    have HB3 := Lib.hid (HB2.out.trans (b3.mono h2))
    have HK3 := Lib.hid (HK0.out.before (Nat.le_refl _) HB3.out)
    have HAb := Lib.hid (fun b e => (HA.out.lt b e).2)
    have HBb := Lib.hid (fun b e => (hb.lt b e))
    clear hb b3
    go_wp2_with fail
    refine (Tok.book_keep rfl HK3.out (by omega) (by omega) (BkT.own_mono HA3.out (by omega)) (by have := HFew.out; omega) (by omega) (s2 := w2.heap.size) (by omega) HAb.out).mono ?_
    rintro e w4 ⟨rfl, hk4, b4, f4⟩
    have h4 : w3.heap.size ≤ w4.heap.size := b4.size
    have HK4 := Lib.hid hk4
    have HA4 := Lib.hid (f4 _ _ _ (BkT.own_mono HA3.out (by omega)))
    have HV4 := Lib.hid (f4 _ _ _ (BkT.own_mono HBv.out (by omega)))
    have HB4 := Lib.hid b4
    clear hk4 b4 f4
    go_wp2_with fail
    refine (Tok.book_keep rfl HK4.out (by omega) (by omega) (Tok.own_raise HV4.out (fun b e => by have := (HBb.out b e).1; omega)) (by have := HFew.out; omega) (by omega) (s2 := w3.heap.size) (by omega) (fun b e => (HBb.out b e).2)).mono ?_
    rintro e w5 ⟨rfl, hk5, b5, f5⟩
    have h5 : w4.heap.size ≤ w5.heap.size := b5.size
    have HK5 := Lib.hid hk5
    have HA5 := Lib.hid (f5 _ _ _ HA4.out)
    have HB5 := Lib.hid (HB4.out.trans b5)
    clear hk5 b5 f5
    go_wp2_with fail
    refine (C2.out _).mono ?_
    rintro e w6 ⟨⟨vw, rfl, hw⟩, b6⟩
    have h6 : w5.heap.size ≤ w6.heap.size := b6.size
    have HA6 := Lib.hid (own_below HA5.out b6)
    have HK6 := Lib.hid ((HK5.out.to (by omega)).below b6)
    have HV6 := Lib.hid hw
    have HB6 := Lib.hid (HB5.out.trans (b6.mono (by omega)))
    clear hw b6
    go_wp2_with fail
    refine (BkT.sameRunes_any va vw _ _ xs (by have := HFew.out; omega) _ HA6.out HV6.out).mono ?_
    rintro e w7 ⟨rfl, m7, rfl⟩
    go_wp2_with fail
    refine (S1.out _).mono ?_
    rintro e w8 ⟨rfl, rfl⟩
    go_wp2_with fail
    refine (S2.out _).mono ?_
    rintro e w8 ⟨rfl, rfl⟩
    go_wp2_with fail
    have b7 : Below w6.heap.size w6 (w6.drewN m7) := ⟨rfl, rfl, rfl, Nat.le_refl _, fun _ _ => rfl⟩
    have HB7 := Lib.hid (HW0.out.trans (((HB3.out.mono h0).trans (HB6.out.trans (b7.mono (by omega))))))
    refine (Tok.book_apart (HK6.out.below b7) HB7.out (by have := HBB.out; omega)).mono ?_
    rintro e w9 ⟨rfl, b9⟩
    go_wp2
    go_ret
    exact ⟨rfl, B1.out.trans (b9.mono hBw)⟩
end Go.Proofs.YtphkodkenkiecaaGreatDoor
