/- The walk of the statement on quotations. -/
import Derived.Test.YtecipkkjjcacmaaDoorMr
import Derived.Test.YtecipkkjjcacmaaDoorUnlike
namespace Go.Proofs.YtecipkkjjcacmaaDoor
open Go.RowKit

theorem rquote_at (s : ByteArray) (q : List UInt8) (hq : quoteL s.data.toList = q) (w : World) (hs : s.size ≤ 1099511627776) :
    Calls Tryd.prog 12 #[.string s] w fun e w' => e = .returned (.string ⟨q.toArray⟩) ∧ Below w.heap.size w w' :=
  (rquote_any s w hs).mono fun e w' ⟨h, hb⟩ => ⟨by rw [h, hq], hb⟩
def uVal (o : Option (List UInt8)) : Value := match o with
  | some t => .tuple #[.string ⟨t.toArray⟩, .bool true]
  | none => .tuple #[.string ⟨#[]⟩, .bool false]
theorem UEnd_val {o : Option (List UInt8)} {e : Ending} (h : UEnd o e) : e = .returned (uVal o) := by cases o <;> exact h

set_option maxHeartbeats 4000000 in
set_option maxRecDepth 100000 in
theorem quotes_any (s q : ByteArray) (ev : Value) (w : World) (h0 : 0 < w.heap.size) (hG : w.cell? ⟨0, 0, none⟩ = some ev) (hev : ev = .nilIface ∨ ∃ te pe, ev = .iface te pe) (hs : s.size ≤ maxLen) (hq : q.size ≤ maxLen) :
    Calls Tryd.prog 3 #[.string s, .string q] w fun e w' => e = .returned (.bool true) ∧ Below w.heap.size w w' := by
  unfold maxLen at hs hq
  have cA := Lib.hid (fun W (h : 0 < W.heap.size) (h2 : W.cell? ⟨0, 0, none⟩ = some ev) => alive_any ev W h h2 hev)
  by_cases hbig : 1500 < s.size ∨ 1500 < q.size
  · have i1 : (1500 : Int) < s.size ∨ ((s.size : Int) ≤ 1500 ∧ (1500 : Int) < q.size) := by omega
    clear hbig hev
    rcases i1 with i1 | ⟨i1, i2⟩
    all_goals
      go_enter Tryd.func3, Tryd.ntmps3
      go_wp2_with (go_at_call 8; refine (cA.out _ h0 hG).mono ?_; rintro e w1 ⟨rfl, b1⟩)
      go_ret
      exact ⟨rfl, b1⟩
  · have i1 : (s.size : Int) ≤ 1500 := by omega
    have i2 : (q.size : Int) ≤ 1500 := by omega
    obtain ⟨a, ha⟩ : ∃ a, a = quoteL s.data.toList := ⟨_, rfl⟩
    have hal : a.length ≤ 10000 := by
      have h1 : ∀ l : List UInt8, (bodyQ l).length ≤ 5 * l.length := by
        intro l
        induction l using sufs_induct with
        | h0 => simp [bodyQ, sufs_nil]
        | h1 l hne ih =>
          have hw := Lib.decodeL_width l
          have hl : 0 < l.length := List.length_pos_iff.2 hne
          have hc := chunkQ_len l
          rw [bodyQ_step l hne, List.length_append]
          rw [List.length_drop] at ih; omega
      have := h1 s.data.toList
      rw [ha]; unfold quoteL
      rw [← Lib.size_eq] at this
      simp; omega
    have C1 := Lib.hid (fun W => quote_at s a ha.symm W (by omega))
    have hua : unquoteL (⟨a.toArray⟩ : ByteArray).data.toList = some s.data.toList := by show unquoteL a = _; rw [ha]; exact unquoteL_quote _
    have C2 := Lib.hid (fun W (h : 0 < W.heap.size) (h2 : W.cell? ⟨0, 0, none⟩ = some ev) => (unquote_any ⟨a.toArray⟩ (by rw [Lib.size_eq]; show a.length ≤ _; omega) ev W h h2 hev).mono (R' := fun e w' => e = .returned (.tuple #[.string ⟨s.data.toList.toArray⟩, .bool true]) ∧ Below W.heap.size W w') (fun e w' ⟨h, hb⟩ => ⟨by rw [hua] at h; exact h, hb⟩))
    obtain ⟨o, ho⟩ : ∃ o, o = unquoteL q.data.toList := ⟨_, rfl⟩
    have C3 := Lib.hid (fun W (h : 0 < W.heap.size) (h2 : W.cell? ⟨0, 0, none⟩ = some ev) => (unquote_any q (by omega) ev W h h2 hev).mono (R' := fun e w' => e = .returned (uVal o) ∧ Below W.heap.size W w') (fun e w' ⟨h, hb⟩ => ⟨by rw [ho]; exact UEnd_val h, hb⟩))
    have C4 := Lib.hid (fun W => (runquote_any q (by omega) W).mono (R' := fun e w' => e = .returned (uVal o) ∧ Below W.heap.size W w') (fun e w' ⟨h, hb⟩ => ⟨by rw [ho, unquote_same]; exact UEnd_val h, hb⟩))
    have C5 := Lib.hid (fun W => rquote_at s a ha.symm W (by omega))
    clear ha hbig ho hev hua hal
    cases o
    all_goals
      simp only [uVal] at C3 C4
      go_enter Tryd.func3, Tryd.ntmps3
      go_wp2_with fail
      refine (cA.out _ h0 hG).mono ?_
      rintro e w1 ⟨rfl, b1⟩
      have z1 := b1.size
      go_wp2_with fail
      refine (C1.out _).mono ?_
      rintro e w2 ⟨rfl, b2⟩
      have z2 := b2.size
      have hB2 := b1.trans (b2.mono z1)
      have hG2 : w2.cell? ⟨0, 0, none⟩ = some ev := by rw [hB2.cell (p := ⟨0, 0, none⟩) h0]; exact hG
      go_wp2_with fail
      refine (C2.out _ (by omega) hG2).mono ?_
      rintro e w3 ⟨rfl, b3⟩
      have z3 := b3.size
      have hB3 := hB2.trans (b3.mono (by omega))
      have hG3 : w3.cell? ⟨0, 0, none⟩ = some ev := by rw [hB3.cell (p := ⟨0, 0, none⟩) h0]; exact hG
      go_wp2_with fail
      refine (C3.out _ (by omega) hG3).mono ?_
      rintro e w4 ⟨rfl, b4⟩
      have z4 := b4.size
      go_wp2_with fail
      refine (C4.out _).mono ?_
      rintro e w5 ⟨rfl, b5⟩
      have z5 := b5.size
      go_wp2_with fail
      refine (C5.out _).mono ?_
      rintro e w6 ⟨rfl, b6⟩
      go_wp2_with fail
      go_ret
      exact ⟨rfl, ((hB3.trans (b4.mono (by omega))).trans (b5.mono (by omega))).trans (b6.mono (by omega))⟩
end Go.Proofs.YtecipkkjjcacmaaDoor
