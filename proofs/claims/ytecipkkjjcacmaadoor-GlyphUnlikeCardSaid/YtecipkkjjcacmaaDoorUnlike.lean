/- The walk of the statement on unlike quotations. -/
import Derived.Test.YtecipkkjjcacmaaDoorMq
import Derived.Test.YtecipkkjjcacmaaDoorWi
namespace Go.Proofs.YtecipkkjjcacmaaDoor
open Go.RowKit

theorem quote_at (s : ByteArray) (q : List UInt8) (hq : quoteL s.data.toList = q) (w : World) (hs : s.size ≤ 1099511627776) :
    Calls Tryd.prog 9 #[.string s] w fun e w' => e = .returned (.string ⟨q.toArray⟩) ∧ Below w.heap.size w w' :=
  (quote_any s w hs).mono fun e w' ⟨h, hb⟩ => ⟨by rw [h, hq], hb⟩

set_option maxHeartbeats 2000000 in
set_option maxRecDepth 100000 in
theorem unlike_any (s t : ByteArray) (ev : Value) (w : World) (h0 : 0 < w.heap.size) (hG : w.cell? ⟨0, 0, none⟩ = some ev) (hev : ev = .nilIface ∨ ∃ te pe, ev = .iface te pe) (hs : s.size ≤ maxLen) (ht : t.size ≤ maxLen) :
    Calls Tryd.prog 5 #[.string s, .string t] w fun e w' => e = .returned (.bool true) ∧ Below w.heap.size w w' := by
  unfold maxLen at hs ht
  have cA := Lib.hid (fun W (h : 0 < W.heap.size) (h2 : W.cell? ⟨0, 0, none⟩ = some ev) => alive_any ev W h h2 hev)
  clear hev
  by_cases hbig : 800 < s.size ∨ 800 < t.size
  · have i1 : (800 : Int) < s.size ∨ ((s.size : Int) ≤ 800 ∧ (800 : Int) < t.size) := by omega
    clear hbig
    rcases i1 with i1 | ⟨i1, i2⟩
    all_goals
      go_enter Tryd.func5, Tryd.ntmps5
      go_wp2_with (go_at_call 8; refine (cA.out _ h0 hG).mono ?_; rintro e w1 ⟨rfl, b1⟩)
      go_ret
      exact ⟨rfl, b1⟩
  · have i1 : (s.size : Int) ≤ 800 := by omega
    have i2 : (t.size : Int) ≤ 800 := by omega
    obtain ⟨a, ha⟩ : ∃ a, a = quoteL s.data.toList := ⟨_, rfl⟩
    obtain ⟨b, hb⟩ : ∃ b, b = quoteL t.data.toList := ⟨_, rfl⟩
    have C1 := Lib.hid (fun W => quote_at s a ha.symm W (by omega))
    have C2 := Lib.hid (fun W => quote_at t b hb.symm W (by omega))
    have hsame : (a == b) = (s.toList == t.toList) := by
      rw [Bool.eq_iff_iff, beq_iff_eq, beq_iff_eq, ha, hb, quote_inj, Lib.toList_data, Lib.toList_data]
    have hbeg : a.length < b.length → ¬ b.take a.length = a := by rw [ha, hb]; exact quote_begins
    have HS := Lib.hid hsame
    have HB := Lib.hid hbeg
    clear hsame hbeg ha hb hbig
    go_enter Tryd.func5, Tryd.ntmps5
    go_wp2_with fail
    refine (cA.out _ h0 hG).mono ?_
    rintro e w1 ⟨rfl, b1⟩
    go_wp2_with fail
    refine (C1.out _).mono ?_
    rintro e w2 ⟨rfl, b2⟩
    go_wp2_with fail
    refine (C2.out _).mono ?_
    rintro e w3 ⟨rfl, b3⟩
    go_wp2_with fail
    all_goals first
      | (exfalso; have := HS.out; simp_all; done)
      | (go_ret
         have z1 := b1.size
         have z2 := b2.size
         refine ⟨ret_bool ?_, (b1.trans (b2.mono (by omega))).trans (b3.mono (by omega))⟩
         first
           | rfl
           | (have hlt : a.length < b.length := by assumption
              have hb := HB.out hlt
              rw [Bool.not_eq_true', beq_eq_false_iff_ne, Lib.toList_data, Lib.extract_data]
              simpa using hb))
end Go.Proofs.YtecipkkjjcacmaaDoor
