/- The document's matchers: which may be. -/
import Derived.Test.YtmidpekkomhogaaMg13
import Derived.Test.YtmidpekkomhogaaDi
import Derived.Test.YtmidpekkomhogaaMg11
namespace Go.Proofs.Ytmidpekkomhogaa.Sto
open Go.RowKit Go.Lib

theorem spell_pos' (l : List UInt8) : ∀ r ∈ spell l, 0 ≤ r := fun r hr => by have := Pat.spell_ok l r hr; unfold Pat.okR at this; omega
/-- A pattern's text is taken just where the plain reader takes it. -/
theorem rcomp_any (s : ByteArray) (w : World) (hs : s.size ≤ 1000000) (hl : (spell s.data.toList).length ≤ 1000) :
    Calls Try.prog 13 #[.string s] w fun e w' => (∃ o : Option Addr, e = .returned (.pointer o) ∧ (o = none ↔ Pat.readP (spell s.data.toList) = none)) ∧ Below w.heap.size w w' := by
  refine (Dpt.compile_d s w hs hl (fun bp => Dpt.class_ok bp _ hl (spell_pos' _))).mono fun e w' q => ⟨?_, q.2⟩
  rw [← Pat.raw_read]; exact q.1
theorem rspelt (s : ByteArray) (w : World) (hs : s.size ≤ 1000000) :
    Calls Try.prog 12 #[.string s] w fun e w' => (∃ o c, e = .returned (.slice o (spell s.data.toList).length c)) ∧ Below w.heap.size w w' :=
  (rspell_any s w (by omega)).mono fun e w' ⟨⟨v, he, h⟩, hb⟩ => ⟨by
    rcases own_open h with ⟨rfl, h0, _⟩ | ⟨g, cap, rfl, _⟩
    · exact ⟨_, _, by rw [he, h0]⟩
    · exact ⟨_, _, he⟩, hb⟩

theorem uc3 {W : World} {b : Nat} {x y z : Value} {t : TypeId} (h : W.heap[b]? = some (.cells #[x, y, z] t (0, 0))) : W.cell? ⟨b, 0, none⟩ = some x ∧ W.cell? ⟨b, 1, none⟩ = some y ∧ W.cell? ⟨b, 2, none⟩ = some z :=
  ⟨by unfold World.cell?; simp only [h]; rfl, by unfold World.cell?; simp only [h]; rfl, by unfold World.cell?; simp only [h]; rfl⟩
set_option maxHeartbeats 4000000 in
set_option maxRecDepth 100000 in
theorem rmatcher_any (nm vl : ByteArray) (op : Int) (w : World) (h1 : nm.size ≤ 1099511627776) (h2 : vl.size ≤ 1000000) :
    Calls Try.prog 5 #[.agg #[.string nm, .int .i64 op, .string vl]] w fun e w' => e = .returned (.bool (matB (nm, op, vl))) ∧ Below w.heap.size w w' := by
  have HB := Lib.hid ((Below.refl w.heap.size w).alloc (Nat.le_refl _) (Obj.cells #[.string nm, .int .i64 op, .string vl] 24))
  have HRD := Lib.hid (fun W (h : Below (w.heap.size + 1) (w.alloc (Obj.cells #[.string nm, .int .i64 op, .string vl] 24)) W) => uc3 (show W.heap[w.heap.size]? = some (.cells #[.string nm, .int .i64 op, .string vl] 24 (0, 0)) from (h.block _ (by omega)).trans Array.getElem?_push_size))
  have CN := Lib.hid (fun W => rname_any nm W (by omega))
  obtain ⟨r, hr⟩ : ∃ r, matB (nm, op, vl) = r := ⟨_, rfl⟩
  rw [hr]
  unfold matB at hr
  dsimp only at hr
  obtain ⟨b, hb⟩ : ∃ b, nameB nm.data.toList = b := ⟨_, rfl⟩
  rw [hb] at CN hr
  clear hb
  cases b with
  | false =>
    obtain rfl : false = r := by rw [← hr]; rfl
    clear hr h1 h2
    go_enter Try.func5, Try.ntmps5
    go_wp2_with fail
    refine (CN.out _).mono ?_
    rintro e w1 ⟨rfl, b1⟩
    have B1 := Lib.hid (HB.out.trans (b1.mono HB.out.size))
    clear b1
    go_wp2
    go_ret
    exact ⟨rfl, B1.out⟩
  | true =>
  rw [Bool.true_and] at hr
  by_cases hlo : op < 1
  · obtain rfl : false = r := by rw [← hr]; simp; omega
    clear hr h1 h2
    go_enter Try.func5, Try.ntmps5
    go_wp2_with fail
    refine (CN.out _).mono ?_
    rintro e w1 ⟨rfl, b1⟩
    have B1 := Lib.hid (HB.out.trans (b1.mono HB.out.size))
    obtain ⟨p0, p1, p2⟩ := HRD.out w1 (b1.mono (by simp))
    clear b1
    go_wp2
    go_ret
    exact ⟨rfl, B1.out⟩
  by_cases hhi : op > 4
  · obtain rfl : false = r := by rw [← hr]; simp; omega
    clear hr h1 h2
    go_enter Try.func5, Try.ntmps5
    go_wp2_with fail
    refine (CN.out _).mono ?_
    rintro e w1 ⟨rfl, b1⟩
    have B1 := Lib.hid (HB.out.trans (b1.mono HB.out.size))
    obtain ⟨p0, p1, p2⟩ := HRD.out w1 (b1.mono (by simp))
    clear b1
    go_wp2
    go_ret
    exact ⟨rfl, B1.out⟩
  by_cases h3 : op < 3
  · obtain rfl : true = r := by rw [← hr]; simp; omega
    clear hr h1 h2
    go_enter Try.func5, Try.ntmps5
    go_wp2_with fail
    refine (CN.out _).mono ?_
    rintro e w1 ⟨rfl, b1⟩
    have B1 := Lib.hid (HB.out.trans (b1.mono HB.out.size))
    obtain ⟨p0, p1, p2⟩ := HRD.out w1 (b1.mono (by simp))
    clear b1
    go_wp2
    go_ret
    exact ⟨rfl, B1.out⟩
  have CSP := Lib.hid (fun W => rspelt vl W h2)
  have hr2 : (patO vl).isSome = r := by
    rw [← hr]
    rcases (show op = 3 ∨ op = 4 by omega) with e | e <;> simp [e]
  unfold patO at hr2
  obtain ⟨k, hk⟩ : ∃ k, (spell vl.data.toList).length = k := ⟨_, rfl⟩
  rw [hk] at CSP hr2
  by_cases h40 : 40 < k
  · rw [if_pos h40] at hr2
    obtain rfl : false = r := hr2
    have i1 : ¬ (k : Int) ≤ 40 := by omega
    clear hr h1 h2 hk
    go_enter Try.func5, Try.ntmps5
    go_wp2_with fail
    refine (CN.out _).mono ?_
    rintro e w1 ⟨rfl, b1⟩
    have B1 := Lib.hid (HB.out.trans (b1.mono HB.out.size))
    obtain ⟨p0, p1, p2⟩ := HRD.out w1 (b1.mono (by simp))
    clear b1
    go_wp2_with fail
    refine (CSP.out _).mono ?_
    rintro e w2 ⟨⟨o, c, rfl⟩, b2⟩
    have B2 := Lib.hid (B1.out.trans (b2.mono B1.out.size))
    clear b2
    go_wp2
    go_ret
    exact ⟨by show Ending.returned (Value.bool (decide (op < 3))) = _; rw [decide_eq_false (by omega : ¬ op < 3)], B2.out⟩
  · rw [if_neg h40] at hr2
    have i1 : (k : Int) ≤ 40 := by omega
    have CC := Lib.hid (fun W => rcomp_any vl W h2 (by rw [hk]; omega))
    have HR2 := Lib.hid hr2
    clear hr h1 h2 hk hr2
    go_enter Try.func5, Try.ntmps5
    go_wp2_with fail
    refine (CN.out _).mono ?_
    rintro e w1 ⟨rfl, b1⟩
    have B1 := Lib.hid (HB.out.trans (b1.mono HB.out.size))
    have HX1 := Lib.hid (show Below (w.heap.size + 1) (w.alloc (Obj.cells #[.string nm, .int .i64 op, .string vl] 24)) w1 from b1.mono (by simp))
    obtain ⟨p0, p1, p2⟩ := HRD.out w1 HX1.out
    clear b1
    go_wp2_with fail
    refine (CSP.out _).mono ?_
    rintro e w2 ⟨⟨o, c, rfl⟩, b2⟩
    have B2 := Lib.hid (B1.out.trans (b2.mono B1.out.size))
    clear p0 p1 p2
    obtain ⟨p0, p1, p2⟩ := HRD.out w2 (HX1.out.trans (b2.mono (by have := HX1.out.size; simp at this; exact this)))
    clear b2
    go_wp2_with fail
    refine (CC.out _).mono ?_
    rintro e w3 ⟨⟨o2, rfl, ho⟩, b3⟩
    have B3 := Lib.hid (B2.out.trans (b3.mono B2.out.size))
    clear b3
    cases o2 with
    | none =>
      have hn := ho.1 rfl
      obtain rfl : false = r := by rw [← HR2.out, hn]; rfl
      clear ho hn
      go_wp2
      go_ret
      exact ⟨by show Ending.returned (Value.bool (decide (op < 3))) = _; rw [decide_eq_false (by omega : ¬ op < 3)], B3.out⟩
    | some ad =>
      obtain rfl : true = r := by
        rw [← HR2.out]
        cases hq : Pat.readP (spell vl.data.toList) with
        | none => exact absurd (ho.2 hq) (by simp)
        | some _ => rfl
      clear ho
      go_wp2
      go_ret
      exact ⟨rfl, B3.out⟩

end Go.Proofs.Ytmidpekkomhogaa.Sto
