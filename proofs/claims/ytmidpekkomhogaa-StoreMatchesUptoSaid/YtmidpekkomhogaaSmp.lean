/- A matcher and its contrary, plain. -/
import Derived.Test.YtmidpekkomhogaaMg12
namespace Go.Proofs.Ytmidpekkomhogaa.Sto
open Go.RowKit

/-- The contrary of a matcher's op. -/
def notOp (k : Int) : Int := if k = 1 then 2 else if k = 2 then 1 else if k = 3 then 4 else 3
theorem not_cases {a c : ByteArray} {b : Int} (h : matB (a, b, c) = true) : (b = 1 ∧ notOp b = 2) ∨ (b = 2 ∧ notOp b = 1) ∨ (b = 3 ∧ notOp b = 4) ∨ (b = 4 ∧ notOp b = 3) := by
  have hb : b = 1 ∨ b = 2 ∨ b = 3 ∨ b = 4 := by
    unfold matB at h
    simp only [Bool.and_eq_true, Bool.or_eq_true, beq_iff_eq] at h
    omega
  rcases hb with rfl | rfl | rfl | rfl <;> simp [notOp]
theorem pat_some {a c : ByteArray} {b : Int} (h : matB (a, b, c) = true) (hb : b = 3 ∨ b = 4) : (patO c).isSome = true := by
  unfold matB at h
  simp only [Bool.and_eq_true, Bool.or_eq_true, beq_iff_eq] at h
  rcases h.2 with (h1 | h1) | h1
  · omega
  · omega
  · exact h1.2
theorem mat_not {a c : ByteArray} {b : Int} (h : matB (a, b, c) = true) : matB (a, notOp b, c) = true := by
  have h0 : nameB a.data.toList = true := by
    unfold matB at h
    rw [Bool.and_eq_true] at h
    exact h.1
  rcases not_cases h with ⟨rfl, e⟩ | ⟨rfl, e⟩ | ⟨rfl, e⟩ | ⟨rfl, e⟩
  · rw [e]; unfold matB; simp [h0]
  · rw [e]; unfold matB; simp [h0]
  · rw [e]; have := pat_some h (.inl rfl); unfold matB; simp [h0, this]
  · rw [e]; have := pat_some h (.inr rfl); unfold matB; simp [h0, this]
theorem says_not {a c : ByteArray} {b : Int} (h : matB (a, b, c) = true) (v : ByteArray) : saysB (a, notOp b, c) v = !saysB (a, b, c) v := by
  rcases not_cases h with ⟨rfl, e⟩ | ⟨rfl, e⟩ | ⟨rfl, e⟩ | ⟨rfl, e⟩
  · rw [e]; unfold saysB; simp
  · rw [e]; unfold saysB; simp
  · rw [e]
    obtain ⟨x, hx⟩ := Option.isSome_iff_exists.1 (pat_some h (.inl rfl))
    unfold saysB; simp [hx]
  · rw [e]
    obtain ⟨x, hx⟩ := Option.isSome_iff_exists.1 (pat_some h (.inr rfl))
    unfold saysB; simp [hx]
theorem true_one (m : Mat) (l : Labs) : trueB [m] l = saysB m (getL m.1 l) := by unfold trueB; simp
theorem true_two (m o : Mat) (l : Labs) : trueB [m, o] l = (saysB m (getL m.1 l) && saysB o (getL o.1 l)) := by unfold trueB; simp
theorem sel_sum {a c : ByteArray} {b : Int} (h : matB (a, b, c) = true) (xs : List Srs) : (selC xs [(a, b, c)]).length + (selC xs [(a, notOp b, c)]).length = xs.length := by
  have e1 : selC xs [(a, b, c)] = xs.filter fun x => saysB (a, b, c) (getL a x.1) := by unfold selC; congr 1; funext x; exact true_one _ _
  have e2 : selC xs [(a, notOp b, c)] = xs.filter fun x => !saysB (a, b, c) (getL a x.1) := by unfold selC; congr 1; funext x; rw [true_one]; exact says_not h _
  rw [e1, e2]
  induction xs with
  | nil => rfl
  | cons x s ih =>
    have ih := ih (by unfold selC; congr 1; funext x; exact true_one _ _) (by unfold selC; congr 1; funext x; rw [true_one]; exact says_not h _)
    rw [List.filter_cons, List.filter_cons, List.length_cons]
    cases saysB (a, b, c) (getL a x.1) <;> simp <;> omega
theorem sel_two_le (m o : Mat) (xs : List Srs) : (selC xs [m, o]).length ≤ (selC xs [m]).length := by
  have e : selC xs [m, o] = (selC xs [m]).filter fun x => saysB o (getL o.1 x.1) := by
    unfold selC
    rw [List.filter_filter]
    congr 1; funext x
    rw [true_two, true_one, Bool.and_comm]
  rw [e]
  exact List.length_filter_le _ _
theorem sel_none {a c : ByteArray} {b : Int} (h : matB (a, b, c) = true) (xs : List Srs) : selC xs [(a, b, c), (a, notOp b, c)] = [] := by
  unfold selC
  rw [List.filter_eq_nil_iff]
  intro x _
  rw [true_two, says_not h]
  simp
theorem mats_one {m : Mat} (h : matB m = true) : matsB [m] = true := by unfold matsB; simp [h]
theorem mats_two {m o : Mat} (h : matB m = true) (h2 : matB o = true) : matsB [m, o] = true := by unfold matsB; simp [h, h2]
theorem two_sees (w : World) (a c a2 c2 : ByteArray) (b b2 : Int) : SeesM (w.alloc (Obj.cells #[.string a, .int .i64 b, .string c, .string a2, .int .i64 b2, .string c2] 24)) (some ⟨w.heap.size, 0, none⟩) [(a, b, c), (a2, b2, c2)] := by
  refine .inr ⟨_, 0, rfl, by simp, fun j m hm => ?_⟩
  match j, hm with
  | 0, hm => simp at hm; subst hm; simp
  | 1, hm => simp at hm; subst hm; simp
  | j + 2, hm => simp at hm
theorem one_sees (w : World) (a c : ByteArray) (b : Int) : SeesM (w.alloc (Obj.cells #[.string a, .int .i64 b, .string c] 24)) (some ⟨w.heap.size, 0, none⟩) [(a, b, c)] := by
  refine .inr ⟨_, 0, rfl, by simp, fun j m hm => ?_⟩
  match j, hm with
  | 0, hm => simp at hm; subst hm; simp
  | j + 1, hm => simp at hm
/-- A selection by matchers that may be, at a store whose blocks are from B on. -/
theorem sel_gen (B p : Nat) (xs ys : List Srs) (n nm : Nat) (ms : List Mat) (o : Obj) (w : World) (h : Own B w p xs) (hf : Fine xs) (hnm : ms.length = nm) (hn2 : nm ≤ 2) (hok : ∀ m ∈ ms, m.Ok) (hm : matsB ms = true) (he : selC xs ms = ys) (hn : ys.length = n) (hs : SeesM (w.alloc o) (some ⟨w.heap.size, 0, none⟩) ms) :
    Calls Try.prog 8 #[.pointer (some ⟨p, 0, none⟩), .slice (some ⟨w.heap.size, 0, none⟩) nm nm] (w.alloc o) fun e w' =>
      (∃ o c2, e = .returned (.tuple #[.slice o n c2, .int .i64 0])) ∧ Below w.heap.size w w' := by
  have hb : Below w.heap.size w (w.alloc o) := (Below.refl _ _).alloc (Nat.le_refl _) _
  refine (select_any _ p nm nm (some ⟨w.heap.size, 0, none⟩) xs ms _ (St.below h hb) hf hnm (by omega) hok hs).mono fun e w' q => ?_
  obtain ⟨h1 | ⟨_, v, us, e1, hA⟩, b2⟩ := q
  · rw [hm] at h1; cases h1.1
  · obtain ⟨o, c2, rfl, hs, _⟩ := hA.sees
    rw [he, hn] at e1
    exact ⟨⟨o, c2, e1⟩, hb.trans (b2.mono hb.size)⟩
theorem decode_four (s : ByteArray) (i : Nat) : (Utf8.decode s i).2 ≤ 4 := by
  unfold Utf8.decode
  dsimp only
  repeat' split
  all_goals simp
theorem spell_size (s : ByteArray) : ∀ (n pos : Nat), s.size - pos ≤ n → s.size - pos ≤ 4 * (spell (s.data.toList.drop pos)).length
  | 0, pos, h => by omega
  | n + 1, pos, h => by
    by_cases hp : pos < s.size
    · have h1 := width1 s pos
      have h4 := decode_four s pos
      have ih := spell_size s n (pos + (Utf8.decode s pos).2) (by omega)
      rw [spell_at hp, List.length_cons]
      omega
    · omega
theorem nameGo_len : ∀ (l : List Int) (n : Nat), nameGo n l = true → n ≤ 30 → l.length ≤ 30 - n
  | [], _, _, _ => by simp
  | r :: rs, n, h, hn => by
    unfold nameGo at h
    split at h
    · cases h
    · next h2 =>
      have h30 : n ≠ 30 := fun e => h2 (.inl e)
      have := nameGo_len rs (n + 1) h (by omega)
      rw [List.length_cons]; omega
theorem name_size {s : ByteArray} (h : nameB s.data.toList = true) : s.size ≤ 120 := by
  have h1 := nameGo_len _ 0 h (by decide)
  have h2 := spell_size s s.size 0 (by omega)
  rw [List.drop_zero] at h2
  omega
theorem mat_name {a c : ByteArray} {b : Int} (h : matB (a, b, c) = true) : a.size ≤ 120 := by
  unfold matB at h
  rw [Bool.and_eq_true] at h
  exact name_size h.1
end Go.Proofs.Ytmidpekkomhogaa.Sto
