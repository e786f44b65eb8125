/- Plain: where two sorted parts are cut to be merged in place; blocks that are sorted, and merged. -/
import Derived.Test.YtbdnonphkobkoaaGreatSta0
namespace Go.Proofs.YtbdnonphkobkoaaGreat.Stb
open Go.Sort

section
variable {α : Type} [Inhabited α] {lt : α → α → Bool}

omit [Inhabited α] in
theorem cut_at {l : List α} {i : Nat} (h : i < l.length) : ∃ A x B, l = A ++ x :: B ∧ A.length = i :=
  ⟨l.take i, l[i], l.drop (i + 1), by rw [List.getElem_cons_drop, List.take_append_drop], by rw [List.length_take]; omega⟩

omit [Inhabited α] in
theorem srt_low {A B : List α} {x : α} (h : Srt lt (A ++ x :: B)) : (∀ z ∈ A, lt x z = false) ∧ (∀ z ∈ B, lt z x = false) := by
  have h1 := List.pairwise_append.mp h
  exact ⟨fun z hz => h1.2.2 z hz x List.mem_cons_self, fun z hz => (List.pairwise_cons.mp h1.2.1).1 z hz⟩

/-- Two sorted parts, and where the search for the cut has ended. -/
theorem sym_parts (hS : SWO lt) {l P L R S : List α} {a m b mid n start s0 r0 : Nat} (hl : l = P ++ (L ++ (R ++ S))) (hL : Srt lt L) (hR : Srt lt R) (ha : a = P.length) (hm : m = a + L.length) (hb : b = m + R.length)
    (hmid : mid = (a + b) / 2) (hn : n = mid + m) (h0 : (mid < m ∧ s0 = n - b ∧ r0 = mid) ∨ (m ≤ mid ∧ s0 = a ∧ r0 = m)) (h1 : s0 ≤ start) (h2 : start ≤ r0)
    (f1 : start = s0 ∨ lt l.toArray[n - start]! l.toArray[start - 1]! = false) (f2 : start = r0 ∨ lt l.toArray[n - 1 - start]! l.toArray[start]! = true) :
    ∃ L1 L2 R1 R2, L = L1 ++ L2 ∧ R = R1 ++ R2 ∧ a + L1.length = start ∧ m + R1.length = n - start ∧ (∀ x ∈ L1, ∀ y ∈ R2, lt y x = false) ∧ (∀ y ∈ R1, ∀ x ∈ L2, lt y x = true) := by
  have g1 : a ≤ start := by omega
  have g2 : start ≤ m := by omega
  have g3 : start ≤ mid := by omega
  have g4 : n - start ≤ b := by omega
  refine ⟨L.take (start - a), L.drop (start - a), R.take (n - start - m), R.drop (n - start - m), (List.take_append_drop _ _).symm, (List.take_append_drop _ _).symm, by rw [List.length_take]; omega, by rw [List.length_take]; omega, ?_, ?_⟩
  · intro x hx y hy
    by_cases hb2 : n - start = b
    · rw [List.drop_of_length_le (by omega)] at hy; simp at hy
    by_cases ha2 : start = a
    · rw [show start - a = 0 by omega] at hx; simp at hx
    have f1' := f1.resolve_left (by omega)
    obtain ⟨A, p, B, rfl, hA⟩ := cut_at (l := L) (i := start - 1 - a) (by omega)
    obtain ⟨C, q, D, rfl, hC⟩ := cut_at (l := R) (i := n - start - m) (by omega)
    rw [bang_mid' (P := P ++ ((A ++ p :: B) ++ C)) (x := q) (S := D ++ S) (by rw [hl]; simp) (by simp only [List.length_append] at hm ⊢; omega),
      bang_mid' (P := P ++ A) (x := p) (S := B ++ (C ++ q :: D ++ S)) (by rw [hl]; simp) (by simp only [List.length_append]; omega)] at f1'
    rw [show start - a = (A ++ [p]).length by simp; omega, show A ++ p :: B = (A ++ [p]) ++ B by simp, List.take_left] at hx
    rw [← hC, List.drop_left] at hy
    have e1 := srt_low hL
    have e2 := srt_low hR
    have hx' : lt p x = false := by
      rcases List.mem_append.mp hx with hx | hx
      · exact e1.1 x hx
      · simp at hx; subst hx; exact hS.irrefl _
    have hy' : lt y q = false := by
      rcases List.mem_cons.mp hy with rfl | hy
      · exact hS.irrefl _
      · exact e2.2 y hy
    exact hS.ntrans _ _ _ (hS.ntrans _ _ _ hy' f1') hx'
  · intro y hy x hx
    by_cases hb2 : n - start = m
    · rw [show n - start - m = 0 by omega] at hy; simp at hy
    by_cases ha2 : start = m
    · rw [List.drop_of_length_le (by omega)] at hx; simp at hx
    have f2' := f2.resolve_left (by omega)
    obtain ⟨A, p, B, rfl, hA⟩ := cut_at (l := L) (i := start - a) (by omega)
    obtain ⟨C, q, D, rfl, hC⟩ := cut_at (l := R) (i := n - 1 - start - m) (by omega)
    rw [bang_mid' (P := P ++ ((A ++ p :: B) ++ C)) (x := q) (S := D ++ S) (by rw [hl]; simp) (by simp only [List.length_append] at hm ⊢; omega),
      bang_mid' (P := P ++ A) (x := p) (S := B ++ (C ++ q :: D ++ S)) (by rw [hl]; simp) (by simp only [List.length_append]; omega)] at f2'
    rw [show n - start - m = (C ++ [q]).length by simp; omega, show C ++ q :: D = (C ++ [q]) ++ D by simp, List.take_left] at hy
    rw [← hA, List.drop_left] at hx
    have e1 := srt_low hL
    have e2 := srt_low hR
    have hy' : lt q y = false := by
      rcases List.mem_append.mp hy with hy | hy
      · exact e2.1 y hy
      · simp at hy; subst hy; exact hS.irrefl _
    have hx' : lt x p = false := by
      rcases List.mem_cons.mp hx with rfl | hx
      · exact hS.irrefl _
      · exact e1.2 x hx
    cases hc : lt y x with
    | true => rfl
    | false => have := hS.ntrans _ _ _ (hS.ntrans _ _ _ hy' hc) hx'; rw [f2'] at this; exact absurd this (by simp)

/-- One on the left: where the search in the right part has ended. -/
theorem one_parts (hS : SWO lt) {l P R S : List α} {x : α} {m b i : Nat} (hl : l = P ++ (R ++ S)) (hR : Srt lt R) (hm : m = P.length) (hb : b = m + R.length) (h1 : m ≤ i) (h2 : i ≤ b)
    (f1 : i = m ∨ lt l.toArray[i - 1]! x = true) (f2 : i = b ∨ lt l.toArray[i]! x = false) : ∃ R1 R2, R = R1 ++ R2 ∧ m + R1.length = i ∧ (∀ y ∈ R1, lt y x = true) ∧ (∀ y ∈ R2, lt y x = false) := by
  refine ⟨R.take (i - m), R.drop (i - m), (List.take_append_drop _ _).symm, by rw [List.length_take]; omega, ?_, ?_⟩
  · intro y hy
    by_cases hi : i = m
    · rw [show i - m = 0 by omega] at hy; simp at hy
    have f1' := f1.resolve_left hi
    obtain ⟨C, q, D, rfl, hC⟩ := cut_at (l := R) (i := i - 1 - m) (by omega)
    rw [bang_mid' (P := P ++ C) (x := q) (S := D ++ S) (by rw [hl]; simp) (by simp only [List.length_append]; omega)] at f1'
    rw [show i - m = (C ++ [q]).length by simp; omega, show C ++ q :: D = (C ++ [q]) ++ D by simp, List.take_left] at hy
    have hy' : lt q y = false := by
      rcases List.mem_append.mp hy with hy | hy
      · exact (srt_low hR).1 y hy
      · simp at hy; subst hy; exact hS.irrefl _
    cases hc : lt y x with
    | true => rfl
    | false => have := hS.ntrans _ _ _ hy' hc; rw [f1'] at this; exact absurd this (by simp)
  · intro y hy
    by_cases hi : i = b
    · rw [List.drop_of_length_le (by omega)] at hy; simp at hy
    have f2' := f2.resolve_left hi
    obtain ⟨C, q, D, rfl, hC⟩ := cut_at (l := R) (i := i - m) (by omega)
    rw [bang_mid' (P := P ++ C) (x := q) (S := D ++ S) (by rw [hl]; simp) (by simp only [List.length_append]; omega)] at f2'
    rw [← hC, List.drop_left] at hy
    have hy' : lt y q = false := by
      rcases List.mem_cons.mp hy with rfl | hy
      · exact hS.irrefl _
      · exact (srt_low hR).2 y hy
    exact hS.ntrans _ _ _ hy' f2'

/-- One on the right: where the search in the left part has ended. -/
theorem one_parts' (hS : SWO lt) {l P L S : List α} {y : α} {a m i : Nat} (hl : l = P ++ (L ++ S)) (hL : Srt lt L) (ha : a = P.length) (hm : m = a + L.length) (h1 : a ≤ i) (h2 : i ≤ m)
    (f1 : i = a ∨ lt y l.toArray[i - 1]! = false) (f2 : i = m ∨ lt y l.toArray[i]! = true) : ∃ L1 L2, L = L1 ++ L2 ∧ a + L1.length = i ∧ (∀ z ∈ L1, lt y z = false) ∧ (∀ z ∈ L2, lt y z = true) := by
  refine ⟨L.take (i - a), L.drop (i - a), (List.take_append_drop _ _).symm, by rw [List.length_take]; omega, ?_, ?_⟩
  · intro z hz
    by_cases hi : i = a
    · rw [show i - a = 0 by omega] at hz; simp at hz
    have f1' := f1.resolve_left hi
    obtain ⟨C, q, D, rfl, hC⟩ := cut_at (l := L) (i := i - 1 - a) (by omega)
    rw [bang_mid' (P := P ++ C) (x := q) (S := D ++ S) (by rw [hl]; simp) (by simp only [List.length_append]; omega)] at f1'
    rw [show i - a = (C ++ [q]).length by simp; omega, show C ++ q :: D = (C ++ [q]) ++ D by simp, List.take_left] at hz
    have hz' : lt q z = false := by
      rcases List.mem_append.mp hz with hz | hz
      · exact (srt_low hL).1 z hz
      · simp at hz; subst hz; exact hS.irrefl _
    exact hS.ntrans _ _ _ f1' hz'
  · intro z hz
    by_cases hi : i = m
    · rw [List.drop_of_length_le (by omega)] at hz; simp at hz
    have f2' := f2.resolve_left hi
    obtain ⟨C, q, D, rfl, hC⟩ := cut_at (l := L) (i := i - a) (by omega)
    rw [bang_mid' (P := P ++ C) (x := q) (S := D ++ S) (by rw [hl]; simp) (by simp only [List.length_append]; omega)] at f2'
    rw [← hC, List.drop_left] at hz
    have hz' : lt z q = false := by
      rcases List.mem_cons.mp hz with rfl | hz
      · exact hS.irrefl _
      · exact (srt_low hL).2 z hz
    cases hc : lt y z with
    | true => rfl
    | false => have := hS.ntrans _ _ _ hc hz'; rw [f2'] at this; exact absurd this (by simp)
end

section
variable {α : Type} (lt : α → α → Bool)
abbrev fl (d : List (List α)) : List α := (d.map (srt lt)).flatten

theorem fl_len : ∀ d : List (List α), (fl lt d).length = d.flatten.length
  | [] => rfl
  | o :: d => by
    have := fl_len d
    simp only [fl, List.map_cons, List.flatten_cons, List.length_append, srt_len] at this ⊢
    omega
theorem fl_app (d e : List (List α)) : fl lt (d ++ e) = fl lt d ++ fl lt e := by simp [fl]
theorem fl_cons (o : List α) (e : List (List α)) : fl lt (o :: e) = srt lt o ++ fl lt e := by simp [fl]
theorem fl_nil : fl lt ([] : List (List α)) = [] := rfl

def StA (bs a : Nat) (xs cur : List α) : Prop := ∃ done rest, xs = done.flatten ++ rest ∧ cur = fl lt done ++ rest ∧ (∀ o ∈ done, o.length = bs) ∧ done.flatten.length = a
def StB (bs : Nat) (xs cur : List α) : Prop := ∃ full last, xs = full.flatten ++ last ∧ cur = fl lt full ++ srt lt last ∧ (∀ o ∈ full, o.length = bs) ∧ last.length ≤ bs
def StC (bs a : Nat) (xs cur : List α) : Prop := ∃ done full last, xs = done.flatten ++ (full.flatten ++ last) ∧ cur = fl lt done ++ (fl lt full ++ srt lt last) ∧ (∀ o ∈ done, o.length = 2 * bs) ∧ (∀ o ∈ full, o.length = bs) ∧ last.length ≤ bs ∧ done.flatten.length = a

variable {lt} {bs a : Nat} {xs cur : List α}
theorem StA.start : StA lt bs 0 xs xs := ⟨[], xs, rfl, rfl, fun _ h => absurd h (by simp), rfl⟩
theorem StA.len (h : StA lt bs a xs cur) : cur.length = xs.length := by
  obtain ⟨d, r, rfl, rfl, _, _⟩ := h
  simp only [List.length_append, fl_len]
theorem StB.len (h : StB lt bs xs cur) : cur.length = xs.length := by
  obtain ⟨d, r, rfl, rfl, _, _⟩ := h
  simp only [List.length_append, fl_len, srt_len]
theorem StC.len (h : StC lt bs a xs cur) : cur.length = xs.length := by
  obtain ⟨d, f, r, rfl, rfl, _, _, _, _⟩ := h
  simp only [List.length_append, fl_len, srt_len]

theorem StA.step (h : StA lt bs a xs cur) (hn : a + bs ≤ xs.length) : ∃ P X S, cur = P ++ (X ++ S) ∧ P.length = a ∧ X.length = bs ∧ StA lt bs (a + bs) xs (P ++ (srt lt X ++ S)) := by
  obtain ⟨d, r, rfl, rfl, h1, h2⟩ := h
  rw [List.length_append, h2] at hn
  have hx : (r.take bs).length = bs := by rw [List.length_take]; omega
  refine ⟨fl lt d, r.take bs, r.drop bs, by rw [List.take_append_drop], by rw [fl_len, h2], hx, d ++ [r.take bs], r.drop bs, ?_, ?_, ?_, ?_⟩
  · simp [List.take_append_drop]
  · rw [fl_app, fl_cons, fl_nil]; simp
  · intro o ho
    rcases List.mem_append.mp ho with ho | ho
    · exact h1 o ho
    · simp at ho; subst ho; exact hx
  · simp only [List.flatten_append, List.length_append, h2, List.flatten_cons, List.flatten_nil, List.append_nil, hx]

theorem StA.last (h : StA lt bs a xs cur) (hn : ¬ a + bs ≤ xs.length) : ∃ P X, cur = P ++ (X ++ []) ∧ P.length = a ∧ a + X.length = xs.length ∧ StB lt bs xs (P ++ (srt lt X ++ [])) := by
  obtain ⟨d, r, rfl, rfl, h1, h2⟩ := h
  rw [List.length_append, h2] at hn
  refine ⟨fl lt d, r, by simp, by rw [fl_len, h2], by rw [List.length_append, h2], d, r, rfl, by simp, h1, by omega⟩

theorem StB.to (h : StB lt bs xs cur) : StC lt bs 0 xs cur := by
  obtain ⟨d, r, rfl, rfl, h1, h2⟩ := h
  exact ⟨[], d, r, rfl, rfl, fun _ h => absurd h (by simp), h1, h2, rfl⟩

theorem StC.step (hS : SWO lt) (h : StC lt bs a xs cur) (h0 : 0 < bs) (hn : a + 2 * bs ≤ xs.length) :
    ∃ P L R S, cur = P ++ (L ++ (R ++ S)) ∧ P.length = a ∧ L.length = bs ∧ R.length = bs ∧ Srt lt L ∧ Srt lt R ∧ StC lt bs (a + 2 * bs) xs (P ++ (mg lt L R ++ S)) := by
  obtain ⟨d, f, r, rfl, rfl, h1, h2, h3, h4⟩ := h
  rw [List.length_append, h4] at hn
  match f, h2, hn with
  | [], _, hn => simp at hn; omega
  | [o], h2, hn =>
    have ho : o.length = bs := h2 o (by simp)
    have hr : r.length = bs := by simp [ho] at hn; omega
    refine ⟨fl lt d, srt lt o, srt lt r, [], by rw [fl_cons, fl_nil]; simp, by rw [fl_len, h4], by rw [srt_len, ho], by rw [srt_len, hr], srt_srtd hS _, srt_srtd hS _, d ++ [o ++ r], [], [], by simp, ?_, ?_, fun _ h => absurd h (by simp), by simp, ?_⟩
    · rw [mg_srt hS, fl_app, fl_cons, fl_nil, srt_nil]; simp
    · intro q hq
      rcases List.mem_append.mp hq with hq | hq
      · exact h1 q hq
      · simp at hq; subst hq; simp [ho, hr]; omega
    · simp only [List.flatten_append, List.length_append, h4, List.flatten_cons, List.flatten_nil, List.append_nil, ho, hr]; omega
  | o :: p :: f, h2, hn =>
    have ho : o.length = bs := h2 o (by simp)
    have hp : p.length = bs := h2 p (by simp)
    refine ⟨fl lt d, srt lt o, srt lt p, fl lt f ++ srt lt r, by rw [fl_cons, fl_cons]; simp, by rw [fl_len, h4], by rw [srt_len, ho], by rw [srt_len, hp], srt_srtd hS _, srt_srtd hS _, d ++ [o ++ p], f, r, by simp, ?_, ?_, fun q hq => h2 q (by simp [hq]), h3, ?_⟩
    · rw [mg_srt hS, fl_app, fl_cons, fl_nil]; simp
    · intro q hq
      rcases List.mem_append.mp hq with hq | hq
      · exact h1 q hq
      · simp at hq; subst hq; simp [ho, hp]; omega
    · simp only [List.flatten_append, List.length_append, h4, List.flatten_cons, List.flatten_nil, List.append_nil, ho, hp]; omega

theorem StC.last1 (hS : SWO lt) (h : StC lt bs a xs cur) (hn : ¬ a + 2 * bs ≤ xs.length) (hm : a + bs < xs.length) :
    ∃ P L R, cur = P ++ (L ++ (R ++ [])) ∧ P.length = a ∧ L.length = bs ∧ a + bs + R.length = xs.length ∧ Srt lt L ∧ Srt lt R ∧ StB lt (2 * bs) xs (P ++ (mg lt L R ++ [])) := by
  obtain ⟨d, f, r, rfl, rfl, h1, h2, h3, h4⟩ := h
  rw [List.length_append, h4] at hn hm
  match f, h2, hn, hm with
  | [], _, hn, hm => simp at hm; omega
  | [o], h2, hn, hm =>
    have ho : o.length = bs := h2 o (by simp)
    refine ⟨fl lt d, srt lt o, srt lt r, by rw [fl_cons, fl_nil]; simp, by rw [fl_len, h4], by rw [srt_len, ho], by simp only [List.length_append, h4, srt_len, List.flatten_cons, List.flatten_nil, List.append_nil, ho]; omega, srt_srtd hS _, srt_srtd hS _, d, o ++ r, by simp, ?_, h1, ?_⟩
    · rw [mg_srt hS]; simp
    · simp [ho]; omega
  | o :: p :: f, h2, hn, hm =>
    have ho : o.length = bs := h2 o (by simp)
    have hp : p.length = bs := h2 p (by simp)
    simp only [List.flatten_cons, List.length_append, ho, hp] at hn
    omega

theorem StC.last2 (h : StC lt bs a xs cur) (hn : ¬ a + 2 * bs ≤ xs.length) (hm : ¬ a + bs < xs.length) : StB lt (2 * bs) xs cur := by
  obtain ⟨d, f, r, rfl, rfl, h1, h2, h3, h4⟩ := h
  rw [List.length_append, h4] at hn hm
  match f, h2, hn, hm with
  | [], _, hn, hm => exact ⟨d, r, by simp, by rw [fl_nil]; simp, h1, by omega⟩
  | [o], h2, hn, hm =>
    have ho : o.length = bs := h2 o (by simp)
    have hr0 : r.length = 0 := by simp only [List.flatten_cons, List.flatten_nil, List.append_nil, List.length_append, ho] at hm; omega
    have : r = [] := List.length_eq_zero_iff.mp hr0
    subst this
    exact ⟨d, o, by simp, by rw [fl_cons, fl_nil, srt_nil]; simp, h1, by omega⟩
  | o :: p :: f, h2, hn, hm =>
    have ho : o.length = bs := h2 o (by simp)
    have hp : p.length = bs := h2 p (by simp)
    simp only [List.flatten_cons, List.length_append, ho, hp] at hn
    omega

theorem StB.all (h : StB lt bs xs cur) (hn : xs.length ≤ bs) : cur = srt lt xs := by
  obtain ⟨f, r, rfl, rfl, h1, h2⟩ := h
  match f, h1, hn with
  | [], _, _ => simp [fl]
  | o :: f, h1, hn =>
    have ho : o.length = bs := h1 o (by simp)
    simp only [List.flatten_cons, List.length_append, ho] at hn
    have e1 : r = [] := List.length_eq_zero_iff.mp (by omega)
    have e2 : f.flatten = [] := List.length_eq_zero_iff.mp (by omega)
    have e3 : fl lt f = [] := List.length_eq_zero_iff.mp (by rw [fl_len]; omega)
    subst e1
    rw [fl_cons, e3, srt_nil]
    simp [e2]
end
end Go.Proofs.YtbdnonphkobkoaaGreat.Stb
