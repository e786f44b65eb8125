import Derived.Test.YtddglepimbfdkaaGreatDoorNm
section
/- Plain: what parts that are read can be (parse). No program in it. -/

namespace Go.Proofs.YtddglepimbfdkaaGreatDoor.Par
open Go.Lib
open Go.Proofs.YtddglepimbfdkaaGreatDoor.Sto

def FineS (s : Tq) : Prop := Fine s.1 s.2 ∧ s.2.length ≤ 1000
def FineL (l : List Tq) : Prop := l.length ≤ 1000000 ∧ ∀ s ∈ l, FineS s
def WordG (x : ByteArray) : Prop := Fine 1 x.data.toList ∧ x.data.toList.length ≤ 1000
def GoodN (l : List ByteArray) : Prop := ∀ x ∈ l, WordG x
def GoodM (m : Mat) : Prop := WordG m.1 ∧ m.2.2.data.toList.length ≤ 1000 ∧ (m.2.1 = 1 ∨ m.2.1 = 2 ∨ m.2.1 = 3 ∨ m.2.1 = 4)
def GoodMs (l : List Mat) : Prop := ∀ x ∈ l, GoodM x
def Mode (mode : Nat) (names : List ByteArray) : Prop := mode ≤ 2 ∧ (mode = 0 → names = []) ∧ GoodN names ∧ names.length ≤ 1000000
def MetricB (m : List UInt8) : Prop := (Fine 1 m ∧ m.length ≤ 1000) ∧ aggB m = false ∧ fnS m = false ∧ resB m = false
/-- What a part that is read can be. -/
def Good : Ex → Prop
  | .num n => n ≤ 1000000000000
  | .neg x => Good x
  | .bin op mode names l r => op.data.toList ∈ chainOps ∧ Mode mode names ∧ Good l ∧ Good r
  | .agg name n mode names x => aggB name.data.toList = true ∧ n ≤ 1000000000000 ∧ (numbB name.data.toList = false → n = 0) ∧ Mode mode names ∧ Good x
  | .fn name x => fnS name.data.toList = true ∧ Good x
  | .sel m n ms => (m.data.toList = [] ∨ MetricB m.data.toList) ∧ n ≤ 1000000000 ∧ matsB ms = true ∧ GoodMs ms
theorem bz_list (l : List UInt8) : (bz l).data.toList = l := rfl
theorem bz_of (x : ByteArray) : bz x.data.toList = x := by unfold bz; cases x; simp

theorem FineL.tail {l : List Tq} (h : FineL l) : FineL l.tail := ⟨by have := h.1; simp; omega, fun s hs => h.2 s (List.mem_of_mem_tail hs)⟩
theorem FineL.cons {x : Tq} {l : List Tq} (h : FineL (x :: l)) : FineS x ∧ FineL l := ⟨h.2 x (by simp), by have := h.1; simp at this; omega, fun s hs => h.2 s (by simp [hs])⟩
theorem ge_four (a b : Nat) : (if (4 : Nat) = 4 then a else b) = a := rfl
theorem ge_two (a b : Nat) : (if (2 : Nat) = 4 then a else b) = b := rfl
/-- Digits: their number. -/
theorem fine_dig {k : Nat} {t : List UInt8} (hF : Fine k t) (hk : k = 2 ∨ k = 4) : ∃ v, v ≤ (if k = 4 then 1000000000 else 1000000000000) ∧ t = decDigits v := by
  obtain ⟨h, _, _⟩ := hF
  generalize spellW (k, t) = l at h
  unfold firstL at h
  split at h
  · split at h
    · injection h with h; injection h with h1 _; omega
    · cases h
  · split at h
    · unfold numL at h
      split at h
      · cases h
      · split at h
        · injection h with h; injection h with h1 h; injection h with h2 _
          subst h1; exact ⟨_, by simp; omega, h2.symm⟩
        · split at h
          · cases h
          · injection h with h; injection h with h1 h; injection h with h2 _
            subst h1; exact ⟨_, by simp; omega, h2.symm⟩
    · split at h
      · split at h
        · injection h with h; injection h with h1 _; omega
        · cases h
      · unfold signL at h
        split at h
        · injection h with h; injection h with h1 _; omega
        · split at h
          · injection h with h; injection h with h1 _; omega
          · cases h
theorem numP_good {k : Nat} (hk : k = 2 ∨ k = 4) {l : List Tq} {n : Nat} {m : List Tq} (hl : FineL l) (h : numP k l = some (n, m)) : n ≤ (if k = 4 then 1000000000 else 1000000000000) ∧ FineL m := by
  cases l with
  | nil => cases h
  | cons y t =>
    change (if y.1 = k then some (valL y.2, t) else none) = _ at h
    split at h
    · rename_i hy
      injection h with h; injection h with h1 h; subst h; subst h1
      obtain ⟨hy2, ht⟩ := hl.cons
      have hy2 := hy2.1
      rw [hy] at hy2
      obtain ⟨v, hv, e⟩ := fine_dig hy2 hk
      rw [e, val_dec]; exact ⟨hv, ht⟩
    · cases h
theorem nameP_good {l : List Tq} {x : ByteArray} {m : List Tq} (hl : FineL l) (h : nameP l = some (x, m)) : WordG x ∧ FineL m := by
  cases l with
  | nil => cases h
  | cons y t =>
    change (if y.1 = 1 then some (bz y.2, t) else none) = _ at h
    split at h
    · rename_i hy
      injection h with h; injection h with h1 h; subst h; subst h1
      obtain ⟨hy2, ht⟩ := hl.cons
      obtain ⟨hy2, hy3⟩ := hy2
      rw [hy] at hy2
      exact ⟨⟨hy2, hy3⟩, ht⟩
    · cases h
theorem opS_cases {s : List UInt8} (h : opS s ≠ 0) : (opS s : Int) = 1 ∨ (opS s : Int) = 2 ∨ (opS s : Int) = 3 ∨ (opS s : Int) = 4 := by
  unfold opS at h ⊢
  split
  · exact .inl rfl
  · split
    · exact .inr (.inl rfl)
    · split
      · exact .inr (.inr (.inl rfl))
      · split
        · exact .inr (.inr (.inr rfl))
        · rename_i h1 h2 h3 h4
          rw [if_neg h1, if_neg h2, if_neg h3, if_neg h4] at h; exact absurd rfl h
theorem matP_good {l : List Tq} {x : Mat} {m : List Tq} (hl : FineL l) (h : matP l = some (x, m)) : GoodM x ∧ FineL m := by
  match l, h with
  | a :: b :: c :: t, h =>
    change (if a.1 = 1 ∧ b.1 = 5 ∧ opS b.2 ≠ 0 ∧ c.1 = 3 then some ((bz a.2, (opS b.2 : Int), bz c.2), t) else none) = _ at h
    split at h
    · rename_i hc
      injection h with h; injection h with h1 h; subst h; subst h1
      obtain ⟨ha, ha2⟩ := (hl.cons).1
      rw [hc.1] at ha
      have hcv := (hl.2 c (by simp)).2
      exact ⟨⟨⟨ha, ha2⟩, hcv, opS_cases hc.2.2.1⟩, by have := hl.1; simp at this; omega, fun s hs => hl.2 s (by simp [hs])⟩
    · cases h
theorem listGo_len {α : Type} {one : List Tq → Option (α × List Tq)} {stop : List UInt8} (h1 : ∀ l x m, one l = some (x, m) → m.length < l.length) : ∀ (n : Nat) (l : List Tq) (acc xs : List α) (m : List Tq), listGo one stop n l acc = some (xs, m) → xs.length ≤ acc.length + l.length
  | 0, _, _, _, _, h => by simp [listGo] at h
  | n + 1, l, acc, xs, m, h => by
    rw [listGo] at h
    split at h
    · cases h
    · rename_i x k hk
      have hl := h1 _ _ _ hk
      split at h
      · have := listGo_len h1 n _ _ _ _ h
        simp at this; omega
      · split at h
        · injection h with h; injection h with h2 h; subst h2
          simp; omega
        · cases h
theorem listP_len {α : Type} {one : List Tq → Option (α × List Tq)} {stop : List UInt8} (h1 : ∀ l x m, one l = some (x, m) → m.length < l.length) {l : List Tq} {xs : List α} {m : List Tq} (h : listP one stop l = some (xs, m)) : xs.length ≤ l.length := by
  unfold listP at h
  split at h
  · injection h with h; injection h with h2 h; subst h2
    exact Nat.zero_le _
  · have := listGo_len h1 _ _ _ _ _ h
    simpa using this
theorem listGo_good {α : Type} {one : List Tq → Option (α × List Tq)} {stop : List UInt8} {G : α → Prop} (h1 : ∀ l x m, FineL l → one l = some (x, m) → G x ∧ FineL m) : ∀ (n : Nat) (l : List Tq) (acc xs : List α) (m : List Tq), FineL l → (∀ x ∈ acc, G x) → listGo one stop n l acc = some (xs, m) → (∀ x ∈ xs, G x) ∧ FineL m
  | 0, _, _, _, _, _, _, h => by simp [listGo] at h
  | n + 1, l, acc, xs, m, hl, ha, h => by
    rw [listGo] at h
    split at h
    · cases h
    · rename_i x k hk
      obtain ⟨g1, g2⟩ := h1 _ _ _ hl hk
      have ha2 : ∀ y ∈ acc ++ [x], G y := by
        intro y hy
        rcases List.mem_append.1 hy with hy | hy
        · exact ha y hy
        · simp at hy; subst hy; exact g1
      split at h
      · exact listGo_good h1 n _ _ _ _ g2.tail ha2 h
      · split at h
        · injection h with h; injection h with h2 h; subst h; subst h2
          exact ⟨ha2, g2.tail⟩
        · cases h
theorem listP_good {α : Type} {one : List Tq → Option (α × List Tq)} {stop : List UInt8} {G : α → Prop} (h1 : ∀ l x m, FineL l → one l = some (x, m) → G x ∧ FineL m) {l : List Tq} {xs : List α} {m : List Tq} (hl : FineL l) (h : listP one stop l = some (xs, m)) : (∀ x ∈ xs, G x) ∧ FineL m := by
  unfold listP at h
  split at h
  · injection h with h; injection h with h2 h; subst h; subst h2
    exact ⟨fun x hx => by simp at hx, hl.tail⟩
  · exact listGo_good h1 _ _ _ _ _ hl (fun x hx => by simp at hx) h
theorem nameP_word (l : List Tq) (x : ByteArray) (m : List Tq) (hl : FineL l) (h : nameP l = some (x, m)) : WordG x ∧ FineL m := nameP_good hl h
theorem matP_word (l : List Tq) (x : Mat) (m : List Tq) (hl : FineL l) (h : matP l = some (x, m)) : GoodM x ∧ FineL m := matP_good hl h
theorem names_good {l : List Tq} {xs : List ByteArray} {m : List Tq} (hl : FineL l) (h : listP nameP [41] l = some (xs, m)) : (GoodN xs ∧ xs.length ≤ 1000000) ∧ FineL m := by
  have h1 := listP_good (G := WordG) nameP_word hl h
  have h2 := listP_len nameP_lt h
  exact ⟨⟨h1.1, Nat.le_trans h2 hl.1⟩, h1.2⟩
theorem modeP_good {a b : List UInt8} {l : List Tq} {p : Nat × List ByteArray} {m : List Tq} (hl : FineL l) (h : modeP a b l = some (p, m)) : Mode p.1 p.2 ∧ FineL m := by
  unfold modeP at h
  have key : ∀ (c : Nat), c = 1 ∨ c = 2 → ((listP nameP [41] l.tail.tail).map fun p => ((c, p.1), p.2)) = some (p, m) → Mode p.1 p.2 ∧ FineL m := by
    intro c hc h
    cases hx : listP nameP [41] l.tail.tail with
    | none => rw [hx] at h; cases h
    | some q =>
      rw [hx] at h
      injection h with h; injection h with h1 h; subst h; subst h1
      obtain ⟨⟨g1, h3⟩, g2⟩ := names_good hl.tail.tail (xs := q.1) (m := q.2) hx
      have h1 : c ≤ 2 := by omega
      have h2 : c = 0 → q.1 = [] := fun e => by omega
      exact And.intro (And.intro h1 (And.intro h2 (And.intro g1 h3))) g2
  split at h
  · split at h
    · exact key 1 (.inl rfl) h
    · cases h
  · split at h
    · split at h
      · exact key 2 (.inr rfl) h
      · cases h
    · injection h with h; injection h with h1 h; subst h; subst h1
      exact ⟨⟨Nat.zero_le _, fun _ => rfl, fun x hx => (by simp at hx), Nat.zero_le _⟩, hl⟩
theorem windowP_good {l : List Tq} {n : Nat} {m : List Tq} (hl : FineL l) (h : windowP l = some (n, m)) : n ≤ 1000000000 ∧ FineL m := by
  unfold windowP at h
  split at h
  · split at h
    · cases h
    · rename_i k t hk
      obtain ⟨g1, g2⟩ := numP_good (.inr rfl) hl.tail hk
      split at h
      · injection h with h; injection h with h1 h; subst h; subst h1
        rw [ge_four] at g1
        exact ⟨g1, g2.tail⟩
      · cases h
  · injection h with h; injection h with h1 h; subst h; subst h1
    exact ⟨Nat.zero_le _, hl⟩
theorem bracesP_good {b : Bool} {l : List Tq} {ms : List Mat} {m : List Tq} (hl : FineL l) (h : bracesP b l = some (ms, m)) : GoodMs ms ∧ FineL m := by
  unfold bracesP at h
  split at h
  · exact listP_good (G := GoodM) matP_word hl.tail h
  · split at h
    · injection h with h; injection h with h1 h; subst h; subst h1
      exact ⟨fun x hx => by simp at hx, hl⟩
    · cases h
theorem selP_good {t : List UInt8} {b : Bool} {l : List Tq} {x : Ex} {m : List Tq} (ht : t = [] ∨ MetricB t) (hl : FineL l) (h : selP t b l = some (x, m)) : Good x ∧ FineL m := by
  unfold selP at h
  split at h
  · cases h
  · rename_i ms k hk
    obtain ⟨g1, g2⟩ := bracesP_good hl hk
    split at h
    · rename_i hb
      cases hx : windowP k with
      | none => rw [hx] at h; cases h
      | some q =>
        rw [hx] at h
        injection h with h; injection h with h1 h; subst h; subst h1
        obtain ⟨g3, g4⟩ := windowP_good (n := q.1) (m := q.2) g2 hx
        exact ⟨⟨ht, g3, hb, g1⟩, g4⟩
    · cases h
theorem aggNP_good {t : List UInt8} {l : List Tq} {n : Nat} {m : List Tq} (hl : FineL l) (h : aggNP t l = some (n, m)) : n ≤ 1000000000000 ∧ (numbB t = false → n = 0) ∧ FineL m := by
  unfold aggNP at h
  split at h
  · rename_i hb
    split at h
    · cases h
    · rename_i k t hk
      obtain ⟨g1, g2⟩ := numP_good (.inl rfl) hl hk
      split at h
      · injection h with h; injection h with h1 h; subst h; subst h1
        rw [ge_two] at g1
        exact ⟨g1, fun e => (by rw [hb] at e; cases e), g2.tail⟩
      · cases h
  · injection h with h; injection h with h1 h; subst h; subst h1
    exact ⟨Nat.zero_le _, fun _ => rfl, hl⟩
theorem level_ops {s : List UInt8} (h : levelS s ≠ 0) : s ∈ chainOps := by
  unfold levelS cmpS at h
  split at h
  · rename_i hc
    simp only [Bool.or_eq_true, beq_iff_eq] at hc
    unfold chainOps
    rcases hc with ((((hc | hc) | hc) | hc) | hc) | hc <;> subst hc <;> simp
  · split at h
    · rename_i hc
      simp only [Bool.or_eq_true, beq_iff_eq] at hc
      unfold chainOps
      rcases hc with hc | hc <;> subst hc <;> simp
    · split at h
      · rename_i hc
        simp only [Bool.or_eq_true, beq_iff_eq] at hc
        unfold chainOps
        rcases hc with (hc | hc) | hc <;> subst hc <;> simp
      · exact absurd rfl h

theorem go_good : ∀ (n : Nat),
    (∀ t l x m, 1 ≤ t → FineL l → chainGo n t l = some (x, m) → Good x ∧ FineL m) ∧
    (∀ t y l x m, 1 ≤ t → Good y → FineL l → restGo n t y l = some (x, m) → Good x ∧ FineL m) ∧
    (∀ t y l x m, 1 ≤ t → levelT l = t → Good y → FineL l → binGo n t y l = some (x, m) → Good x ∧ FineL m) ∧
    (∀ l x m, FineL l → unaryGo n l = some (x, m) → Good x ∧ FineL m) ∧
    (∀ l x m, FineL l → primGo n l = some (x, m) → Good x ∧ FineL m) ∧
    (∀ l x m, FineL l → closedGo n l = some (x, m) → Good x ∧ FineL m) ∧
    (∀ s l x m, aggB s = true → FineL l → aggGo n s l = some (x, m) → Good x ∧ FineL m) ∧
    (∀ s l x m, fnS s = true → FineL l → fnGo n s l = some (x, m) → Good x ∧ FineL m)
  | 0 => ⟨fun _ _ _ _ _ _ h => by simp [chainGo] at h, fun _ _ _ _ _ _ _ _ h => by simp [restGo] at h, fun _ _ _ _ _ _ _ _ _ h => by simp [binGo] at h, fun _ _ _ _ h => by simp [unaryGo] at h, fun _ _ _ _ h => by simp [primGo] at h, fun _ _ _ _ h => by simp [closedGo] at h, fun _ _ _ _ _ _ h => by simp [aggGo] at h, fun _ _ _ _ _ _ h => by simp [fnGo] at h⟩
  | n + 1 => by
    obtain ⟨i1, i2, i3, i4, i5, i6, i7, i8⟩ := go_good n
    refine ⟨?_, ?_, ?_, ?_, ?_, ?_, ?_, ?_⟩
    · intro t l x m ht hl h
      rw [chainGo] at h
      split at h
      · exact i4 _ _ _ hl h
      · split at h
        · cases h
        · rename_i y k hk
          obtain ⟨g1, g2⟩ := i1 _ _ _ _ (by omega) hl hk
          exact i2 _ _ _ _ _ ht g1 g2 h
    · intro t y l x m ht hy hl h
      rw [restGo] at h
      split at h
      · rename_i hlv
        split at h
        · cases h
        · rename_i z k hk
          obtain ⟨g1, g2⟩ := i3 _ _ _ _ _ ht hlv hy hl hk
          exact i2 _ _ _ _ _ ht g1 g2 h
      · injection h with h; injection h with h1 h; subst h; subst h1; exact ⟨hy, hl⟩
    · intro t y l x m ht hlv hy hl h
      cases l with
      | nil => simp [binGo] at h
      | cons s l =>
        rw [binGo] at h
        split at h
        · cases h
        · rename_i mode names k hk
          obtain ⟨g1, g2⟩ := modeP_good hl.cons.2 hk
          split at h
          · cases h
          · rename_i z j hj
            obtain ⟨g3, g4⟩ := i1 _ _ _ _ (by omega) g2 hj
            injection h with h; injection h with h1 h; subst h; subst h1
            refine ⟨⟨?_, g1, hy, g3⟩, g4⟩
            show s.2 ∈ chainOps
            refine level_ops fun e => ?_
            have : levelT (s :: l) = if s.1 = 5 then levelS s.2 else 0 := rfl
            rw [e] at this
            have : levelT (s :: l) = 0 := by rw [this]; split <;> rfl
            omega
    · intro l x m hl h
      rw [unaryGo] at h
      split at h
      · split at h
        · cases h
        · rename_i y k hk
          obtain ⟨g1, g2⟩ := i4 _ _ _ hl.tail hk
          injection h with h; injection h with h1 h; subst h; subst h1
          exact ⟨g1, g2⟩
      · exact i5 _ _ _ hl h
    · intro l x m hl h
      cases l with
      | nil => simp [primGo] at h
      | cons s l =>
        obtain ⟨⟨hs, hs2⟩, hl2⟩ := hl.cons
        rw [primGo] at h
        split at h
        · exact i6 _ _ _ hl2 h
        · split at h
          · rename_i hk
            injection h with h; injection h with h1 h; subst h; subst h1
            rw [hk] at hs
            obtain ⟨v, hv, e⟩ := fine_dig hs (.inl rfl)
            refine ⟨?_, hl2⟩
            show valL s.2 ≤ _
            rw [ge_two] at hv
            rw [e, val_dec]; exact hv
          · split at h
            · rename_i hk
              rw [hk] at hs
              split at h
              · rename_i ha; exact i7 _ _ _ _ ha hl2 h
              · split at h
                · rename_i hf; exact i8 _ _ _ _ hf hl2 h
                · split at h
                  · cases h
                  · rename_i a b c
                    exact selP_good (.inr ⟨⟨hs, hs2⟩, by simpa using a, by simpa using b, by simpa using c⟩) hl2 h
            · exact selP_good (.inl rfl) hl h
    · intro l x m hl h
      rw [closedGo] at h
      split at h
      · cases h
      · rename_i y k hk
        obtain ⟨g1, g2⟩ := i1 _ _ _ _ (Nat.le_refl _) hl hk
        split at h
        · injection h with h; injection h with h1 h; subst h; subst h1
          exact ⟨g1, g2.tail⟩
        · cases h
    · intro s l x m hs hl h
      rw [aggGo] at h
      split at h
      · cases h
      · rename_i mode names k hk
        obtain ⟨g1, g2⟩ := modeP_good hl hk
        split at h
        · split at h
          · cases h
          · rename_i j k2 hk2
            obtain ⟨g3, g4, g5⟩ := aggNP_good g2.tail hk2
            split at h
            · cases h
            · rename_i z k3 hk3
              obtain ⟨g6, g7⟩ := i6 _ _ _ g5 hk3
              injection h with h; injection h with h1 h; subst h; subst h1
              exact ⟨⟨hs, g3, g4, g1, g6⟩, g7⟩
        · cases h
    · intro s l x m hs hl h
      rw [fnGo] at h
      split at h
      · split at h
        · cases h
        · rename_i z k3 hk3
          obtain ⟨g6, g7⟩ := i6 _ _ _ hl.tail hk3
          injection h with h; injection h with h1 h; subst h; subst h1
          exact ⟨⟨hs, g6⟩, g7⟩
      · cases h
/-- A query that is read. -/
def GoodQ (q : Qr) : Prop := Good q.root ∧ q.order ≤ 2 ∧ (-1 ≤ q.limit ∧ q.limit ≤ 2000) ∧ (-1 ≤ q.offset ∧ q.offset ≤ 2000) ∧ countE q.root ≤ 200
theorem order_le {l m : List Tq} {o : Nat} (h : orderP l = some (o, m)) : o ≤ 2 := by
  unfold orderP at h
  split at h
  · split at h
    · injection h with h; injection h with h _; omega
    · split at h
      · injection h with h; injection h with h _; omega
      · cases h
  · injection h with h; injection h with h _; omega
theorem rows_le {w : List UInt8} {l m : List Tq} {a : Int} (h : rowsP w l = some (a, m)) : -1 ≤ a ∧ a ≤ 2000 := by
  unfold rowsP at h
  split at h
  · split at h
    · cases h
    · split at h
      · injection h with h; injection h with h _; omega
      · cases h
  · injection h with h; injection h with h _; omega
theorem readW_good {l : List Tq} {q : Qr} (hl : FineL l) (h : readW l = some q) : GoodQ q := by
  unfold readW at h
  split at h
  · cases h
  · rename_i x m hx
    have hg := ((go_good _).1 _ _ _ _ (Nat.le_refl _) hl hx).1
    split at h
    · cases h
    · rename_i q' k hq
      split at h
      · rename_i hc
        injection h with h; subst h
        have hc2 : countE x ≤ 200 := by simp at hc; exact hc.2
        unfold tailsP at hq
        split at hq
        · cases hq
        · rename_i o l1 ho
          split at hq
          · cases hq
          · rename_i a l2 ha
            split at hq
            · cases hq
            · rename_i b l3 hb
              injection hq with hq; injection hq with h1 _; subst h1
              exact ⟨hg, order_le ho, rows_le ha, rows_le hb, hc2⟩
      · cases h
theorem readL_good {s : List UInt8} {q : Qr} (hz : s.length ≤ 600) (h : readL s = some q) : GoodQ q := by
  unfold readL at h
  cases hx : lexL s with
  | none => rw [hx] at h; cases h
  | some ws =>
    rw [hx] at h
    obtain ⟨hlen, htk⟩ := lexL_tokens hz hx
    rw [lexL_at] at hx
    exact readW_good ⟨by rw [List.length_map]; omega, fun t ht => by
      obtain ⟨w, hw, e⟩ := List.mem_map.1 ht
      subst e; exact ⟨lexAt_fine s 0 ws hx w hw, (htk w hw).few⟩⟩ h
end Go.Proofs.YtddglepimbfdkaaGreatDoor.Par
end

section
/- Plain: the words of what is written (parse). No program in it. -/


namespace Go.Proofs.YtddglepimbfdkaaGreatDoor.Par
open Go.Lib
open Go.Proofs.YtddglepimbfdkaaGreatDoor.Sto

def tokNs : List ByteArray → List Tq
  | [] => []
  | [x] => [(1, x.data.toList)]
  | x :: y :: l => (1, x.data.toList) :: (5, [44]) :: tokNs (y :: l)
def tokM (m : Mat) : List Tq := [(1, m.1.data.toList), (5, signM m.2.1), (3, m.2.2.data.toList)]
def tokMs : List Mat → List Tq
  | [] => []
  | [x] => tokM x
  | x :: y :: l => tokM x ++ (5, [44]) :: tokMs (y :: l)
def modeT (mode : Nat) (a b : List UInt8) (names : List ByteArray) : List Tq := if mode = 1 ∨ mode = 2 then (1, modeW mode a b) :: (5, [40]) :: (tokNs names ++ [(5, [41])]) else []
def tokE : Ex → List Tq
  | .num n => [(2, decDigits n)]
  | .neg x => (5, [45]) :: (if hasS x then (5, [40]) :: (tokE x ++ [(5, [41])]) else tokE x)
  | .bin op mode names l r => (if hasS l then (5, [40]) :: (tokE l ++ [(5, [41])]) else tokE l) ++ ((5, op.data.toList) :: (modeT mode wOn wIgn names ++ (if hasS r then (5, [40]) :: (tokE r ++ [(5, [41])]) else tokE r)))
  | .agg name n mode names x => (1, name.data.toList) :: (modeT mode wBy wWithout names ++ ((5, [40]) :: ((if numbB name.data.toList then [(2, decDigits n), (5, [44])] else []) ++ (tokE x ++ [(5, [41])]))))
  | .fn name x => (1, name.data.toList) :: (5, [40]) :: (tokE x ++ [(5, [41])])
  | .sel m n ms => (if m.size = 0 then [] else [(1, m.data.toList)]) ++ ((if m.size = 0 ∨ ms ≠ [] then (5, [123]) :: (tokMs ms ++ [(5, [125])]) else []) ++ (if 0 < n then [(5, [91]), (4, decDigits n), (5, [93])] else []))
def tokK (x : Ex) : List Tq := if hasS x then (5, [40]) :: (tokE x ++ [(5, [41])]) else tokE x

def Tz (l : List UInt8) (ws : List Tq) : Prop := toksL l = some ws
theorem tz_nil : Tz [] [] := by unfold Tz; decide +kernel
theorem tz_next {k : Nat} {t u : List UInt8} {ws : List Tq} (hF : Fine k t) (he : endsB k t u = true) (h : Tz u ws) : Tz (spellW (k, t) ++ u) ((k, t) :: ws) := by
  unfold Tz at h ⊢
  rw [toks_next hF he, h]; rfl
theorem tz_blank {u : List UInt8} {ws : List Tq} (h : Tz u ws) : Tz (32 :: u) ws := by
  unfold Tz at h ⊢
  rw [toks_blank 32 (by decide), h]
theorem tz_app {l u : List UInt8} {c : UInt8} {ws vs : List Tq} (hb : enderB c = true) (h : Tz l ws) (h2 : Tz (c :: u) vs) : Tz (l ++ c :: u) (ws ++ vs) := by
  unfold Tz at h h2 ⊢
  rw [toks_app c hb u h, h2]; rfl
def solos : List UInt8 := [40, 41, 44, 91, 93, 123, 125, 45]
theorem solo_sign : ∀ c ∈ solos, ∀ d, signB [c, d] = false := by
  intro c hc d
  unfold solos at hc
  simp only [List.mem_cons, List.not_mem_nil, or_false] at hc
  rcases hc with rfl | rfl | rfl | rfl | rfl | rfl | rfl | rfl <;> (unfold signB; simp [signs])
theorem solo_in : ∀ c ∈ solos, [c] ∈ signs := by decide
theorem tz_solo {c : UInt8} {u : List UInt8} {ws : List Tq} (hc : c ∈ solos) (h : Tz u ws) : Tz (c :: u) ((5, [c]) :: ws) := by
  refine tz_next (k := 5) (t := [c]) (fine_sign _ (solo_in c hc)) ?_ h
  unfold endsB
  cases u with
  | nil => rfl
  | cons d v => simp [solo_sign c hc d]
theorem low_ends {c : UInt8} {u : List UInt8} (k : Nat) (hk : k = 1 ∨ k = 2 ∨ k = 4) (t : List UInt8) (h : (decide (c.toNat < 128) && !wordy [c]) = true) : endsB k t (c :: u) = true := by
  unfold endsB
  rcases hk with rfl | rfl | rfl <;> simpa using h
def Ender (u : List UInt8) : Prop := ∃ c v, u = c :: v ∧ (decide (c.toNat < 128) && !wordy [c]) = true
theorem ender_of {c : UInt8} {v : List UInt8} (h : c ∈ ([40, 41, 44, 91, 93, 123, 125, 32, 34, 61, 33] : List UInt8)) : Ender (c :: v) := by
  refine ⟨c, v, rfl, ?_⟩
  have : ∀ c ∈ ([40, 41, 44, 91, 93, 123, 125, 32, 34, 61, 33] : List UInt8), (decide (c.toNat < 128) && !wordy [c]) = true := by decide +kernel
  exact this c h
theorem tz_word {x u : List UInt8} {ws : List Tq} (hF : Fine 1 x) (hu : u = [] ∨ Ender u) (h : Tz u ws) : Tz (x ++ u) ((1, x) :: ws) := by
  refine tz_next (k := 1) (t := x) hF ?_ h
  rcases hu with rfl | ⟨c, v, rfl, hc⟩
  · rfl
  · exact low_ends 1 (.inl rfl) x hc
theorem tz_num {n : Nat} {u : List UInt8} {ws : List Tq} (hn : n ≤ 1000000000000) (hu : u = [] ∨ Ender u) (h : Tz u ws) : Tz (decDigits n ++ u) ((2, decDigits n) :: ws) := by
  refine tz_next (k := 2) (t := decDigits n) (fine_number n hn) ?_ h
  rcases hu with rfl | ⟨c, v, rfl, hc⟩
  · rfl
  · exact low_ends 2 (.inr (.inl rfl)) _ hc
theorem tz_span {n : Nat} {u : List UInt8} {ws : List Tq} (hn : n ≤ 1000000000) (hu : u = [] ∨ Ender u) (h : Tz u ws) : Tz (decDigits n ++ 115 :: u) ((4, decDigits n) :: ws) := by
  have := tz_next (k := 4) (t := decDigits n) (fine_span n hn) (u := u) (by
    rcases hu with rfl | ⟨c, v, rfl, hc⟩
    · rfl
    · exact low_ends 4 (.inr (.inr rfl)) _ hc) h
  have e : spellW (4, decDigits n) ++ u = decDigits n ++ 115 :: u := by
    show (decDigits n ++ [115]) ++ u = _
    simp
  rw [e] at this; exact this
theorem tz_str {v u : List UInt8} {ws : List Tq} (h : Tz u ws) : Tz (quoteL v ++ u) ((3, v) :: ws) := by
  refine tz_next (k := 3) (t := v) (fine_string v) ?_ h
  cases u <;> rfl
theorem tz_op {P u : List UInt8} {ws : List Tq} (hP : P ∈ chainOps) (h : Tz (32 :: u) ws) : Tz (P ++ 32 :: u) ((5, P) :: ws) := by
  refine tz_next (k := 5) (t := P) (fine_sign P (chain_fine P hP)) ?_ h
  have : ∀ P ∈ chainOps, (decide (P.length ≠ 1) || !signB (P ++ [32])) = true := by decide
  exact this P hP
theorem tz_opm {k : Int} {u : List UInt8} {ws : List Tq} (hk : k = 1 ∨ k = 2 ∨ k = 3 ∨ k = 4) (h : Tz (34 :: u) ws) : Tz (signM k ++ 34 :: u) ((5, signM k) :: ws) := by
  have : ∀ P ∈ ([[61], [33, 61], [61, 126], [33, 126]] : List (List UInt8)), P ∈ signs ∧ (decide (P.length ≠ 1) || !signB (P ++ [34])) = true := by decide
  have hm : signM k ∈ ([[61], [33, 61], [61, 126], [33, 126]] : List (List UInt8)) := by
    rcases hk with rfl | rfl | rfl | rfl <;> decide
  exact tz_next (k := 5) (t := signM k) (fine_sign _ (this _ hm).1) (this _ hm).2 h
theorem quote_cons (v : List UInt8) : ∃ u, quoteL v = 34 :: u := by unfold quoteL; exact ⟨_, by simp; rfl⟩
theorem tz_mat {m : Mat} {u : List UInt8} {ws : List Tq} (hm : GoodM m) (h : Tz u ws) : Tz (oneM m ++ u) (tokM m ++ ws) := by
  have h1 := tz_str (v := m.2.2.data.toList) h
  obtain ⟨q, hq⟩ := quote_cons m.2.2.data.toList
  rw [hq, List.cons_append] at h1
  have h2 := tz_opm hm.2.2 h1
  have hE : Ender (signM m.2.1 ++ 34 :: (q ++ u)) := by
    rcases hm.2.2 with e | e | e | e <;> rw [e]
    · exact ender_of (c := 61) (by decide)
    · exact ender_of (c := 33) (by decide)
    · exact ender_of (c := 61) (by decide)
    · exact ender_of (c := 33) (by decide)
  have h3 := tz_word hm.1.1 (.inr hE) h2
  unfold oneM
  rw [hq]
  simpa [tokM, List.append_assoc] using h3
theorem tz_names {u : List UInt8} {ws : List Tq} (h : Tz u ws) : ∀ names : List ByteArray, GoodN names → Tz (commaN names ++ 41 :: u) (tokNs names ++ (5, [41]) :: ws)
  | [], _ => tz_solo (by decide) h
  | [x], hn => tz_word (hn x (by simp)).1 (.inr (ender_of (by decide))) (tz_solo (by decide) h)
  | x :: y :: l, hn => by
    have ih := tz_names h (y :: l) (fun z hz => hn z (by simp at hz ⊢; exact .inr hz))
    have h1 := tz_word (hn x (by simp)).1 (.inr (ender_of (c := 44) (by decide))) (tz_solo (c := 44) (by decide) ih)
    simpa [commaN, tokNs] using h1
theorem tz_mats {u : List UInt8} {ws : List Tq} (h : Tz u ws) : ∀ ms : List Mat, GoodMs ms → Tz (commaM ms ++ 125 :: u) (tokMs ms ++ (5, [125]) :: ws)
  | [], _ => tz_solo (by decide) h
  | [x], hn => tz_mat (hn x (by simp)) (tz_solo (by decide) h)
  | x :: y :: l, hn => by
    have ih := tz_mats h (y :: l) (fun z hz => hn z (by simp at hz ⊢; exact .inr hz))
    have h1 := tz_mat (hn x (by simp)) (tz_solo (c := 44) (by decide) ih)
    simpa [commaM, tokMs] using h1
theorem tz_kid {x : Ex} (h : Tz (nodeL x) (tokE x)) : Tz (kidL x) (tokK x) := by
  unfold kidL tokK
  split
  · exact toks_brackets h
  · exact h
theorem tz_mode {mode : Nat} {names : List ByteArray} {a b u : List UInt8} {ws : List Tq} (hm : Mode mode names) (ha : Fine 1 a) (hb : Fine 1 b) (h : Tz u ws) :
    Tz ((if mode = 1 ∨ mode = 2 then 32 :: (modeW mode a b ++ (40 :: (commaN names ++ [41]))) else []) ++ u) (modeT mode a b names ++ ws) := by
  unfold modeT
  split
  · rename_i hc
    have h1 := tz_solo (c := 40) (by decide) (tz_names h names hm.2.2.1)
    have hf : Fine 1 (modeW mode a b) := by
      unfold modeW
      rcases hc with rfl | rfl
      · exact ha
      · exact hb
    have h2 := tz_blank (tz_word hf (.inr (ender_of (by decide))) h1)
    simpa using h2
  · exact h
theorem tz_mode2 {mode : Nat} {names : List ByteArray} {a b u : List UInt8} {ws : List Tq} (hm : Mode mode names) (ha : Fine 1 a) (hb : Fine 1 b) (h : Tz u ws) :
    Tz ((if mode = 1 ∨ mode = 2 then 32 :: (modeW mode a b ++ ([32, 40] ++ (commaN names ++ [41, 32]))) else []) ++ u) (modeT mode a b names ++ ws) := by
  unfold modeT
  split
  · rename_i hc
    have h1 := tz_solo (c := 40) (by decide) (tz_names (tz_blank h) names hm.2.2.1)
    have hf : Fine 1 (modeW mode a b) := by
      unfold modeW
      rcases hc with rfl | rfl
      · exact ha
      · exact hb
    have h2 := tz_blank (tz_word hf (.inr (ender_of (c := 32) (by decide))) (tz_blank h1))
    simpa using h2
  · exact h
theorem fine_words : ∀ w ∈ ([wOn, wIgn, wBy, wWithout, wOrder, wLimit, wOffset, wAsc, wDesc] : List (List UInt8)), Fine 1 w := by
  unfold Fine; decide +kernel
theorem fine_agg {s : List UInt8} (h : aggB s = true) : Fine 1 s := by
  have : ∀ w ∈ ([[115, 117, 109], [109, 105, 110], [109, 97, 120], [99, 111, 117, 110, 116], [97, 118, 103], [116, 111, 112, 107], [113, 117, 97, 110, 116, 105, 108, 101]] : List (List UInt8)), Fine 1 w := by
    unfold Fine; decide +kernel
  unfold aggB numbB at h
  simp only [Bool.or_eq_true, beq_iff_eq] at h
  refine this s ?_
  rcases h with ((((h | h) | h) | h) | h) | h | h <;> subst h <;> simp
theorem fine_fn {s : List UInt8} (h : fnS s = true) : Fine 1 s := by
  have : ∀ w ∈ ([[115, 117, 109, 95, 111, 118, 101, 114], [109, 105, 110, 95, 111, 118, 101, 114], [109, 97, 120, 95, 111, 118, 101, 114], [99, 111, 117, 110, 116, 95, 111, 118, 101, 114], [97, 118, 103, 95, 111, 118, 101, 114], [108, 97, 115, 116, 95, 111, 118, 101, 114], [105, 110, 99, 114, 101, 97, 115, 101], [114, 97, 116, 101]] : List (List UInt8)), Fine 1 w := by
    unfold Fine; decide +kernel
  unfold fnS at h
  simp only [Bool.or_eq_true, beq_iff_eq] at h
  refine this s ?_
  rcases h with ((((((h | h) | h) | h) | h) | h) | h) | h <;> subst h <;> simp
theorem tz_close {x : Ex} (h : Tz (nodeL x) (tokE x)) : Tz (nodeL x ++ [41]) (tokE x ++ [(5, [41])]) :=
  tz_app (ender_all 41 (by decide)) h (tz_solo (by decide) tz_nil)
theorem size_zero {m : ByteArray} : m.size = 0 ↔ m.data.toList = [] := by
  rw [Lib.size_eq, List.length_eq_zero_iff]
theorem tz_window {n : Nat} (hn : n ≤ 1000000000) : Tz (if 0 < n then 91 :: (decDigits n ++ [115, 93]) else []) (if 0 < n then [(5, [91]), (4, decDigits n), (5, [93])] else []) := by
  split
  · exact tz_solo (by decide) (tz_span hn (.inr (ender_of (by decide))) (tz_solo (by decide) tz_nil))
  · exact tz_nil
theorem tz_node : ∀ x : Ex, Good x → Tz (nodeL x) (tokE x)
  | .num n, h => by
    have := tz_num (u := []) h (.inl rfl) tz_nil
    rw [List.append_nil] at this; exact this
  | .neg x, h => tz_solo (by decide) (tz_kid (tz_node x h))
  | .bin op mode names l r, h => by
    have h1 := tz_kid (tz_node l h.2.2.1)
    have h2 := tz_kid (tz_node r h.2.2.2)
    have h3 := tz_mode h.2.1 (fine_words wOn (by simp)) (fine_words wIgn (by simp)) (tz_blank h2)
    obtain ⟨v, hv⟩ : ∃ v, (if mode = 1 ∨ mode = 2 then 32 :: (modeW mode wOn wIgn ++ (40 :: (commaN names ++ [41]))) else []) ++ 32 :: kidL r = 32 :: v := by
      split
      · exact ⟨_, rfl⟩
      · exact ⟨_, rfl⟩
    rw [hv] at h3
    have h4 := tz_app (c := 32) (ender_all 32 (by decide)) h1 (tz_blank (tz_op h.1 h3))
    rw [← hv] at h4
    exact h4
  | .agg name n mode names x, h => by
    have h1 := tz_close (tz_node x h.2.2.2.2)
    have h2 : Tz ((if numbB name.data.toList then decDigits n ++ [44] else []) ++ (nodeL x ++ [41])) ((if numbB name.data.toList then [(2, decDigits n), (5, [44])] else []) ++ (tokE x ++ [(5, [41])])) := by
      split
      · have := tz_num (n := n) h.2.1 (.inr (ender_of (c := 44) (by decide))) (tz_solo (c := 44) (by decide) h1)
        simpa using this
      · exact h1
    have h3 := tz_mode2 h.2.2.2.1 (fine_words wBy (by simp)) (fine_words wWithout (by simp)) (tz_solo (c := 40) (by decide) h2)
    refine tz_word (fine_agg h.1) (.inr ?_) h3
    split
    · exact ender_of (by decide)
    · exact ender_of (by decide)
  | .fn name x, h => tz_word (fine_fn h.1) (.inr (ender_of (by decide))) (tz_solo (by decide) (tz_close (tz_node x h.2)))
  | .sel m n ms, h => by
    have hw := tz_window h.2.1
    obtain ⟨W, hW⟩ : ∃ W, (if 0 < n then 91 :: (decDigits n ++ [115, 93]) else []) = W := ⟨_, rfl⟩
    have hWE : W = [] ∨ Ender W := by
      rw [← hW]; split
      · exact .inr (ender_of (by decide))
      · exact .inl rfl
    have hb : Tz ((if m.size = 0 ∨ ms ≠ [] then 123 :: (commaM ms ++ [125]) else []) ++ W) ((if m.size = 0 ∨ ms ≠ [] then (5, [123]) :: (tokMs ms ++ [(5, [125])]) else []) ++ (if 0 < n then [(5, [91]), (4, decDigits n), (5, [93])] else [])) := by
      rw [hW] at hw
      split
      · have := tz_solo (c := 123) (by decide) (tz_mats hw ms h.2.2.2)
        simpa using this
      · exact hw
    show Tz (m.data.toList ++ (_ ++ (if 0 < n then 91 :: (decDigits n ++ [115, 93]) else []))) ((if m.size = 0 then [] else [(1, m.data.toList)]) ++ _)
    rw [hW]
    by_cases hm : m.size = 0
    · rw [size_zero.1 hm, if_pos hm]
      exact hb
    · rw [if_neg hm]
      have hf : Fine 1 m.data.toList := by
        rcases h.1 with e | e
        · exact absurd (size_zero.2 e) hm
        · exact e.1.1
      refine tz_word hf ?_ hb
      split
      · exact .inr (ender_of (by decide))
      · exact hWE
/-! ### how long it is -/
theorem commaN_len : ∀ l : List ByteArray, GoodN l → (commaN l).length ≤ l.length * 1001
  | [], _ => by simp [commaN]
  | [x], h => by have := (h x (by simp)).2; simp only [commaN, List.length_cons, List.length_nil]; omega
  | x :: y :: l, h => by
    have h1 := (h x (by simp)).2
    have h2 := commaN_len (y :: l) (fun z hz => h z (by simp at hz ⊢; exact .inr hz))
    simp only [commaN, List.length_append, List.length_cons] at h2 ⊢
    omega
theorem signM_len (k : Int) : (signM k).length ≤ 2 := by unfold signM; split <;> (try split) <;> (try split) <;> (try split) <;> simp
theorem chunk_wide5 (t : List UInt8) (hne : t ≠ []) : (chunkQ t).length ≤ 4 * wideL t := by
  have hw := wide_pos t
  have hh : (head t).length = wideL t := by unfold head; rw [List.length_take]; have := wide_le hne; unfold wideL at this ⊢; omega
  rcases chunk_kinds t hne with ⟨_, e, _⟩ | ⟨_, e, _⟩ | ⟨_, e, _⟩ | ⟨_, _, e, _⟩ | ⟨_, _, e, e2⟩
  all_goals rw [e]
  all_goals first | (simp; omega) | (rw [← e2, hh]; omega)
theorem body_wide5 (l : List UInt8) : (bodyQ l).length ≤ 4 * l.length := by
  induction l using sufs_induct with
  | h0 => simp [bodyQ, sufs_nil]
  | h1 l hne ih =>
    have hc := chunk_wide5 l hne
    have hw := wide_le hne
    rw [bodyQ_step l hne, List.length_append]
    rw [List.length_drop] at ih
    unfold wideL at hc hw
    omega

theorem quote_len5 (l : List UInt8) : (quoteL l).length ≤ 5 * l.length + 2 := by
  have h := body_wide5 l
  unfold quoteL
  simp; omega
theorem oneM_len {m : Mat} (h : GoodM m) : (oneM m).length ≤ 6010 := by
  have h1 := h.1.2
  have h2 := h.2.1
  have h3 := signM_len m.2.1
  have h4 := quote_len5 m.2.2.data.toList
  unfold oneM
  simp only [List.length_append]
  omega
theorem commaM_len : ∀ l : List Mat, GoodMs l → (commaM l).length ≤ l.length * 6011
  | [], _ => by simp [commaM]
  | [x], h => by have := oneM_len (h x (by simp)); simp only [commaM, List.length_cons, List.length_nil]; omega
  | x :: y :: l, h => by
    have h1 := oneM_len (h x (by simp))
    have h2 := commaM_len (y :: l) (fun z hz => h z (by simp at hz ⊢; exact .inr hz))
    simp only [commaM, List.length_append, List.length_cons] at h2 ⊢
    omega
theorem agg_len {s : List UInt8} (h : aggB s = true) : s.length ≤ 8 := by
  unfold aggB numbB at h
  simp only [Bool.or_eq_true, beq_iff_eq] at h
  rcases h with ((((h | h) | h) | h) | h) | h | h <;> subst h <;> decide
theorem fn_len {s : List UInt8} (h : fnS s = true) : s.length ≤ 10 := by
  unfold fnS at h
  simp only [Bool.or_eq_true, beq_iff_eq] at h
  rcases h with ((((((h | h) | h) | h) | h) | h) | h) | h <;> subst h <;> decide
theorem kid_len (x : Ex) : (kidL x).length ≤ (nodeL x).length + 2 := by
  unfold kidL; split
  · simp
  · omega
theorem modeW_len (mode : Nat) (a b : List UInt8) (ha : a.length ≤ 8) (hb : b.length ≤ 8) : (modeW mode a b).length ≤ 8 := by
  unfold modeW; split
  · exact ha
  · split
    · exact hb
    · simp
theorem op_len {s : List UInt8} (h : s ∈ chainOps) : s.length ≤ 2 := by
  have : ∀ s ∈ chainOps, s.length ≤ 2 := by decide
  exact this s h
theorem node_len : ∀ x : Ex, Good x → (nodeL x).length ≤ countE x * 1100000000
  | .num n, h => by
    have := dec_len n 13 (by have h : n ≤ 1000000000000 := h; omega) (by decide)
    show (decDigits n).length ≤ 1 * 1100000000
    omega
  | .neg x, h => by
    have h1 := node_len x h
    have h2 := kid_len x
    show (45 :: kidL x).length ≤ (countE x + 1) * 1100000000
    simp only [List.length_cons]; omega
  | .bin op mode names l r, h => by
    have h1 := node_len l h.2.2.1
    have h2 := node_len r h.2.2.2
    have h3 := kid_len l
    have h4 := kid_len r
    have h5 := op_len h.1
    have h6 := commaN_len names h.2.1.2.2.1
    have h7 := h.2.1.2.2.2
    have h8 := modeW_len mode wOn wIgn (by decide) (by decide)
    have h9 : (if mode = 1 ∨ mode = 2 then 32 :: (modeW mode wOn wIgn ++ (40 :: (commaN names ++ [41]))) else []).length ≤ 1001000012 := by
      split
      · simp only [List.length_cons, List.length_append, List.length_nil]; omega
      · simp
    show (kidL l ++ (32 :: (op.data.toList ++ ((if mode = 1 ∨ mode = 2 then 32 :: (modeW mode wOn wIgn ++ (40 :: (commaN names ++ [41]))) else []) ++ (32 :: kidL r))))).length ≤ (countE l + countE r + 1) * 1100000000
    simp only [List.length_cons, List.length_append]; omega
  | .agg name n mode names x, h => by
    have h1 := node_len x h.2.2.2.2
    have h5 := agg_len h.1
    have h6 := commaN_len names h.2.2.2.1.2.2.1
    have h7 := h.2.2.2.1.2.2.2
    have h8 := modeW_len mode wBy wWithout (by decide) (by decide)
    have h9 : (if mode = 1 ∨ mode = 2 then 32 :: (modeW mode wBy wWithout ++ ([32, 40] ++ (commaN names ++ [41, 32]))) else []).length ≤ 1001000015 := by
      split
      · simp only [List.length_cons, List.length_append, List.length_nil]; omega
      · simp
    have h10 := dec_len n 13 (by have := h.2.1; omega) (by decide)
    have h11 : (if numbB name.data.toList then decDigits n ++ [44] else []).length ≤ 14 := by
      split
      · simp only [List.length_append, List.length_cons, List.length_nil]; omega
      · simp
    show (name.data.toList ++ ((if mode = 1 ∨ mode = 2 then 32 :: (modeW mode wBy wWithout ++ ([32, 40] ++ (commaN names ++ [41, 32]))) else []) ++ (40 :: ((if numbB name.data.toList then decDigits n ++ [44] else []) ++ (nodeL x ++ [41]))))).length ≤ (countE x + 1) * 1100000000
    simp only [List.length_cons, List.length_append, List.length_nil]; omega
  | .fn name x, h => by
    have h1 := node_len x h.2
    have h5 := fn_len h.1
    show (name.data.toList ++ (40 :: (nodeL x ++ [41]))).length ≤ (countE x + 1) * 1100000000
    simp only [List.length_cons, List.length_append, List.length_nil]; omega
  | .sel m n ms, h => by
    have h1 : m.data.toList.length ≤ 1000 := by
      rcases h.1 with e | e
      · rw [e]; simp
      · exact e.1.2
    have h2 := commaM_len ms h.2.2.2
    have h3 : ms.length ≤ 10 := by have h1 := h.2.2.1; unfold matsB at h1; simp at h1; exact h1.1
    have h4 := dec_len n 13 (by have := h.2.1; omega) (by decide)
    have h5 : (if m.size = 0 ∨ ms ≠ [] then 123 :: (commaM ms ++ [125]) else []).length ≤ 60112 := by
      split
      · simp only [List.length_cons, List.length_append, List.length_nil]; omega
      · simp
    have h6 : (if 0 < n then 91 :: (decDigits n ++ [115, 93]) else []).length ≤ 16 := by
      split
      · simp only [List.length_cons, List.length_append, List.length_nil]; omega
      · simp
    show (m.data.toList ++ ((if m.size = 0 ∨ ms ≠ [] then 123 :: (commaM ms ++ [125]) else []) ++ (if 0 < n then 91 :: (decDigits n ++ [115, 93]) else []))).length ≤ 1 * 1100000000
    simp only [List.length_append]; omega
end Go.Proofs.YtddglepimbfdkaaGreatDoor.Par
end

section
/- Plain: what is written is read again (parse). No program in it. -/

namespace Go.Proofs.YtddglepimbfdkaaGreatDoor.Par
open Go.Lib
open Go.Proofs.YtddglepimbfdkaaGreatDoor.Sto

/-- Nothing that belongs to a part goes on. -/
def Half (r : List Tq) : Prop := isT 5 [123] r = false ∧ isT 5 [91] r = false
theorem Stop.half {r : List Tq} (h : Stop r) : Half r := ⟨h.brace, h.square⟩
theorem isT_sign (k : Nat) (t u : List UInt8) (r : List Tq) : isT k t ((k, u) :: r) = (u == t) := by simp [isT]

/-! ### lists -/
theorem listGo_names (r : List Tq) : ∀ (names : List ByteArray) (acc : List ByteArray) (n : Nat), names ≠ [] → (tokNs names).length < n → listGo nameP [41] n (tokNs names ++ (5, [41]) :: r) acc = some (acc ++ names, r)
  | [], _, _, h, _ => absurd rfl h
  | [x], acc, n + 1, _, _ => by
    rw [listGo]
    have e : nameP (tokNs [x] ++ (5, [41]) :: r) = some (bz x.data.toList, (5, [41]) :: r) := rfl
    rw [e]
    dsimp only
    rw [if_neg (by simp [isT]), if_pos (by simp [isT]), bz_of]; rfl
  | x :: y :: l, acc, n + 1, _, hn => by
    rw [listGo]
    have e : nameP (tokNs (x :: y :: l) ++ (5, [41]) :: r) = some (bz x.data.toList, (5, [44]) :: (tokNs (y :: l) ++ (5, [41]) :: r)) := rfl
    rw [e]
    dsimp only
    rw [if_pos (by simp [isT]), List.tail_cons, listGo_names r (y :: l) _ n (by simp) (by simp [tokNs] at hn ⊢; omega), bz_of]
    simp
theorem tokNs_stop (names : List ByteArray) (r : List Tq) (h : names ≠ []) : isT 5 [41] (tokNs names ++ (5, [41]) :: r) = false := by
  cases names with
  | nil => exact absurd rfl h
  | cons x l => cases l <;> simp [tokNs, isT]
theorem listP_names (names : List ByteArray) (r : List Tq) : listP nameP [41] (tokNs names ++ (5, [41]) :: r) = some (names, r) := by
  unfold listP
  by_cases h : names = []
  · subst h; rfl
  · rw [tokNs_stop names r h, if_neg (by simp), listGo_names r names [] _ h (by simp; omega)]; simp
theorem opS_sign {k : Int} (hk : k = 1 ∨ k = 2 ∨ k = 3 ∨ k = 4) : (opS (signM k) : Int) = k ∧ opS (signM k) ≠ 0 := by
  rcases hk with rfl | rfl | rfl | rfl <;> decide
theorem matP_tok {m : Mat} (hm : GoodM m) (r : List Tq) : matP (tokM m ++ r) = some (m, r) := by
  obtain ⟨h1, h2⟩ := opS_sign hm.2.2
  have e : matP (tokM m ++ r) = if (1 : Nat) = 1 ∧ (5 : Nat) = 5 ∧ opS (signM m.2.1) ≠ 0 ∧ (3 : Nat) = 3 then some ((bz m.1.data.toList, (opS (signM m.2.1) : Int), bz m.2.2.data.toList), r) else none := rfl
  rw [e, if_pos ⟨rfl, rfl, h2, rfl⟩, h1, bz_of, bz_of]
theorem listGo_mats (r : List Tq) : ∀ (ms : List Mat) (acc : List Mat) (n : Nat), ms ≠ [] → GoodMs ms → (tokMs ms).length < n → listGo matP [125] n (tokMs ms ++ (5, [125]) :: r) acc = some (acc ++ ms, r)
  | [], _, _, h, _, _ => absurd rfl h
  | [x], acc, n + 1, _, hg, _ => by
    rw [listGo, show tokMs [x] = tokM x from rfl, matP_tok (hg x (by simp))]
    dsimp only
    rw [if_neg (by simp [isT]), if_pos (by simp [isT])]; rfl
  | x :: y :: l, acc, n + 1, _, hg, hn => by
    rw [listGo, show tokMs (x :: y :: l) ++ (5, [125]) :: r = tokM x ++ ((5, [44]) :: (tokMs (y :: l) ++ (5, [125]) :: r)) by simp [tokMs], matP_tok (hg x (by simp))]
    dsimp only
    rw [if_pos (by simp [isT]), List.tail_cons, listGo_mats r (y :: l) _ n (by simp) (fun z hz => hg z (by simp at hz ⊢; exact .inr hz)) (by simp [tokMs] at hn ⊢; omega)]
    simp
theorem tokMs_stop (ms : List Mat) (r : List Tq) (h : ms ≠ []) : isT 5 [125] (tokMs ms ++ (5, [125]) :: r) = false := by
  cases ms with
  | nil => exact absurd rfl h
  | cons x l => cases l <;> simp [tokMs, tokM, isT]
theorem listP_mats (ms : List Mat) (hg : GoodMs ms) (r : List Tq) : listP matP [125] (tokMs ms ++ (5, [125]) :: r) = some (ms, r) := by
  unfold listP
  by_cases h : ms = []
  · subst h; rfl
  · rw [tokMs_stop ms r h, if_neg (by simp), listGo_mats r ms [] _ h hg (by simp; omega)]; simp
theorem modeP_tok {mode : Nat} {names : List ByteArray} (hm : Mode mode names) (a b : List UInt8) (hab : (a == b) = false) (r : List Tq) (h1 : isT 1 a r = false) (h2 : isT 1 b r = false) : modeP a b (modeT mode a b names ++ r) = some ((mode, names), r) := by
  have h012 : mode = 0 ∨ mode = 1 ∨ mode = 2 := by have := hm.1; omega
  unfold modeT
  rcases h012 with rfl | rfl | rfl
  · rw [if_neg (by omega), hm.2.1 rfl]
    unfold modeP
    rw [List.nil_append, h1, h2]; rfl
  · rw [if_pos (.inl rfl)]
    unfold modeP
    have e : ((1, modeW 1 a b) :: (5, [40]) :: (tokNs names ++ [(5, [41])])) ++ r = (1, a) :: (5, [40]) :: (tokNs names ++ (5, [41]) :: r) := by simp [modeW]
    rw [e, if_pos (by simp [isT]), if_pos (show isT 5 [40] (List.tail ((1, a) :: (5, [40]) :: (tokNs names ++ (5, [41]) :: r))) = true by simp [isT])]
    show (listP nameP [41] (tokNs names ++ (5, [41]) :: r)).map _ = _
    rw [listP_names]; rfl
  · rw [if_pos (.inr rfl)]
    unfold modeP
    have e : ((1, modeW 2 a b) :: (5, [40]) :: (tokNs names ++ [(5, [41])])) ++ r = (1, b) :: (5, [40]) :: (tokNs names ++ (5, [41]) :: r) := by simp [modeW]
    have hba : (b == a) = false := by
      cases h : b == a with
      | false => rfl
      | true => rw [eq_of_beq h] at hab; simp at hab
    rw [e, if_neg (by rw [isT_sign, hba]; simp), if_pos (by simp [isT]), if_pos (show isT 5 [40] (List.tail ((1, b) :: (5, [40]) :: (tokNs names ++ (5, [41]) :: r))) = true by simp [isT])]
    show (listP nameP [41] (tokNs names ++ (5, [41]) :: r)).map _ = _
    rw [listP_names]; rfl
theorem windowP_tok {n : Nat} (r : List Tq) (hr : isT 5 [91] r = false) : windowP ((if 0 < n then [(5, [91]), (4, decDigits n), (5, [93])] else []) ++ r) = some (n, r) := by
  unfold windowP
  by_cases h : 0 < n
  · rw [if_pos h]
    have e : numP 4 ((4, decDigits n) :: (5, [93]) :: r) = some (valL (decDigits n), (5, [93]) :: r) := rfl
    rw [val_dec] at e
    rw [show ([(5, [91]), (4, decDigits n), (5, [93])] : List Tq) ++ r = (5, [91]) :: (4, decDigits n) :: (5, [93]) :: r from rfl, if_pos (by simp [isT])]
    simp only [List.tail_cons, e]
    rw [if_pos (by simp [isT])]
  · rw [if_neg h, List.nil_append, hr, if_neg (by simp), show n = 0 by omega]
theorem selP_tok {m : ByteArray} {n : Nat} {ms : List Mat} (hms : matsB ms = true) (hg : GoodMs ms) (r : List Tq) (hr : Half r) (named : Bool) (hn : named = decide (m.size ≠ 0)) :
    selP m.data.toList named ((if m.size = 0 ∨ ms ≠ [] then (5, [123]) :: (tokMs ms ++ [(5, [125])]) else []) ++ (if 0 < n then [(5, [91]), (4, decDigits n), (5, [93])] else []) ++ r) = some (.sel m n ms, r) := by
  have hb : bracesP named ((if m.size = 0 ∨ ms ≠ [] then (5, [123]) :: (tokMs ms ++ [(5, [125])]) else []) ++ ((if 0 < n then [(5, [91]), (4, decDigits n), (5, [93])] else []) ++ r)) = some (ms, (if 0 < n then [(5, [91]), (4, decDigits n), (5, [93])] else []) ++ r) := by
    unfold bracesP
    by_cases hc : m.size = 0 ∨ ms ≠ []
    · rw [if_pos hc, show ((5, [123]) :: (tokMs ms ++ [(5, [125])])) ++ ((if 0 < n then [(5, [91]), (4, decDigits n), (5, [93])] else []) ++ r) = (5, [123]) :: (tokMs ms ++ (5, [125]) :: ((if 0 < n then [(5, [91]), (4, decDigits n), (5, [93])] else []) ++ r)) by simp, if_pos (by simp [isT]), List.tail_cons, listP_mats ms hg]
    · rw [if_neg hc, List.nil_append]
      have h0 : isT 5 [123] ((if 0 < n then [(5, [91]), (4, decDigits n), (5, [93])] else []) ++ r) = false := by
        split
        · simp [isT]
        · exact hr.1
      have hm0 : m.size ≠ 0 := fun e => hc (.inl e)
      have hms0 : ms = [] := Classical.byContradiction fun e => hc (.inr e)
      rw [h0, if_neg (by simp), hn, if_pos (by simp [hm0]), hms0]
  unfold selP
  rw [List.append_assoc, hb]
  dsimp only
  rw [if_pos hms, windowP_tok r hr.2]
  show some (Ex.sel (bz m.data.toList) n ms, r) = _
  rw [bz_of]

/-! ### parts -/
/-- A part that stands closed is read. -/
def PrimR (l : List Tq) (x : Ex) : Prop := ∀ (r : List Tq) (n : Nat), Half r → 9 * l.length ≤ n → primGo n (l ++ r) = some (x, r)
/-- A whole part is read. -/
def ChainR (l : List Tq) (x : Ex) : Prop := ∀ (r : List Tq) (n : Nat), Stop r → 9 * l.length + 5 ≤ n → chainGo n 1 (l ++ r) = some (x, r)
theorem half_close (r : List Tq) : Half ((5, [41]) :: r) := ⟨by simp [isT], by simp [isT]⟩
theorem closedR {l : List Tq} {x : Ex} (h : ChainR l x) (r : List Tq) (n : Nat) (hn : 9 * l.length + 6 ≤ n) : closedGo n (l ++ (5, [41]) :: r) = some (x, r) := by
  obtain ⟨n, rfl⟩ : ∃ k, n = k + 1 := ⟨n - 1, by omega⟩
  rw [closedGo, h _ n (stop_close r) (by omega)]
  dsimp only
  rw [if_pos (by simp [isT])]; rfl
theorem brackR {l : List Tq} {x : Ex} (h : ChainR l x) : PrimR ((5, [40]) :: (l ++ [(5, [41])])) x := by
  intro r n _ hn
  obtain ⟨n, rfl⟩ : ∃ k, n = k + 1 := ⟨n - 1, by simp at hn; omega⟩
  rw [show ((5, [40]) :: (l ++ [(5, [41])])) ++ r = (5, [40]) :: (l ++ (5, [41]) :: r) by simp, primGo, if_pos (by simp [isT]), closedR h r n (by simp at hn; omega)]
theorem at_level {n : Nat} {l : List Tq} (hu : isT 5 [45] l = false) {x : Ex} {m : List Tq} (hp : primGo n l = some (x, m)) {t : Nat} (ht : 2 ≤ t) (ht4 : t ≤ 4) (hl : ∀ t', t ≤ t' → t' ≤ 3 → levelT m ≠ t') : chainGo (n + 6 - t) t l = some (x, m) := by
  have h4 : chainGo (n + 2) 4 l = some (x, m) := by
    rw [chainGo, if_pos (by decide), unaryGo, if_neg (by rw [hu]; simp), hp]
  have : t = 4 ∨ t = 3 ∨ t = 2 := by omega
  rcases this with rfl | rfl | rfl
  · exact h4
  · show chainGo (n + 3) 3 l = _
    rw [chainGo, if_neg (by decide), h4]; exact rest_end (hl 3 (by omega) (by omega))
  · have h3 : chainGo (n + 3) 3 l = some (x, m) := by
      rw [chainGo, if_neg (by decide), h4]; exact rest_end (hl 3 (by omega) (by omega))
    show chainGo (n + 4) 2 l = _
    rw [chainGo, if_neg (by decide), h3]; exact rest_end (hl 2 (by omega) (by omega))
/-- No part begins with a sign that is ahead of it, closed. -/
theorem tokK_head (x : Ex) (r : List Tq) : isT 5 [45] (tokK x ++ r) = false ∧ (tokK x).length ≠ 0 := by
  cases x with
  | num n => exact ⟨by simp [tokK, tokE, hasS, isT], by simp [tokK, tokE, hasS]⟩
  | neg x => exact ⟨by simp [tokK, hasS, isT], by simp [tokK, hasS]⟩
  | bin op mode names l r' => exact ⟨by simp [tokK, hasS, isT], by simp [tokK, hasS]⟩
  | agg name n mode names x => exact ⟨by simp [tokK, tokE, hasS, isT], by simp [tokK, tokE, hasS]⟩
  | fn name x => exact ⟨by simp [tokK, tokE, hasS, isT], by simp [tokK, tokE, hasS]⟩
  | sel m n ms =>
    by_cases hm : m.size = 0
    · exact ⟨by simp [tokK, tokE, hasS, isT, hm], by simp [tokK, tokE, hasS, hm]⟩
    · exact ⟨by simp [tokK, tokE, hasS, isT, hm], by simp [tokK, tokE, hasS, hm]⟩
theorem fn_not_agg {s : List UInt8} (h : fnS s = true) : aggB s = false := by
  unfold fnS at h
  simp only [Bool.or_eq_true, beq_iff_eq] at h
  rcases h with ((((((h | h) | h) | h) | h) | h) | h) | h <;> subst h <;> decide
theorem level_of {P : List UInt8} (hP : P ∈ chainOps) (r : List Tq) : levelT ((5, P) :: r) = levelS P ∧ 1 ≤ levelS P ∧ levelS P ≤ 3 ∧ Half ((5, P) :: r) := by
  have : ∀ P ∈ chainOps, 1 ≤ levelS P ∧ levelS P ≤ 3 ∧ (P == [123]) = false ∧ (P == [91]) = false := by decide
  obtain ⟨h1, h2, h3, h4⟩ := this P hP
  exact ⟨rfl, h1, h2, by rw [isT_sign]; exact h3, by rw [isT_sign]; exact h4⟩
theorem not_word {k : Nat} (hk : k ≠ 1) (t u : List UInt8) (r : List Tq) : isT 1 t ((k, u) :: r) = false := by
  simp [isT, hk]
theorem tokK_word (x : Ex) (hx : Good x) (w : List UInt8) (hw : resB w = true) (r : List Tq) : isT 1 w (tokK x ++ r) = false := by
  have hagg : aggB w = false := by
    unfold resB at hw; simp only [Bool.or_eq_true, beq_iff_eq] at hw
    rcases hw with (((((((h | h) | h) | h) | h) | h) | h) | h) | h <;> subst h <;> decide
  have hfn : fnS w = false := by
    unfold resB at hw; simp only [Bool.or_eq_true, beq_iff_eq] at hw
    rcases hw with (((((((h | h) | h) | h) | h) | h) | h) | h) | h <;> subst h <;> decide
  cases x with
  | num n => simp [tokK, tokE, hasS, isT]
  | neg x => simp [tokK, hasS, isT]
  | bin op mode names l r' => simp [tokK, hasS, isT]
  | agg name n mode names x =>
    have e : isT 1 w (tokK (.agg name n mode names x) ++ r) = (name.data.toList == w) := by simp [tokK, tokE, hasS, isT]
    rw [e]
    cases h : name.data.toList == w with
    | false => rfl
    | true => rw [← eq_of_beq h, hx.1] at hagg; cases hagg
  | fn name x =>
    have e : isT 1 w (tokK (.fn name x) ++ r) = (name.data.toList == w) := by simp [tokK, tokE, hasS, isT]
    rw [e]
    cases h : name.data.toList == w with
    | false => rfl
    | true => rw [← eq_of_beq h, hx.1] at hfn; cases hfn
  | sel m n ms =>
    by_cases hm : m.size = 0
    · simp [tokK, tokE, hasS, isT, hm]
    · have e : isT 1 w (tokK (.sel m n ms) ++ r) = (m.data.toList == w) := by simp [tokK, tokE, hasS, isT, hm]
      rw [e]
      cases h : m.data.toList == w with
      | false => rfl
      | true =>
        rcases hx.1 with e | e
        · exact absurd (size_zero.2 e) hm
        · have := e.2.2.2; rw [eq_of_beq h, hw] at this; cases this
/-- A part that has no sign of its own is read where it is closed. -/
theorem up_prim {x : Ex} (hs : hasS x = false) (h : PrimR (tokE x) x) : ChainR (tokE x) x := by
  intro r n hr hn
  have hk : tokK x = tokE x := by unfold tokK; rw [hs]; rfl
  have hd := tokK_head x r
  rw [hk] at hd
  have hp := h r (n - 5) hr.half (by omega)
  have := prim_up hd.1 x r hp hr.level
  rwa [show n - 5 + 5 = n by omega] at this
theorem kidR {x : Ex} (h : ChainR (tokE x) x) (h2 : hasS x = false → PrimR (tokE x) x) : PrimR (tokK x) x := by
  unfold tokK
  cases hs : hasS x with
  | true => exact brackR h
  | false => exact h2 hs
theorem stop_lv {r : List Tq} (h : Stop r) (t : Nat) (ht : 1 ≤ t) : levelT r ≠ t := by rw [h.level]; omega

theorem binR {op : ByteArray} {mode : Nat} {names : List ByteArray} {l r : Ex} (hop : op.data.toList ∈ chainOps) (hm : Mode mode names) (gr : Good r) (hl : PrimR (tokK l) l) (hr : PrimR (tokK r) r) : ChainR (tokE (.bin op mode names l r)) (.bin op mode names l r) := by
  intro u n hu hn
  have e : tokE (.bin op mode names l r) ++ u = tokK l ++ ((5, op.data.toList) :: (modeT mode wOn wIgn names ++ (tokK r ++ u))) := by
    show (tokK l ++ ((5, op.data.toList) :: (modeT mode wOn wIgn names ++ tokK r))) ++ u = _
    simp
  have hlen : (tokE (.bin op mode names l r)).length = (tokK l).length + (1 + ((modeT mode wOn wIgn names).length + (tokK r).length)) := by
    show (tokK l ++ ((5, op.data.toList) :: (modeT mode wOn wIgn names ++ tokK r))).length = _
    simp; omega
  rw [hlen] at hn
  rw [e]
  obtain ⟨lv, l1, l3, hh⟩ := level_of hop (modeT mode wOn wIgn names ++ (tokK r ++ u))
  have hmo : modeP wOn wIgn (modeT mode wOn wIgn names ++ (tokK r ++ u)) = some ((mode, names), tokK r ++ u) :=
    modeP_tok hm wOn wIgn (by decide) _ (tokK_word r gr wOn (by decide) u) (tokK_word r gr wIgn (by decide) u)
  generalize hq : levelS op.data.toList = t at lv l1 l3
  -- from the level above: the left one, the sign, the right one
  have key : ∀ k, 9 * ((tokK l).length + (1 + ((modeT mode wOn wIgn names).length + (tokK r).length))) + 1 ≤ k → chainGo (k + 1) t (tokK l ++ ((5, op.data.toList) :: (modeT mode wOn wIgn names ++ (tokK r ++ u)))) = some (.bin op mode names l r, u) := by
    intro k hk
    have h1 : chainGo k (t + 1) (tokK l ++ ((5, op.data.toList) :: (modeT mode wOn wIgn names ++ (tokK r ++ u)))) = some (l, (5, op.data.toList) :: (modeT mode wOn wIgn names ++ (tokK r ++ u))) := by
      have hp := hl ((5, op.data.toList) :: (modeT mode wOn wIgn names ++ (tokK r ++ u))) (k + (t + 1) - 6) hh (by have := (tokK_head l []).2; omega)
      have := at_level (tokK_head l _).1 hp (t := t + 1) (by omega) (by omega) (fun t' a b => by rw [lv]; omega)
      rwa [show k + (t + 1) - 6 + 6 - (t + 1) = k by omega] at this
    rw [chainGo, if_neg (by omega), h1]
    dsimp only
    obtain ⟨k, rfl⟩ : ∃ j, k = j + 2 := ⟨k - 2, by omega⟩
    rw [restGo, if_pos lv, binGo, hmo]
    dsimp only
    have h2 : chainGo k (t + 1) (tokK r ++ u) = some (r, u) := by
      have hp := hr u (k + (t + 1) - 6) hu.half (by have := (tokK_head l []).2; omega)
      have := at_level (tokK_head r u).1 hp (t := t + 1) (by omega) (by omega) (fun t' a b => stop_lv hu t' (by omega))
      rwa [show k + (t + 1) - 6 + 6 - (t + 1) = k by omega] at this
    rw [h2]
    dsimp only
    rw [bz_of]
    exact rest_end (stop_lv hu t l1)
  have : t = 1 ∨ t = 2 ∨ t = 3 := by omega
  rcases this with rfl | rfl | rfl
  · have := key (n - 1) (by omega)
    rwa [show n - 1 + 1 = n by omega] at this
  · have h2 := key (n - 2) (by omega)
    obtain ⟨n, rfl⟩ : ∃ j, n = j + 3 := ⟨n - 3, by omega⟩
    rw [chainGo, if_neg (by decide), show n + 2 = n + 3 - 2 + 1 by omega, h2]
    dsimp only
    exact rest_end (stop_lv hu 1 (by decide))
  · have h3 := key (n - 3) (by omega)
    obtain ⟨n, rfl⟩ : ∃ j, n = j + 4 := ⟨n - 4, by omega⟩
    rw [chainGo, if_neg (by decide), chainGo, if_neg (by decide), show n + 2 = n + 4 - 3 + 1 by omega, h3]
    dsimp only
    rw [show n + 4 - 3 + 1 = (n + 1) + 1 by omega, rest_end (stop_lv hu 2 (by decide))]
    exact rest_end (stop_lv hu 1 (by decide))
theorem node_read : ∀ x : Ex, Good x → ChainR (tokE x) x ∧ (hasS x = false → PrimR (tokE x) x)
  | .num n, h => by
    have hp : PrimR (tokE (.num n)) (.num n) := by
      intro r k _ hk
      obtain ⟨k, rfl⟩ : ∃ j, k = j + 1 := ⟨k - 1, by simp [tokE] at hk; omega⟩
      show primGo (k + 1) ((2, decDigits n) :: r) = _
      rw [primGo, if_neg (by simp [isT]), if_pos rfl, val_dec]
    exact ⟨up_prim rfl hp, fun _ => hp⟩
  | .neg x, h => by
    obtain ⟨h1, h2⟩ := node_read x h
    have hk := kidR h1 h2
    refine ⟨?_, fun e => by cases e⟩
    intro r n hr hn
    have hlen : (tokE (.neg x)).length = (tokK x).length + 1 := rfl
    rw [hlen] at hn
    show chainGo n 1 ((5, [45]) :: (tokK x ++ r)) = _
    obtain ⟨n, rfl⟩ : ∃ j, n = j + 6 := ⟨n - 6, by have := (tokK_head x []).2; omega⟩
    have hu : unaryGo (n + 2) ((5, [45]) :: (tokK x ++ r)) = some (.neg x, r) := by
      rw [unaryGo, if_pos (by simp [isT]), List.tail_cons, unaryGo, if_neg (by rw [(tokK_head x r).1]; simp), hk r n hr.half (by omega)]
    have h4 : chainGo (n + 3) 4 ((5, [45]) :: (tokK x ++ r)) = some (.neg x, r) := by rw [chainGo, if_pos (by decide), hu]
    have h3 : chainGo (n + 4) 3 ((5, [45]) :: (tokK x ++ r)) = some (.neg x, r) := by rw [chainGo, if_neg (by decide), h4]; exact rest_end (stop_lv hr 3 (by decide))
    have h2 : chainGo (n + 5) 2 ((5, [45]) :: (tokK x ++ r)) = some (.neg x, r) := by rw [chainGo, if_neg (by decide), h3]; exact rest_end (stop_lv hr 2 (by decide))
    rw [chainGo, if_neg (by decide), h2]; exact rest_end (stop_lv hr 1 (by decide))
  | .bin op mode names l r, h => by
    obtain ⟨a1, a2⟩ := node_read l h.2.2.1
    obtain ⟨b1, b2⟩ := node_read r h.2.2.2
    exact ⟨binR h.1 h.2.1 h.2.2.2 (kidR a1 a2) (kidR b1 b2), fun e => by cases e⟩
  | .agg name n mode names x, h => by
    obtain ⟨h1, h2⟩ := node_read x h.2.2.2.2
    have hp : PrimR (tokE (.agg name n mode names x)) (.agg name n mode names x) := by
      intro r k _ hk
      have hlen : (tokE (.agg name n mode names x)).length = 1 + ((modeT mode wBy wWithout names).length + (1 + ((if numbB name.data.toList then [(2, decDigits n), (5, [44])] else [] : List Tq).length + ((tokE x).length + 1)))) := by
        simp [tokE]; omega
      rw [hlen] at hk
      obtain ⟨k, rfl⟩ : ∃ j, k = j + 2 := ⟨k - 2, by omega⟩
      have e : tokE (.agg name n mode names x) ++ r = (1, name.data.toList) :: (modeT mode wBy wWithout names ++ ((5, [40]) :: ((if numbB name.data.toList then [(2, decDigits n), (5, [44])] else []) ++ (tokE x ++ (5, [41]) :: r)))) := by simp [tokE]
      have hmo := modeP_tok h.2.2.2.1 wBy wWithout (by decide) ((5, [40]) :: ((if numbB name.data.toList then [(2, decDigits n), (5, [44])] else []) ++ (tokE x ++ (5, [41]) :: r))) (not_word (by decide) _ _ _) (not_word (by decide) _ _ _)
      have hnp : aggNP name.data.toList ((if numbB name.data.toList then [(2, decDigits n), (5, [44])] else []) ++ (tokE x ++ (5, [41]) :: r)) = some (n, tokE x ++ (5, [41]) :: r) := by
        unfold aggNP
        cases hb : numbB name.data.toList with
        | true =>
          have e : numP 2 ((2, decDigits n) :: (5, [44]) :: (tokE x ++ (5, [41]) :: r)) = some (valL (decDigits n), (5, [44]) :: (tokE x ++ (5, [41]) :: r)) := rfl
          rw [val_dec] at e
          rw [if_pos rfl, if_pos rfl, show ([(2, decDigits n), (5, [44])] : List Tq) ++ (tokE x ++ (5, [41]) :: r) = (2, decDigits n) :: (5, [44]) :: (tokE x ++ (5, [41]) :: r) from rfl, e]
          dsimp only
          rw [if_pos (by simp [isT])]; rfl
        | false => rw [if_neg (by simp), if_neg (by simp), List.nil_append, h.2.2.1 hb]
      rw [e, primGo, if_neg (by simp [isT]), if_neg (by simp), if_pos rfl, if_pos h.1, aggGo, hmo]
      dsimp only
      rw [if_pos (by simp [isT]), List.tail_cons, hnp]
      dsimp only
      rw [closedR h1 r k (by omega), bz_of]
    exact ⟨up_prim rfl hp, fun _ => hp⟩
  | .fn name x, h => by
    obtain ⟨h1, h2⟩ := node_read x h.2
    have hp : PrimR (tokE (.fn name x)) (.fn name x) := by
      intro r k _ hk
      have hlen : (tokE (.fn name x)).length = (tokE x).length + 3 := by simp [tokE]
      rw [hlen] at hk
      obtain ⟨k, rfl⟩ : ∃ j, k = j + 2 := ⟨k - 2, by omega⟩
      have e : tokE (.fn name x) ++ r = (1, name.data.toList) :: (5, [40]) :: (tokE x ++ (5, [41]) :: r) := by simp [tokE]
      rw [e, primGo, if_neg (by simp [isT]), if_neg (by simp), if_pos rfl, if_neg (by rw [fn_not_agg h.1]; simp), if_pos h.1, fnGo, if_pos (by simp [isT]), List.tail_cons, closedR h1 r k (by omega), bz_of]
    exact ⟨up_prim rfl hp, fun _ => hp⟩
  | .sel m n ms, h => by
    have hp : PrimR (tokE (.sel m n ms)) (.sel m n ms) := by
      intro r k hr hk
      by_cases hm : m.size = 0
      · have hl : tokE (.sel m n ms) = (if m.size = 0 ∨ ms ≠ [] then (5, [123]) :: (tokMs ms ++ [(5, [125])]) else []) ++ (if 0 < n then [(5, [91]), (4, decDigits n), (5, [93])] else []) := by
          show (if m.size = 0 then [] else [(1, m.data.toList)]) ++ _ = _
          rw [if_pos hm]; rfl
        have hs := selP_tok (m := m) (n := n) h.2.2.1 h.2.2.2 r hr false (by simp [hm])
        rw [← hl] at hs
        have hc : ∃ v, tokE (.sel m n ms) ++ r = (5, [123]) :: v := by
          rw [hl, if_pos (.inl hm)]; exact ⟨_, by simp; rfl⟩
        obtain ⟨v, hv⟩ := hc
        have hlen := congrArg List.length hv
        obtain ⟨k, rfl⟩ : ∃ j, k = j + 1 := ⟨k - 1, by
          have : 0 < (tokE (.sel m n ms)).length := by rw [hl, if_pos (.inl hm)]; simp
          omega⟩
        rw [hv] at hs ⊢
        rw [size_zero.1 hm] at hs
        rw [primGo, if_neg (by simp [isT]), if_neg (by decide), if_neg (by decide)]
        exact hs
      · have hl : tokE (.sel m n ms) = (1, m.data.toList) :: ((if m.size = 0 ∨ ms ≠ [] then (5, [123]) :: (tokMs ms ++ [(5, [125])]) else []) ++ (if 0 < n then [(5, [91]), (4, decDigits n), (5, [93])] else [])) := by
          show (if m.size = 0 then [] else [(1, m.data.toList)]) ++ _ = _
          rw [if_neg hm]; rfl
        have hs := selP_tok (m := m) (n := n) h.2.2.1 h.2.2.2 r hr true (by simp [hm])
        rw [hl] at hk ⊢
        obtain ⟨k, rfl⟩ : ∃ j, k = j + 1 := ⟨k - 1, by simp at hk; omega⟩
        rcases h.1 with e | e
        · exact absurd (size_zero.2 e) hm
        · rw [List.cons_append, primGo, if_neg (by simp [isT]), if_neg (by simp), if_pos rfl, if_neg (by rw [e.2.1]; simp), if_neg (by rw [e.2.2.1]; simp), if_neg (by rw [e.2.2.2]; simp)]
          exact hs
    exact ⟨up_prim rfl hp, fun _ => hp⟩

/-! ### whole queries -/
theorem print_toks {q : Qr} (h : GoodQ q) : Tz (printL q) (tokE q.root ++ (tailO q.order ++ (tailR wLimit q.limit ++ tailR wOffset q.offset))) := by
  have h1 := tz_node q.root h.1
  have h2 := toks_gap (toks_o q.order) ((gap_r _ _).app (gap_r _ _)) (toks_gap (toks_limit q.limit (by have := h.2.2.1.2; omega)) (gap_r _ _) (toks_offset q.offset (by have := h.2.2.2.1.2; omega)))
  exact toks_gap h1 ((gap_o _).app ((gap_r _ _).app (gap_r _ _))) h2
/-- What is written is read again as it was. -/
theorem print_read {q : Qr} (h : GoodQ q) : readL (printL q) = some q := by
  obtain ⟨x, o, a, b⟩ := q
  obtain ⟨g, ho, ha, hb, hc⟩ := h
  dsimp only at g ho ha hb hc
  rw [readL_toks, show toksL (printL ⟨x, o, a, b⟩) = _ from print_toks (q := ⟨x, o, a, b⟩) ⟨g, ho, ha, hb, hc⟩]
  show readW _ = _
  have hst : Stop (tailO o ++ (tailR wLimit a ++ tailR wOffset b)) := stop_o o _ (stop_r _ a _ (by have := stop_r wOffset b [] stop_nil; rwa [List.append_nil] at this))
  have h3 := (node_read x g).1 _ (9 * (tokE x ++ (tailO o ++ (tailR wLimit a ++ tailR wOffset b))).length + 9) hst (by simp; omega)
  rw [readW_of_chain h3 (Nat.le_refl _) hc]
  have h6 := tails_parts x o ho a b ha.1 hb.1 [] (order_off _ (by decide) a _ (order_off _ (by decide) b _ rfl)) rfl rfl
  rw [List.append_nil] at h6
  rw [h6, if_neg (by omega)]; rfl
theorem print_inj {p q : Qr} (hp : GoodQ p) (hq : GoodQ q) : printL p = printL q ↔ p = q := by
  constructor
  · intro e
    have h1 := print_read hp
    rw [e, print_read hq] at h1
    exact (Option.some.inj h1).symm
  · rintro rfl; rfl
end Go.Proofs.YtddglepimbfdkaaGreatDoor.Par
end
