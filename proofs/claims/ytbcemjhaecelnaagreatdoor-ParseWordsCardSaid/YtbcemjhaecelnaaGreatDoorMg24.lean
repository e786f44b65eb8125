import Derived.Test.YtbcemjhaecelnaaGreatDoorMg15
section
section
namespace Go.Proofs.YtbcemjhaecelnaaGreatDoor.Par
open Go.Lib
open Go.Proofs.YtbcemjhaecelnaaGreatDoor.Sto
def ziQ (s : Tq) : Prop := Fine s.1 s.2 /\ s.2.length <= 1000
def za3 (l : List Tq) : Prop := l.length <= 1000000 /\ ∀ s ∈ l, ziQ s
def zhM (x : ByteArray) : Prop := Fine 1 x.data.toList /\ x.data.toList.length <= 1000
def ziR (l : List ByteArray) : Prop := ∀ x ∈ l, zhM x
def ziy (m : Mat) : Prop := zhM m.1 /\ m.2.2.data.toList.length <= 1000 /\ (m.2.1 = 1 \/ m.2.1 = 2 \/ m.2.1 = 3 \/ m.2.1 = 4)
def zi6 (l : List Mat) : Prop := ∀ x ∈ l, ziy x
def Mode (mode : Nat) (names : List ByteArray) : Prop := mode <= 2 /\ (mode = 0 -> names = []) /\ ziR names /\ names.length <= 1000000
def zhN (m : List UInt8) : Prop := (Fine 1 m /\ m.length <= 1000) /\ aggB m = false /\ fnS m = false /\ resB m = false
def Good : Ex -> Prop
 | .num n => n <= 1000000000000
 | .neg x => Good x
 | .bin op mode names l r => op.data.toList ∈ zcL /\ Mode mode names /\ Good l /\ Good r
 | .agg name n mode names x => aggB name.data.toList = true /\ n <= 1000000000000 /\ (zdv name.data.toList = false -> n = 0) /\ Mode mode names /\ Good x
 | .fn name x => fnS name.data.toList = true /\ Good x
 | .sel m n ms => (m.data.toList = [] \/ zhN m.data.toList) /\ n <= 1000000000 /\ zbt ms = true /\ zi6 ms
theorem za3.tail {l : List Tq} (h : za3 l) : za3 l.tail := ⟨by have := h.1; simp; omega, fun s hs => h.2 s (List.mem_of_mem_tail hs)⟩
theorem za3.cons {x : Tq} {l : List Tq} (h : za3 (x :: l)) : ziQ x /\ za3 l := ⟨h.2 x (by simp), by have := h.1; simp at this; omega, fun s hs => h.2 s (by simp [hs])⟩
theorem ge_four (a b : Nat) : (if (4 : Nat) = 4 then a else b) = a := rfl
theorem zi7 (a b : Nat) : (if (2 : Nat) = 4 then a else b) = b := rfl
theorem zhh {k : Nat} {t : List UInt8} (hF : Fine k t) (hk : k = 2 \/ k = 4) : ∃ v, v <= (if k = 4 then 1000000000 else 1000000000000) /\ t = decDigits v := by
 obtain ⟨h, _, _⟩ := hF
 generalize zeW (k, t) = l at h
 unfold zam at h
 split at h
 ·split at h
  ·injection h with h; injection h with h1 _; omega
  ·cases h
 ·split at h
  ·unfold numL at h
   split at h
   ·cases h
   ·split at h
    ·injection h with h; injection h with h1 h; injection h with h2 _
     subst h1; exact ⟨_, by simp; omega, h2.symm⟩
    ·split at h
     ·cases h
     ·injection h with h; injection h with h1 h; injection h with h2 _
      subst h1; exact ⟨_, by simp; omega, h2.symm⟩
  ·split at h
   ·split at h
    ·injection h with h; injection h with h1 _; omega
    ·cases h
   ·unfold zc5 at h
    split at h
    ·injection h with h; injection h with h1 _; omega
    ·split at h
     ·injection h with h; injection h with h1 _; omega
     ·cases h
theorem zgk {k : Nat} (hk : k = 2 \/ k = 4) {l : List Tq} {n : Nat} {m : List Tq} (hl : za3 l) (h : numP k l = some (n, m)) : n <= (if k = 4 then 1000000000 else 1000000000000) /\ za3 m := by
 cases l with
 | nil => cases h
 | cons y t =>
   change (if y.1 = k then some (valL y.2, t) else none) = _ at h
   split at h
   ·rename_i hy
    injection h with h; injection h with h1 h; subst h; subst h1
    obtain ⟨hy2, ht⟩ := hl.cons
    have hy2 := hy2.1
    rw [hy] at hy2
    obtain ⟨v, hv, e⟩ := zhh hy2 hk
    rw [e, zcZ]; exact ⟨hv, ht⟩
   ·cases h
theorem nameP_good {l : List Tq} {x : ByteArray} {m : List Tq} (hl : za3 l) (h : zaZ l = some (x, m)) : zhM x /\ za3 m := by
 cases l with
 | nil => cases h
 | cons y t =>
   change (if y.1 = 1 then some (bz y.2, t) else none) = _ at h
   split at h
   ·rename_i hy
    injection h with h; injection h with h1 h; subst h; subst h1
    obtain ⟨hy2, ht⟩ := hl.cons
    obtain ⟨hy2, hy3⟩ := hy2
    rw [hy] at hy2
    exact ⟨⟨hy2, hy3⟩, ht⟩
   ·cases h
theorem opS_cases {s : List UInt8} (h : opS s ≠ 0) : (opS s : Int) = 1 \/ (opS s : Int) = 2 \/ (opS s : Int) = 3 \/ (opS s : Int) = 4 := by
 unfold opS at h ⊢
 split
 ·exact .inl rfl
 ·split
  ·exact .inr (.inl rfl)
  ·split
   ·exact .inr (.inr (.inl rfl))
   ·split
    ·exact .inr (.inr (.inr rfl))
    ·rename_i h1 h2 h3 h4
     rw [if_neg h1, if_neg h2, if_neg h3, if_neg h4] at h; exact absurd rfl h
theorem matP_good {l : List Tq} {x : Mat} {m : List Tq} (hl : za3 l) (h : matP l = some (x, m)) : ziy x /\ za3 m := by
 match l, h with
 | a :: b :: c :: t, h =>
   change (if a.1 = 1 /\ b.1 = 5 /\ opS b.2 ≠ 0 /\ c.1 = 3 then some ((bz a.2, (opS b.2 : Int), bz c.2), t) else none) = _ at h
   split at h
   ·rename_i hc
    injection h with h; injection h with h1 h; subst h; subst h1
    obtain ⟨ha, ha2⟩ := (hl.cons).1
    rw [hc.1] at ha
    have hcv := (hl.2 c (by simp)).2
    exact ⟨⟨⟨ha, ha2⟩, hcv, opS_cases hc.2.2.1⟩, by have := hl.1; simp at this; omega, fun s hs => hl.2 s (by simp [hs])⟩
   ·cases h
theorem zfe {α : Type} {one : List Tq -> Option (α × List Tq)} {stop : List UInt8} (h1 : ∀ l x m, one l = some (x, m) -> m.length < l.length) : ∀ (n : Nat) (l : List Tq) (acc xs : List α) (m : List Tq), zaE one stop n l acc = some (xs, m) -> xs.length <= acc.length + l.length
 | 0, _, _, _, _, h => by simp [zaE] at h
 | n + 1, l, acc, xs, m, h => by
   rw [zaE] at h
   split at h
   ·cases h
   ·rename_i x k hk
    have hl := h1 _ _ _ hk
    split at h
    ·have := zfe h1 n _ _ _ _ h
     simp at this; omega
    ·split at h
     ·injection h with h; injection h with h2 h; subst h2
      simp; omega
     ·cases h
theorem listP_len {α : Type} {one : List Tq -> Option (α × List Tq)} {stop : List UInt8} (h1 : ∀ l x m, one l = some (x, m) -> m.length < l.length) {l : List Tq} {xs : List α} {m : List Tq} (h : zbe one stop l = some (xs, m)) : xs.length <= l.length := by
 unfold zbe at h
 split at h
 ·injection h with h; injection h with h2 h; subst h2
  exact Nat.zero_le _
 ·have := zfe h1 _ _ _ _ _ h
  simpa using this
theorem ze6 {α : Type} {one : List Tq -> Option (α × List Tq)} {stop : List UInt8} {G : α -> Prop} (h1 : ∀ l x m, za3 l -> one l = some (x, m) -> G x /\ za3 m) : ∀ (n : Nat) (l : List Tq) (acc xs : List α) (m : List Tq), za3 l -> (∀ x ∈ acc, G x) -> zaE one stop n l acc = some (xs, m) -> (∀ x ∈ xs, G x) /\ za3 m
 | 0, _, _, _, _, _, _, h => by simp [zaE] at h
 | n + 1, l, acc, xs, m, hl, ha, h => by
   rw [zaE] at h
   split at h
   ·cases h
   ·rename_i x k hk
    obtain ⟨g1, g2⟩ := h1 _ _ _ hl hk
    have ha2 : ∀ y ∈ acc ++ [x], G y := by
     intro y hy
     rcases List.mem_append.1 hy with hy | hy
     ·exact ha y hy
     ·simp at hy; subst hy; exact g1
    split at h
    ·exact ze6 h1 n _ _ _ _ g2.tail ha2 h
    ·split at h
     ·injection h with h; injection h with h2 h; subst h; subst h2
      exact ⟨ha2, g2.tail⟩
     ·cases h
theorem zff {α : Type} {one : List Tq -> Option (α × List Tq)} {stop : List UInt8} {G : α -> Prop} (h1 : ∀ l x m, za3 l -> one l = some (x, m) -> G x /\ za3 m) {l : List Tq} {xs : List α} {m : List Tq} (hl : za3 l) (h : zbe one stop l = some (xs, m)) : (∀ x ∈ xs, G x) /\ za3 m := by
 unfold zbe at h
 split at h
 ·injection h with h; injection h with h2 h; subst h; subst h2
  exact ⟨fun x hx => by simp at hx, hl.tail⟩
 ·exact ze6 h1 _ _ _ _ _ hl (fun x hx => by simp at hx) h
theorem nameP_word (l : List Tq) (x : ByteArray) (m : List Tq) (hl : za3 l) (h : zaZ l = some (x, m)) : zhM x /\ za3 m := nameP_good hl h
theorem matP_word (l : List Tq) (x : Mat) (m : List Tq) (hl : za3 l) (h : matP l = some (x, m)) : ziy x /\ za3 m := matP_good hl h
theorem names_good {l : List Tq} {xs : List ByteArray} {m : List Tq} (hl : za3 l) (h : zbe zaZ [41] l = some (xs, m)) : (ziR xs /\ xs.length <= 1000000) /\ za3 m := by
 have h1 := zff (G := zhM) nameP_word hl h
 have h2 := listP_len zfA h
 exact ⟨⟨h1.1, Nat.le_trans h2 hl.1⟩, h1.2⟩
theorem zfg {a b : List UInt8} {l : List Tq} {p : Nat × List ByteArray} {m : List Tq} (hl : za3 l) (h : zbu a b l = some (p, m)) : Mode p.1 p.2 /\ za3 m := by
 unfold zbu at h
 have key : ∀ (c : Nat), c = 1 \/ c = 2 -> ((zbe zaZ [41] l.tail.tail).map fun p => ((c, p.1), p.2)) = some (p, m) -> Mode p.1 p.2 /\ za3 m := by
  intro c hc h
  cases hx : zbe zaZ [41] l.tail.tail with
  | none => rw [hx] at h; cases h
  | some q =>
    rw [hx] at h
    injection h with h; injection h with h1 h; subst h; subst h1
    obtain ⟨⟨g1, h3⟩, g2⟩ := names_good hl.tail.tail (xs := q.1) (m := q.2) hx
    have h1 : c <= 2 := by omega
    have h2 : c = 0 -> q.1 = [] := fun e => by omega
    exact And.intro (And.intro h1 (And.intro h2 (And.intro g1 h3))) g2
 split at h
 ·split at h
  ·exact key 1 (.inl rfl) h
  ·cases h
 ·split at h
  ·split at h
   ·exact key 2 (.inr rfl) h
   ·cases h
  ·injection h with h; injection h with h1 h; subst h; subst h1
   exact ⟨⟨Nat.zero_le _, fun _ => rfl, fun x hx => (by simp at hx), Nat.zero_le _⟩, hl⟩
theorem windowP_good {l : List Tq} {n : Nat} {m : List Tq} (hl : za3 l) (h : za4 l = some (n, m)) : n <= 1000000000 /\ za3 m := by
 unfold za4 at h
 split at h
 ·split at h
  ·cases h
  ·rename_i k t hk
   obtain ⟨g1, g2⟩ := zgk (.inr rfl) hl.tail hk
   split at h
   ·injection h with h; injection h with h1 h; subst h; subst h1
    rw [ge_four] at g1
    exact ⟨g1, g2.tail⟩
   ·cases h
 ·injection h with h; injection h with h1 h; subst h; subst h1
  exact ⟨Nat.zero_le _, hl⟩
theorem bracesP_good {b : Bool} {l : List Tq} {ms : List Mat} {m : List Tq} (hl : za3 l) (h : zb0 b l = some (ms, m)) : zi6 ms /\ za3 m := by
 unfold zb0 at h
 split at h
 ·exact zff (G := ziy) matP_word hl.tail h
 ·split at h
  ·injection h with h; injection h with h1 h; subst h; subst h1
   exact ⟨fun x hx => by simp at hx, hl⟩
  ·cases h
theorem zgl {t : List UInt8} {b : Bool} {l : List Tq} {x : Ex} {m : List Tq} (ht : t = [] \/ zhN t) (hl : za3 l) (h : selP t b l = some (x, m)) : Good x /\ za3 m := by
 unfold selP at h
 split at h
 ·cases h
 ·rename_i ms k hk
  obtain ⟨g1, g2⟩ := bracesP_good hl hk
  split at h
  ·rename_i hb
   cases hx : za4 k with
   | none => rw [hx] at h; cases h
   | some q =>
     rw [hx] at h
     injection h with h; injection h with h1 h; subst h; subst h1
     obtain ⟨g3, g4⟩ := windowP_good (n := q.1) (m := q.2) g2 hx
     exact ⟨⟨ht, g3, hb, g1⟩, g4⟩
  ·cases h
theorem aggNP_good {t : List UInt8} {l : List Tq} {n : Nat} {m : List Tq} (hl : za3 l) (h : zdD t l = some (n, m)) : n <= 1000000000000 /\ (zdv t = false -> n = 0) /\ za3 m := by
 unfold zdD at h
 split at h
 ·rename_i hb
  split at h
  ·cases h
  ·rename_i k t hk
   obtain ⟨g1, g2⟩ := zgk (.inl rfl) hl hk
   split at h
   ·injection h with h; injection h with h1 h; subst h; subst h1
    rw [zi7] at g1
    exact ⟨g1, fun e => (by rw [hb] at e; cases e), g2.tail⟩
   ·cases h
 ·injection h with h; injection h with h1 h; subst h; subst h1
  exact ⟨Nat.zero_le _, fun _ => rfl, hl⟩
theorem level_ops {s : List UInt8} (h : levelS s ≠ 0) : s ∈ zcL := by
 unfold levelS cmpS at h
 split at h
 ·rename_i hc
  simp only [Bool.or_eq_true, beq_iff_eq] at hc
  unfold zcL
  rcases hc with ((((hc | hc) | hc) | hc) | hc) | hc <;> subst hc <;> simp
 ·split at h
  ·rename_i hc
   simp only [Bool.or_eq_true, beq_iff_eq] at hc
   unfold zcL
   rcases hc with hc | hc <;> subst hc <;> simp
  ·split at h
   ·rename_i hc
    simp only [Bool.or_eq_true, beq_iff_eq] at hc
    unfold zcL
    rcases hc with (hc | hc) | hc <;> subst hc <;> simp
   ·exact absurd rfl h
theorem zhO : ∀ (n : Nat),
 (∀ t l x m, 1 <= t -> za3 l -> chainGo n t l = some (x, m) -> Good x /\ za3 m) /\
 (∀ t y l x m, 1 <= t -> Good y -> za3 l -> zbi n t y l = some (x, m) -> Good x /\ za3 m) /\
 (∀ t y l x m, 1 <= t -> levelT l = t -> Good y -> za3 l -> zbP n t y l = some (x, m) -> Good x /\ za3 m) /\
 (∀ l x m, za3 l -> zat n l = some (x, m) -> Good x /\ za3 m) /\
 (∀ l x m, za3 l -> zaz n l = some (x, m) -> Good x /\ za3 m) /\
 (∀ l x m, za3 l -> zan n l = some (x, m) -> Good x /\ za3 m) /\
 (∀ s l x m, aggB s = true -> za3 l -> zbj n s l = some (x, m) -> Good x /\ za3 m) /\
 (∀ s l x m, fnS s = true -> za3 l -> fnGo n s l = some (x, m) -> Good x /\ za3 m)
 | 0 => ⟨fun _ _ _ _ _ _ h => by simp [chainGo] at h, fun _ _ _ _ _ _ _ _ h => by simp [zbi] at h, fun _ _ _ _ _ _ _ _ _ h => by simp [zbP] at h, fun _ _ _ _ h => by simp [zat] at h, fun _ _ _ _ h => by simp [zaz] at h, fun _ _ _ _ h => by simp [zan] at h, fun _ _ _ _ _ _ h => by simp [zbj] at h, fun _ _ _ _ _ _ h => by simp [fnGo] at h⟩
 | n + 1 => by
   obtain ⟨i1, i2, i3, i4, i5, i6, i7, i8⟩ := zhO n
   refine ⟨?_, ?_, ?_, ?_, ?_, ?_, ?_, ?_⟩
   ·intro t l x m ht hl h
    rw [chainGo] at h
    split at h
    ·exact i4 _ _ _ hl h
    ·split at h
     ·cases h
     ·rename_i y k hk
      obtain ⟨g1, g2⟩ := i1 _ _ _ _ (by omega) hl hk
      exact i2 _ _ _ _ _ ht g1 g2 h
   ·intro t y l x m ht hy hl h
    rw [zbi] at h
    split at h
    ·rename_i hlv
     split at h
     ·cases h
     ·rename_i z k hk
      obtain ⟨g1, g2⟩ := i3 _ _ _ _ _ ht hlv hy hl hk
      exact i2 _ _ _ _ _ ht g1 g2 h
    ·injection h with h; injection h with h1 h; subst h; subst h1; exact ⟨hy, hl⟩
   ·intro t y l x m ht hlv hy hl h
    cases l with
    | nil => simp [zbP] at h
    | cons s l =>
      rw [zbP] at h
      split at h
      ·cases h
      ·rename_i mode names k hk
       obtain ⟨g1, g2⟩ := zfg hl.cons.2 hk
       split at h
       ·cases h
       ·rename_i z j hj
        obtain ⟨g3, g4⟩ := i1 _ _ _ _ (by omega) g2 hj
        injection h with h; injection h with h1 h; subst h; subst h1
        refine ⟨⟨?_, g1, hy, g3⟩, g4⟩
        show s.2 ∈ zcL
        refine level_ops fun e => ?_
        have : levelT (s :: l) = if s.1 = 5 then levelS s.2 else 0 := rfl
        rw [e] at this
        have : levelT (s :: l) = 0 := by rw [this]; split <;> rfl
        omega
   ·intro l x m hl h
    rw [zat] at h
    split at h
    ·split at h
     ·cases h
     ·rename_i y k hk
      obtain ⟨g1, g2⟩ := i4 _ _ _ hl.tail hk
      injection h with h; injection h with h1 h; subst h; subst h1
      exact ⟨g1, g2⟩
    ·exact i5 _ _ _ hl h
   ·intro l x m hl h
    cases l with
    | nil => simp [zaz] at h
    | cons s l =>
      obtain ⟨⟨hs, hs2⟩, hl2⟩ := hl.cons
      rw [zaz] at h
      split at h
      ·exact i6 _ _ _ hl2 h
      ·split at h
       ·rename_i hk
        injection h with h; injection h with h1 h; subst h; subst h1
        rw [hk] at hs
        obtain ⟨v, hv, e⟩ := zhh hs (.inl rfl)
        refine ⟨?_, hl2⟩
        show valL s.2 <= _
        rw [zi7] at hv
        rw [e, zcZ]; exact hv
       ·split at h
        ·rename_i hk
         rw [hk] at hs
         split at h
         ·rename_i ha; exact i7 _ _ _ _ ha hl2 h
         ·split at h
          ·rename_i hf; exact i8 _ _ _ _ hf hl2 h
          ·split at h
           ·cases h
           ·rename_i a b c
            exact zgl (.inr ⟨⟨hs, hs2⟩, by simpa using a, by simpa using b, by simpa using c⟩) hl2 h
        ·exact zgl (.inl rfl) hl h
   ·intro l x m hl h
    rw [zan] at h
    split at h
    ·cases h
    ·rename_i y k hk
     obtain ⟨g1, g2⟩ := i1 _ _ _ _ (Nat.le_refl _) hl hk
     split at h
     ·injection h with h; injection h with h1 h; subst h; subst h1
      exact ⟨g1, g2.tail⟩
     ·cases h
   ·intro s l x m hs hl h
    rw [zbj] at h
    split at h
    ·cases h
    ·rename_i mode names k hk
     obtain ⟨g1, g2⟩ := zfg hl hk
     split at h
     ·split at h
      ·cases h
      ·rename_i j k2 hk2
       obtain ⟨g3, g4, g5⟩ := aggNP_good g2.tail hk2
       split at h
       ·cases h
       ·rename_i z k3 hk3
        obtain ⟨g6, g7⟩ := i6 _ _ _ g5 hk3
        injection h with h; injection h with h1 h; subst h; subst h1
        exact ⟨⟨hs, g3, g4, g1, g6⟩, g7⟩
     ·cases h
   ·intro s l x m hs hl h
    rw [fnGo] at h
    split at h
    ·split at h
     ·cases h
     ·rename_i z k3 hk3
      obtain ⟨g6, g7⟩ := i6 _ _ _ hl.tail hk3
      injection h with h; injection h with h1 h; subst h; subst h1
      exact ⟨⟨hs, g6⟩, g7⟩
    ·cases h
def ziS (q : Qr) : Prop := Good q.root /\ q.order <= 2 /\ (-1 <= q.limit /\ q.limit <= 2000) /\ (-1 <= q.offset /\ q.offset <= 2000) /\ countE q.root <= 200
theorem order_le {l m : List Tq} {o : Nat} (h : zbE l = some (o, m)) : o <= 2 := by
 unfold zbE at h
 split at h
 ·split at h
  ·injection h with h; injection h with h _; omega
  ·split at h
   ·injection h with h; injection h with h _; omega
   ·cases h
 ·injection h with h; injection h with h _; omega
theorem zhP {w : List UInt8} {l m : List Tq} {a : Int} (h : zcC w l = some (a, m)) : -1 <= a /\ a <= 2000 := by
 unfold zcC at h
 split at h
 ·split at h
  ·cases h
  ·split at h
   ·injection h with h; injection h with h _; omega
   ·cases h
 ·injection h with h; injection h with h _; omega
theorem readW_good {l : List Tq} {q : Qr} (hl : za3 l) (h : zf8 l = some q) : ziS q := by
 unfold zf8 at h
 split at h
 ·cases h
 ·rename_i x m hx
  have hg := ((zhO _).1 _ _ _ _ (Nat.le_refl _) hl hx).1
  split at h
  ·cases h
  ·rename_i q' k hq
   split at h
   ·rename_i hc
    injection h with h; subst h
    have hc2 : countE x <= 200 := by simp at hc; exact hc.2
    unfold zcX at hq
    split at hq
    ·cases hq
    ·rename_i o l1 ho
     split at hq
     ·cases hq
     ·rename_i a l2 ha
      split at hq
      ·cases hq
      ·rename_i b l3 hb
       injection hq with hq; injection hq with h1 _; subst h1
       exact ⟨hg, order_le ho, zhP ha, zhP hb, hc2⟩
   ·cases h
theorem readL_good {s : List UInt8} {q : Qr} (hz : s.length <= 600) (h : zbk s = some q) : ziS q := by
 unfold zbk at h
 cases hx : lexL s with
 | none => rw [hx] at h; cases h
 | some ws =>
   rw [hx] at h
   obtain ⟨hlen, htk⟩ := zdf hz hx
   rw [zg5] at hx
   exact readW_good ⟨by rw [List.length_map]; omega, fun t ht => by
    obtain ⟨w, hw, e⟩ := List.mem_map.1 ht
    subst e; exact ⟨lexAt_fine s 0 ws hx w hw, (htk w hw).few⟩⟩ h
end Go.Proofs.YtbcemjhaecelnaaGreatDoor.Par
end
section
namespace Go.Proofs.YtbcemjhaecelnaaGreatDoor.Par
open Go.Lib
open Go.Proofs.YtbcemjhaecelnaaGreatDoor.Sto
end Go.Proofs.YtbcemjhaecelnaaGreatDoor.Par
end
section
namespace Go.Proofs.YtbcemjhaecelnaaGreatDoor.Par
open Go.Lib
open Go.Proofs.YtbcemjhaecelnaaGreatDoor.Sto
end Go.Proofs.YtbcemjhaecelnaaGreatDoor.Par
end
end
