import Derived.Test.YtbcemjhaecelnaaGreatDoorMg04
import Derived.Lib.ItoaNum
import Derived.Lib.Atoi
section
section
namespace Go.Proofs.YtbcemjhaecelnaaGreatDoor
open Go.Lib
def zcS (t : List UInt8) : Bool := decide (zaj (rune t) = 1 \/ zaj (rune t) = 2)
def zak (t : List UInt8) : Nat := (decodeL t).2
def zad (l : List UInt8) : Nat := (((sufs l).takeWhile zcS).map zak).sum
theorem za5 (l : List UInt8) (hne : l ≠ []) : zad l = if zcS l = true then zak l + zad (l.drop (zak l)) else 0 := by
 unfold zad
 rw [zb4 l hne, List.takeWhile_cons]
 split
 ·rw [List.map_cons, List.sum_cons]; rfl
 ·rfl
theorem zbU (l : List UInt8) : 1 <= zak l := decodeL_width l
theorem zco {l : List UInt8} (hne : l ≠ []) : zak l <= l.length := decodeL_le l hne
theorem zbh (l : List UInt8) : zad l <= l.length := by
 induction l using zaC with
 | h0 => exact Nat.le_refl _
 | h1 l hne ih =>
   rw [za5 l hne]
   have := zco hne
   split
   ·have e : (List.drop (zak l) l).length = l.length - zak l := List.length_drop ..
    have ih' : zad (List.drop (zak l) l) <= (List.drop (zak l) l).length := ih
    omega
   ·omega
theorem zbq (c : UInt8) (u : List UInt8) (hc : c.toNat < 128) : decodeL (c :: u) = (c.toNat, 1) := by
 rw [decodeL_N]
 unfold decodeN
 simp; omega
theorem zeb (c : UInt8) (u : List UInt8) (hc : 128 <= c.toNat) : 128 <= (decodeL (c :: u)).1 := by
 rw [decodeL_N]
 have h0 : ((c :: u).getD 0 0).toNat = c.toNat := rfl
 rcases decodeN_shape (c :: u).length ((c :: u).getD 0 0).toNat ((c :: u).getD 1 0).toNat ((c :: u).getD 2 0).toNat ((c :: u).getD 3 0).toNat with ⟨c1, e⟩ | ⟨c1, c2, c3, cv, e⟩ | ⟨c1, c2, c3, c4, cv, cs, e⟩ | ⟨c1, c2, c3, c4, c5, cv, cw, e⟩ | e
 ·omega
 all_goals (rw [e]; dsimp only; omega)
theorem zfU (l : List UInt8) (i : Nat) (h1 : 1 <= i) (hi : i < zak l) : 128 <= (l.getD i 0).toNat := by
 unfold zak at hi
 rw [decodeL_N] at hi
 rcases decodeN_shape l.length (l.getD 0 0).toNat (l.getD 1 0).toNat (l.getD 2 0).toNat (l.getD 3 0).toNat with ⟨c1, e⟩ | ⟨c1, c2, c3, cv, e⟩ | ⟨c1, c2, c3, c4, cv, cs, e⟩ | ⟨c1, c2, c3, c4, c5, cv, cw, e⟩ | e
 all_goals (rw [e] at hi; dsimp only at hi)
 ·omega
 ·obtain rfl : i = 1 := by omega
  omega
 ·rcases (by omega : i = 1 \/ i = 2) with rfl | rfl <;> omega
 ·rcases (by omega : i = 1 \/ i = 2 \/ i = 3) with rfl | rfl | rfl <;> omega
 ·omega
inductive Bd : List UInt8 -> Nat -> Prop where
 | zero (l : List UInt8) : Bd l 0
 | step (l : List UInt8) (n : Nat) : l ≠ [] -> Bd (l.drop (zak l)) n -> Bd l (zak l + n)
theorem Bd.ge {l : List UInt8} {n : Nat} (h : Bd l n) (hn : 0 < n) : l ≠ [] /\ zak l <= n /\ Bd (l.drop (zak l)) (n - zak l) := by
 cases h with
 | zero => omega
 | step _ n hne h => exact ⟨hne, by omega, by rwa [Nat.add_sub_cancel_left]⟩
theorem Bd.le {l : List UInt8} {n : Nat} (h : Bd l n) : n <= l.length := by
 induction h with
 | zero => exact Nat.zero_le _
 | step l n hne _ ih => rw [List.length_drop] at ih; have := zco hne; omega
theorem zgW (l : List UInt8) : Bd l (zad l) := by
 induction l using zaC with
 | h0 => exact .zero _
 | h1 l hne ih =>
   rw [za5 l hne]
   split
   ·exact .step _ _ hne ih
   ·exact .zero _
theorem zf0 (l : List UInt8) : ∀ i, i < l.length -> (l.getD i 0).toNat < 128 -> Bd l i /\ Bd l (i + 1) := by
 induction l using zaC with
 | h0 => intro i h; simp at h
 | h1 l hne ih =>
   intro i hi hc
   have hw := zbU l
   by_cases h0 : i = 0
   ·subst h0
    refine ⟨.zero _, ?_⟩
    have e : zak l = 1 := by
     cases l with
     | nil => exact absurd rfl hne
     | cons c u => unfold zak; rw [zbq c u hc]
    have := Bd.step l 0 hne (.zero _)
    rw [e] at this; exact this
   ·have hge : zak l <= i := by
     refine Classical.byContradiction fun hlt => ?_
     have := zfU l i (by omega) (by omega)
     omega
    have hd : (List.drop (zak l) l).getD (i - zak l) 0 = l.getD i 0 := by
     simp only [List.getD, List.getElem?_drop]; rw [Nat.add_sub_cancel' hge]
    obtain ⟨a, b⟩ := ih (i - zak l) (by have := List.length_drop (l := l) (i := (decodeL l).2); unfold zak at hge ⊢; omega) (by rw [show (decodeL l).2 = zak l from rfl, hd]; exact hc)
    have a' := Bd.step l _ hne a
    have b' := Bd.step l _ hne b
    rw [Nat.add_sub_cancel' hge] at a'
    rw [show zak l + (i - zak l + 1) = i + 1 by omega] at b'
    exact ⟨a', b'⟩
def digB (c : UInt8) : Bool := decide (48 <= c.toNat /\ c.toNat <= 57)
def zab (l : List UInt8) : Nat := (l.takeWhile digB).length
theorem zeP (l : List UInt8) : zab l <= l.length := by unfold zab; exact (List.takeWhile_sublist _).length_le
theorem zdn (l : List UInt8) (hne : l ≠ []) : zaj (rune l) = 2 ↔ digB (l.getD 0 0) = true := by
 cases l with
 | nil => exact absurd rfl hne
 | cons c u =>
   show zaj ((decodeL (c :: u)).1 : Int) = 2 ↔ digB c = true
   unfold digB zaj
   by_cases hc : c.toNat < 128
   ·rw [zbq c u hc]
    simp only [decide_eq_true_eq]
    repeat' split
    all_goals omega
   ·have := zeb c u (by omega)
    simp only [decide_eq_true_eq]
    repeat' split
    all_goals omega
theorem zeQ (l : List UInt8) (hne : l ≠ []) (h : digB (l.getD 0 0) = true) : zak l = 1 := by
 cases l with
 | nil => exact absurd rfl hne
 | cons c u =>
   have : 48 <= c.toNat /\ c.toNat <= 57 := of_decide_eq_true h
   unfold zak; rw [zbq c u (by omega)]
theorem digitsL_step (l : List UInt8) (hne : l ≠ []) : zab l = if zaj (rune l) = 2 then 1 + zab (l.drop 1) else 0 := by
 cases l with
 | nil => exact absurd rfl hne
 | cons c u =>
   have k2 := zdn (c :: u) hne
   have hd : (c :: u).getD 0 0 = c := rfl
   rw [hd] at k2
   unfold zab
   rw [List.takeWhile_cons]
   by_cases h : digB c = true
   ·rw [if_pos h, if_pos (k2.2 h), List.length_cons]; simp [Nat.add_comm]
   ·rw [if_neg h, if_neg (fun e => h (k2.1 e))]; rfl
def zc4 (a : Nat) (l : List UInt8) : Nat := l.foldl (fun a c => a * 10 + (c.toNat - 48)) a
def valL (l : List UInt8) : Nat := zc4 0 l
def zbc (l : List UInt8) : Nat := if l = [115] then 1 else if l = [109] then 60 else if l = [104] then 3600 else 0
abbrev Tk := Nat × List UInt8 × Nat
def numL (s : List UInt8) : Option Tk :=
 if 13 < zab s \/ 1000000000000 < valL (s.take (zab s)) then none
 else if zab s = s.length then some (2, decDigits (valL (s.take (zab s))), s.length)
 else if zbc (s.drop (zab s)) = 0 \/ 1000000000 < valL (s.take (zab s)) * zbc (s.drop (zab s)) then none
 else some (4, decDigits (valL (s.take (zab s)) * zbc (s.drop (zab s))), s.length)
def zag (i : Nat) (esc : Bool) : List UInt8 -> Nat
 | [] => 0
 | c :: u => if esc = true then zag (i + 1) false u else if c.toNat = 92 then zag (i + 1) true u else if c.toNat = 34 /\ 0 < i then i + 1 else zag (i + 1) false u
def zaB (l : List UInt8) : Nat := zag 0 false l
def signs : List (List UInt8) := [[43], [45], [42], [47], [37], [40], [41], [123], [125], [91], [93], [44], [61], [61, 61], [33, 61], [60], [60, 61], [62], [62, 61], [61, 126], [33, 126]]
def zeu (l : List UInt8) : Bool := signs.contains l
def zc5 (l : List UInt8) : Option Tk :=
 if 2 <= l.length /\ zeu (l.take 2) = true then some (5, l.take 2, 2)
 else if 1 <= l.length /\ zeu (l.take 1) = true then some (5, l.take 1, 1)
 else none
def zam (l : List UInt8) : Option Tk :=
 if zaj (rune l) = 1 then (if zbz (l.take (zad l)) = true then some (1, l.take (zad l), zad l) else none)
 else if zaj (rune l) = 2 then numL (l.take (zad l))
 else if rune l = 34 then (match zap (l.take (zaB l)) with | some t => some (3, t, zaB l) | none => none)
 else zc5 l
abbrev Wd := Nat × Nat × List UInt8
def zcT : Nat -> Nat -> List UInt8 -> Option (List Wd)
 | 0, _, _ => some []
 | f + 1, at', l => if l = [] then some [] else if zaj (rune l) = 3 then zcT f (at' + 1) (l.drop 1)
   else match zam l with
    | none => none
    | some t => (zcT f (at' + t.2.2) (l.drop t.2.2)).map ((t.1, at', t.2.1) :: ·)
def lexL (l : List UInt8) : Option (List Wd) := zcT l.length 0 l
end Go.Proofs.YtbcemjhaecelnaaGreatDoor
end
section
namespace Go.Proofs.YtbcemjhaecelnaaGreatDoor
open Go.Lib
theorem zeR : ∀ (l : List UInt8) (i : Nat) (esc : Bool), zag i esc l ≠ 0 -> ∃ j, j < l.length /\ (l.getD j 0).toNat = 34 /\ zag i esc l = i + j + 1
 | [], i, esc, h => absurd rfl h
 | c :: u, i, esc, h => by
   have go : ∀ esc', zag (i + 1) esc' u ≠ 0 -> ∃ j, j < (c :: u).length /\ ((c :: u).getD j 0).toNat = 34 /\ zag (i + 1) esc' u = i + j + 1 := by
    intro esc' h'
    obtain ⟨j, h1, h2, h3⟩ := zeR u (i + 1) esc' h'
    exact ⟨j + 1, by simp; omega, by simpa using h2, by omega⟩
   unfold zag at h ⊢
   split
   ·rw [if_pos ‹_›] at h; exact go _ h
   ·rw [if_neg ‹_›] at h
    split
    ·rw [if_pos ‹_›] at h; exact go _ h
    ·rw [if_neg ‹_›] at h
     split
     ·exact ⟨0, by simp, by simp; omega, rfl⟩
     ·rw [if_neg ‹_›] at h; exact go _ h
theorem zgX {l : List UInt8} (h : zaB l ≠ 0) : Bd l (zaB l) /\ zaB l <= l.length /\ 1 <= zaB l := by
 obtain ⟨j, h1, h2, h3⟩ := zeR l 0 false h
 have e : zaB l = j + 1 := by unfold zaB; omega
 rw [e]
 exact ⟨(zf0 l j h1 (by omega)).2, by omega, by omega⟩
theorem zev : zap [] = none := by
 cases h : zap [] with
 | none => rfl
 | some t => have := zcn h; unfold zau at this; cases this
theorem zeS : ∀ t ∈ signs, ∀ c ∈ t, c.toNat < 128 := by decide
theorem sign_le : ∀ t ∈ signs, 1 <= t.length /\ t.length <= 2 := by decide
theorem zce {l : List UInt8} (h : zeu l = true) : l ∈ signs := by unfold zeu at h; exact List.contains_iff_mem.1 h
theorem num_len {s : List UInt8} {t : Tk} (h : numL s = some t) : t.2.2 = s.length := by
 unfold numL at h
 repeat' split at h
 all_goals first | cases h; rfl | cases h
theorem zdo {l : List UInt8} (hne : l ≠ []) (hk : zaj (rune l) = 1 \/ zaj (rune l) = 2) : 1 <= zad l := by
 rw [za5 l hne, if_pos (by unfold zcS; simp [hk])]
 have := zbU l; omega
theorem zb5 {l : List UInt8} {t : Tk} (hne : l ≠ []) (h : zam l = some t) : 1 <= t.2.2 /\ t.2.2 <= l.length /\ Bd l t.2.2 := by
 unfold zam at h
 split at h
 ·split at h
  ·cases h
   exact ⟨zdo hne (.inl ‹_›), zbh l, zgW l⟩
  ·cases h
 ·split at h
  ·have e := num_len h
   have hc := zbh l
   rw [List.length_take, Nat.min_eq_left hc] at e
   rw [e]
   exact ⟨zdo hne (.inr ‹_›), hc, zgW l⟩
  ·split at h
   ·split at h
    ·cases h
     have h0 : zaB l ≠ 0 := by
      intro h0; rename_i hu; rw [h0, List.take_zero, zev] at hu; cases hu
     obtain ⟨a, b, c⟩ := zgX h0
     exact ⟨c, b, a⟩
    ·cases h
   ·unfold zc5 at h
    split at h
    ·rename_i hs
     cases h
     have h1 := zeS _ (zce hs.2)
     refine ⟨(by decide : (1 : Nat) <= 2), hs.1, (zf0 l 1 (by omega) ?_).2⟩
     have : l.getD 1 0 ∈ l.take 2 := by
      have hl := hs.1
      match l, hl with
      | a :: b :: u, _ => simp
     exact h1 _ this
    ·split at h
     ·rename_i hs
      cases h
      have h1 := zeS _ (zce hs.2)
      refine ⟨(by decide : (1 : Nat) <= 1), hs.1, (zf0 l 0 (by omega) ?_).2⟩
      have : l.getD 0 0 ∈ l.take 1 := by
       have hl := hs.1
       match l, hl with
       | a :: u, _ => simp
      exact h1 _ this
     ·cases h
theorem zcf (f a : Nat) : zcT f a [] = some [] := by cases f <;> simp [zcT]
theorem zcI : ∀ (f g a : Nat) (l : List UInt8), l.length <= f -> l.length <= g -> zcT f a l = zcT g a l
 | 0, g, a, l, hf, _ => by
   have : l = [] := List.eq_nil_of_length_eq_zero (by omega)
   subst this; rw [zcf, zcf]
 | f + 1, 0, a, l, _, hg => by
   have : l = [] := List.eq_nil_of_length_eq_zero (by omega)
   subst this; rw [zcf, zcf]
 | f + 1, g + 1, a, l, hf, hg => by
   by_cases hne : l = []
   ·subst hne; rw [zcf, zcf]
   ·have hl : 0 < l.length := List.length_pos_iff.2 hne
    rw [zcT, zcT, if_neg hne, if_neg hne]
    split
    ·exact zcI f g _ _ (by rw [List.length_drop]; omega) (by rw [List.length_drop]; omega)
    ·cases hf1 : zam l with
     | none => rfl
     | some t =>
       have := zb5 hne hf1
       show Option.map _ (zcT f _ _) = Option.map _ (zcT g _ _)
       rw [zcI f g _ _ (by rw [List.length_drop]; omega) (by rw [List.length_drop]; omega)]
def zbr (a : Nat) (l : List UInt8) : Option (List Wd) := zcT l.length a l
theorem zg5 (l : List UInt8) : lexL l = zbr 0 l := rfl
theorem zfV (a : Nat) : zbr a [] = some [] := rfl
theorem zbM (a : Nat) {l : List UInt8} (hne : l ≠ []) (h : zaj (rune l) = 3) : zbr a l = zbr (a + 1) (l.drop 1) := by
 have hl : 0 < l.length := List.length_pos_iff.2 hne
 obtain ⟨n, hn⟩ : ∃ n, l.length = n + 1 := ⟨l.length - 1, by omega⟩
 unfold zbr
 rw [hn, zcT, if_neg hne, if_pos h]
 exact zcI _ _ _ _ (by rw [List.length_drop]; omega) (Nat.le_refl _)
theorem zc6 (a : Nat) {l : List UInt8} (hne : l ≠ []) (h : zaj (rune l) ≠ 3) {t : Tk} (hf : zam l = some t) : zbr a l = (zbr (a + t.2.2) (l.drop t.2.2)).map ((t.1, a, t.2.1) :: ·) := by
 have hl : 0 < l.length := List.length_pos_iff.2 hne
 obtain ⟨n, hn⟩ : ∃ n, l.length = n + 1 := ⟨l.length - 1, by omega⟩
 have := zb5 hne hf
 unfold zbr
 rw [hn, zcT, if_neg hne, if_neg h, hf]
 show Option.map _ (zcT n _ _) = _
 rw [zcI n _ _ _ (by rw [List.length_drop]; omega) (Nat.le_refl _)]
theorem zcg (a : Nat) {l : List UInt8} (hne : l ≠ []) (h : zaj (rune l) ≠ 3) (hf : zam l = none) : zbr a l = none := by
 have hl : 0 < l.length := List.length_pos_iff.2 hne
 obtain ⟨n, hn⟩ : ∃ n, l.length = n + 1 := ⟨l.length - 1, by omega⟩
 unfold zbr
 rw [hn, zcT, if_neg hne, if_neg h, hf]
theorem zd8 {P : List UInt8 -> Prop} (h0 : P []) (h1 : ∀ l, l ≠ [] -> (∀ m, m.length < l.length -> P m) -> P l) : ∀ l, P l := by
 have : ∀ n (l : List UInt8), l.length <= n -> P l := by
  intro n
  induction n with
  | zero => intro l h; have : l = [] := List.eq_nil_of_length_eq_zero (by omega); subst this; exact h0
  | succ n ih =>
    intro l h
    by_cases hne : l = []
    ·subst hne; exact h0
    ·exact h1 l hne fun m hm => ih m (by omega)
 exact fun l => this l.length l (Nat.le_refl _)
end Go.Proofs.YtbcemjhaecelnaaGreatDoor
end
section
namespace Go.Proofs.YtbcemjhaecelnaaGreatDoor
open Go.Lib
theorem zcp : ∀ (xs u : List UInt8) (i : Nat), (∀ x ∈ xs, x ≠ 34 /\ x ≠ 92) -> zag i false (xs ++ u) = zag (i + xs.length) false u
 | [], u, i, _ => rfl
 | x :: xs, u, i, h => by
   have hx := h x (by simp)
   have e1 : x.toNat ≠ 34 := fun e => hx.1 (UInt8.toNat_inj.1 e)
   have e2 : x.toNat ≠ 92 := fun e => hx.2 (UInt8.toNat_inj.1 e)
   rw [List.cons_append, zag, if_neg (by simp), if_neg e2, if_neg (fun h => e1 h.1), zcp xs u _ fun y hy => h y (by simp [hy]), List.length_cons]
   congr 1; omega
theorem zeT : ∀ n, n < 16 -> hexd n ≠ 34 /\ hexd n ≠ 92 := by decide
theorem zdp (i : Nat) (x : UInt8) (u : List UInt8) : zag i false (92 :: x :: u) = zag (i + 2) false u := by
 rw [zag, if_neg (by simp), if_pos (by decide), zag, if_pos rfl]
theorem close_chunk (t u : List UInt8) (hne : t ≠ []) (i : Nat) : zag i false (zar t ++ u) = zag (i + (zar t).length) false u := by
 rcases zbK t hne with ⟨_, e, _⟩ | ⟨_, e, _⟩ | ⟨_, e, _⟩ | ⟨_, _, e, _⟩ | ⟨⟨h1, h2, _⟩, _, e, _⟩
 ·rw [e]; exact zdp i _ u
 ·rw [e]; exact zdp i _ u
 ·rw [e]; exact zdp i _ u
 ·rw [e]
  have g1 := zeT ((t.getD 0 0).toNat / 16) (by have := (t.getD 0 0).toNat_lt; omega)
  have g2 := zeT ((t.getD 0 0).toNat % 16) (by omega)
  show zag i false (92 :: 120 :: ([hexd _, hexd _] ++ u)) = _
  rw [zdp, zcp _ u _ (by intro x hx; simp at hx; rcases hx with rfl | rfl <;> assumption)]
  rfl
 ·rw [e, zcp _ u _ (zdP _ (by omega) (by omega))]
theorem close_body (s : List UInt8) : ∀ (u : List UInt8) (i : Nat), zag i false (zbA s ++ u) = zag (i + (zbA s).length) false u := by
 induction s using zaC with
 | h0 => intro u i; rfl
 | h1 l hne ih =>
   intro u i
   rw [zcH l hne, List.append_assoc, close_chunk l _ hne, ih, List.length_append, Nat.add_assoc]
theorem zfW (s : List UInt8) : (zau s).length = (zbA s).length + 2 := by unfold zau; simp
theorem close_quote (s u : List UInt8) : zaB (zau s ++ u) = (zau s).length := by
 rw [zfW]
 show zag 0 false (34 :: (zbA s ++ [34] ++ u)) = _
 rw [zag, if_neg (by simp), if_neg (by decide), if_neg (by simp), List.append_assoc, close_body]
 show zag _ false (34 :: u) = _
 rw [zag, if_neg (by simp), if_neg (by decide), if_pos ⟨by decide, by omega⟩]
 omega
theorem zeU (u : List UInt8) : rune (34 :: u) = 34 := by unfold rune; rw [zbq 34 u (by decide)]; rfl
theorem first_quote (s u : List UInt8) : zam (zau s ++ u) = some (3, s, (zau s).length) := by
 have hr : rune (zau s ++ u) = 34 := zeU _
 unfold zam
 rw [hr, if_neg (by decide), if_neg (by decide), if_pos rfl, close_quote, List.take_left, zcW]
end Go.Proofs.YtbcemjhaecelnaaGreatDoor
end
section
namespace Go.Proofs.YtbcemjhaecelnaaGreatDoor
open Go.Lib
theorem zc7 (d : Nat) (h : d < 10) : (UInt8.ofNat (48 + d)).toNat = 48 + d := by simp; omega
theorem zca (u : Nat) (h : ¬ u < 10) : decDigits u = decDigits (u / 10) ++ [UInt8.ofNat (48 + u % 10)] := by rw [decDigits, dif_neg h]
theorem zg6 (u : Nat) : ∀ c ∈ decDigits u, digB c = true := by
 induction u using Nat.strongRecOn with
 | ind u ih =>
   intro c hc
   by_cases h : u < 10
   ·rw [decDigits_one h] at hc
    rw [List.mem_singleton] at hc; subst hc
    unfold digB; rw [zc7 u h]; simp; omega
   ·rw [zca u h] at hc
    rcases List.mem_append.1 hc with hc | hc
    ·exact ih (u / 10) (by omega) c hc
    ·rw [List.mem_singleton] at hc; subst hc
     unfold digB; rw [zc7 (u % 10) (by omega)]; simp; omega
theorem zfX (u : Nat) : decDigits u ≠ [] := by
 intro h; have := decDigits_length u; rw [h] at this; have := nDigits_pos u; simp at *; omega
theorem zfY (a : Nat) (l m : List UInt8) : zc4 a (l ++ m) = zc4 (zc4 a l) m := by unfold zc4; rw [List.foldl_append]
theorem zeV (l : List UInt8) : ∀ a, a <= zc4 a l := by
 induction l with
 | nil => intro a; exact Nat.le_refl _
 | cons c l ih => intro a; exact Nat.le_trans (by omega) (ih (a * 10 + (c.toNat - 48)))
theorem zcZ (u : Nat) : valL (decDigits u) = u := by
 induction u using Nat.strongRecOn with
 | ind u ih =>
   by_cases h : u < 10
   ·rw [decDigits_one h]
    show 0 * 10 + ((UInt8.ofNat (48 + u)).toNat - 48) = u
    rw [zc7 u h]; omega
   ·rw [zca u h]
    show zc4 0 _ = u
    rw [zfY, show zc4 0 (decDigits (u / 10)) = u / 10 from ih _ (by omega)]
    show u / 10 * 10 + ((UInt8.ofNat (48 + u % 10)).toNat - 48) = u
    rw [zc7 _ (by omega)]; omega
theorem zf1 (u k : Nat) (h : u < 10 ^ k) (hk : 1 <= k) : (decDigits u).length <= k := by
 rw [decDigits_length]
 induction k generalizing u with
 | zero => omega
 | succ k ih =>
   by_cases h10 : u < 10
   ·rw [nDigits_small h10]; omega
   ·have hk1 : 1 <= k := by
     refine Classical.byContradiction fun h0 => ?_
     obtain rfl : k = 0 := by omega
     simp at h; omega
    rw [nDigits_big h10]
    have := ih (u / 10) (by rw [Nat.pow_succ] at h; omega) hk1
    omega
theorem take_digits (ds u : List UInt8) (h : ∀ c ∈ ds, digB c = true) : (ds ++ u).takeWhile digB = ds ++ u.takeWhile digB := by
 induction ds with
 | nil => rfl
 | cons c ds ih =>
   rw [List.cons_append, List.takeWhile_cons, if_pos (h c (by simp)), ih fun x hx => h x (by simp [hx])]; rfl
theorem zd9 (ds u : List UInt8) (h : ∀ c ∈ ds, digB c = true) : zab (ds ++ u) = ds.length + zab u := by
 unfold zab; rw [take_digits ds u h, List.length_append]
theorem digits_none (c : UInt8) (u : List UInt8) (h : digB c = false) : zab (c :: u) = 0 := by
 unfold zab; rw [List.takeWhile_cons, if_neg (by simp [h])]; rfl
theorem zdQ (ds u : List UInt8) (h : ∀ c ∈ ds, digB c = true) : zad (ds ++ u) = ds.length + zad u := by
 induction ds with
 | nil => simp
 | cons c ds ih =>
   have hc : 48 <= c.toNat /\ c.toNat <= 57 := of_decide_eq_true (h c (by simp))
   have hk : zaj (rune (c :: (ds ++ u))) = 2 := (zdn _ (by simp)).2 (h c (by simp))
   have hw : zak (c :: (ds ++ u)) = 1 := zeQ _ (by simp) (h c (by simp))
   rw [List.cons_append, za5 _ (by simp), if_pos (by unfold zcS; simp [hk]), hw, List.drop_one, List.tail_cons, ih fun x hx => h x (by simp [hx]), List.length_cons]
   omega
theorem zda (ds u : List UInt8) (hne : ds ≠ []) (h : ∀ c ∈ ds, digB c = true) : zaj (rune (ds ++ u)) = 2 := by
 cases ds with
 | nil => exact absurd rfl hne
 | cons c ds => exact (zdn _ (by simp)).2 (h c (by simp))
theorem zdR (ds u : List UInt8) (hne : ds ≠ []) (h : ∀ c ∈ ds, digB c = true) : zam (ds ++ u) = numL (ds ++ u.take (zad u)) := by
 unfold zam
 rw [zda ds u hne h, if_neg (by decide), if_pos rfl, zdQ ds u h, List.take_append]
 rw [List.take_of_length_le (by omega), Nat.add_sub_cancel_left]
theorem num_plain (ds : List UInt8) (h : ∀ c ∈ ds, digB c = true) (h1 : ds.length <= 13) (h2 : valL ds <= 1000000000000) : numL ds = some (2, decDigits (valL ds), ds.length) := by
 have e := zd9 ds [] h
 rw [List.append_nil] at e
 have e0 : zab [] = 0 := rfl
 rw [e0, Nat.add_zero] at e
 unfold numL
 rw [e, List.take_length, if_neg (by omega), if_pos rfl]
theorem num_unit (ds : List UInt8) (c : UInt8) (k : Nat) (hc : digB c = false) (hk : zbc [c] = k) (h : ∀ c ∈ ds, digB c = true) (h1 : ds.length <= 13) (h2 : valL ds <= 1000000000000) :
 numL (ds ++ [c]) = if k = 0 \/ 1000000000 < valL ds * k then none else some (4, decDigits (valL ds * k), ds.length + 1) := by
 have e : zab (ds ++ [c]) = ds.length := by rw [zd9 ds [c] h, digits_none c [] hc]; rfl
 unfold numL
 rw [e, List.take_left, List.drop_left, if_neg (by omega), if_neg (by simp), hk]
 simp
def zeW (w : Nat × List UInt8) : List UInt8 := if w.1 = 3 then zau w.2 else if w.1 = 4 then w.2 ++ [115] else w.2
def Fine (k : Nat) (t : List UInt8) : Prop := zam (zeW (k, t)) = some (k, t, (zeW (k, t)).length) /\ zeW (k, t) ≠ [] /\ zaj (rune (zeW (k, t))) ≠ 3
theorem fine_string (s : List UInt8) : Fine 3 s := by
 have := first_quote s []
 rw [List.append_nil] at this
 refine ⟨this, by show zau s ≠ []; unfold zau; simp, ?_⟩
 show zaj (rune (34 :: _)) ≠ 3
 rw [zeU]; decide
theorem zfZ (t : List UInt8) (h : t ∈ signs) : Fine 5 t := by
 have : ∀ t ∈ signs, (zaj (rune t) = 4 /\ rune t ≠ 34 /\ zc5 t = some (5, t, t.length)) := by decide +kernel
 obtain ⟨h1, h2, h3⟩ := this t h
 have hne : t ≠ [] := by have := (sign_le t h).1; intro e; subst e; simp at this
 refine ⟨?_, hne, by show zaj (rune t) ≠ 3; rw [h1]; decide⟩
 show zam t = _
 unfold zam
 rw [h1, if_neg (by decide), if_neg (by decide), if_neg h2, h3]; rfl
theorem fine_number (v : Nat) (h : v <= 1000000000000) : Fine 2 (decDigits v) := by
 have hd := zg6 v
 have hl := zf1 v 13 (by omega) (by decide)
 have := zdR (decDigits v) [] (zfX v) hd
 rw [List.append_nil, List.take_nil, List.append_nil, num_plain _ hd hl (by rw [zcZ]; exact h), zcZ] at this
 have hk := zda (decDigits v) [] (zfX v) hd
 rw [List.append_nil] at hk
 exact ⟨this, zfX v, by show zaj (rune (decDigits v)) ≠ 3; rw [hk]; decide⟩
theorem fine_span (v : Nat) (h : v <= 1000000000) : Fine 4 (decDigits v) := by
 have hd := zg6 v
 have hl := zf1 v 13 (by omega) (by decide)
 have := zdR (decDigits v) [115] (zfX v) hd
 have hc : zad [115] = 1 := by decide +kernel
 rw [hc, List.take_one, show ([115] : List UInt8).head?.toList = [115] from rfl, num_unit _ 115 1 (by decide) (by decide) hd hl (by rw [zcZ]; omega), zcZ, if_neg (by omega), Nat.mul_one] at this
 refine ⟨?_, by show decDigits v ++ [115] ≠ []; simp, ?_⟩
 ·show zam (decDigits v ++ [115]) = some (4, decDigits v, (decDigits v ++ [115]).length)
  rw [this]; simp
 ·show zaj (rune (decDigits v ++ [115])) ≠ 3
  rw [zda _ _ (zfX v) hd]; decide
theorem chain_own (l : List UInt8) : zad (l.take (zad l)) = zad l /\ (zad l ≠ 0 -> decodeL (l.take (zad l)) = decodeL l) := by
 induction l using zaC with
 | h0 => exact ⟨rfl, fun h => absurd rfl h⟩
 | h1 l hne ih =>
   rw [show l.drop (decodeL l).2 = l.drop (zak l) from rfl] at ih
   have hw := zbU l
   have hwl := zco hne
   by_cases hy : zcS l = true
   ·have e := za5 l hne
    rw [if_pos hy] at e
    obtain ⟨n, hn⟩ : ∃ n, zad (l.drop (zak l)) = n := ⟨_, rfl⟩
    rw [hn] at e ih
    have hd : decodeL (l.take (zak l + n)) = decodeL l := zc0 l _ hne (by show zak l <= _; omega)
    have hne2 : l.take (zak l + n) ≠ [] := by
     intro h0
     have h5 := congrArg List.length h0
     rw [List.length_take, List.length_nil] at h5
     have h6 : n <= (l.drop (zak l)).length := by rw [<- hn]; exact zbh _
     rw [List.length_drop] at h6
     omega
    rw [e]
    refine ⟨?_, fun _ => hd⟩
    have e1 : zak (l.take (zak l + n)) = zak l := by unfold zak at hd ⊢; rw [hd]
    have e2 : zcS (l.take (zak l + n)) = zcS l := by unfold zcS rune; rw [hd]
    rw [za5 _ hne2, e2, if_pos hy, e1, List.drop_take, Nat.add_sub_cancel_left, ih.1]
   ·have e : zad l = 0 := by rw [za5 l hne, if_neg hy]
    rw [e]; exact ⟨rfl, fun h => absurd rfl h⟩
theorem fine_word (l : List UInt8) (hne : l ≠ []) (hk : zaj (rune l) = 1) (hn : zbz (l.take (zad l)) = true) : Fine 1 (l.take (zad l)) := by
 obtain ⟨h1, h2⟩ := chain_own l
 have hp := zdo hne (.inl hk)
 have hd := h2 (by omega)
 have hr : rune (l.take (zad l)) = rune l := by unfold rune; rw [hd]
 have hl : (l.take (zad l)).length = zad l := by rw [List.length_take, Nat.min_eq_left (zbh l)]
 refine ⟨?_, fun h => ?_, ?_⟩
 ·show zam (l.take (zad l)) = some (1, l.take (zad l), (l.take (zad l)).length)
  unfold zam
  have ht : (l.take (zad l)).take (zad l) = l.take (zad l) := by rw [List.take_take, Nat.min_self]
  rw [hr, if_pos hk, h1, ht, hl, if_pos hn]
 ·have := congrArg List.length h
  rw [show zeW (1, l.take (zad l)) = l.take (zad l) from rfl, hl] at this
  simp at this; omega
 ·show zaj (rune (l.take (zad l))) ≠ 3
  rw [hr, hk]; decide
theorem num_fine {s : List UInt8} {t : Tk} (h : numL s = some t) : Fine t.1 t.2.1 := by
 unfold numL at h
 split at h
 ·cases h
 ·split at h
  ·cases h; exact fine_number _ (by omega)
  ·split at h
   ·cases h
   ·cases h; exact fine_span _ (by omega)
theorem first_fine {l : List UInt8} {t : Tk} (hne : l ≠ []) (h : zam l = some t) : Fine t.1 t.2.1 := by
 unfold zam at h
 split at h
 ·split at h
  ·cases h; exact fine_word l hne ‹_› ‹_›
  ·cases h
 ·split at h
  ·exact num_fine h
  ·split at h
   ·split at h
    ·cases h; exact fine_string _
    ·cases h
   ·unfold zc5 at h
    split at h
    ·rename_i hs
     cases h; exact zfZ _ (zce hs.2)
    ·split at h
     ·rename_i hs
      cases h; exact zfZ _ (zce hs.2)
     ·cases h
theorem lexAt_fine (l : List UInt8) : ∀ (a : Nat) (ws : List Wd), zbr a l = some ws -> ∀ w ∈ ws, Fine w.1 w.2.2 := by
 induction l using zd8 with
 | h0 => intro a ws h; obtain rfl : [] = ws := Option.some.inj h; intro w hw; cases hw
 | h1 l hne ih =>
   intro a ws h
   have hl : 0 < l.length := List.length_pos_iff.2 hne
   by_cases h3 : zaj (rune l) = 3
   ·rw [zbM a hne h3] at h
    exact ih _ (by rw [List.length_drop]; omega) _ _ h
   ·cases hf : zam l with
    | none => rw [zcg a hne h3 hf] at h; cases h
    | some t =>
      have hb1 := zb5 hne hf
      rw [zc6 a hne h3 hf] at h
      cases hx : zbr (a + t.2.2) (l.drop t.2.2) with
      | none => rw [hx] at h; cases h
      | some vs =>
        rw [hx] at h
        obtain rfl := Option.some.inj h
        intro w hw
        rcases List.mem_cons.1 hw with rfl | hw
        ·exact first_fine hne hf
        ·exact ih _ (by rw [List.length_drop]; omega) _ _ hx w hw
end Go.Proofs.YtbcemjhaecelnaaGreatDoor
end
section
namespace Go.Proofs.YtbcemjhaecelnaaGreatDoor
open Go.Lib
end Go.Proofs.YtbcemjhaecelnaaGreatDoor
end
end
