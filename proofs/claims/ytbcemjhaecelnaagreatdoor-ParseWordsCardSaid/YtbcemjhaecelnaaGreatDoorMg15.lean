import Derived.Test.YtbcemjhaecelnaaGreatDoorMg05
import Derived.Test.YtbcemjhaecelnaaGreatDoorMg08
section
section
namespace Go.Proofs.YtbcemjhaecelnaaGreatDoor.Par
open Go.Proofs.YtbcemjhaecelnaaGreatDoor.Sto
inductive Ex where
 | num (n : Nat)
 | neg (x : Ex)
 | bin (op : ByteArray) (mode : Nat) (names : List ByteArray) (l r : Ex)
 | agg (name : ByteArray) (n : Nat) (mode : Nat) (names : List ByteArray) (x : Ex)
 | fn (name : ByteArray) (x : Ex)
 | sel (metric : ByteArray) (n : Nat) (ms : List Mat)
 deriving DecidableEq
abbrev Tq := Nat × List UInt8
def tq (w : Wd) : Tq := (w.1, w.2.2)
def bz (l : List UInt8) : ByteArray := ⟨l.toArray⟩
def isT (k : Nat) (t : List UInt8) : List Tq -> Bool
 | [] => false
 | x :: _ => x.1 == k && x.2 == t
def isK (k : Nat) : List Tq -> Bool
 | [] => false
 | x :: _ => x.1 == k
def cmpS (s : List UInt8) : Bool := s == [61, 61] || s == [33, 61] || s == [60] || s == [60, 61] || s == [62] || s == [62, 61]
def levelS (s : List UInt8) : Nat := if cmpS s then 1 else if s == [43] || s == [45] then 2 else if s == [42] || s == [47] || s == [37] then 3 else 0
def levelT : List Tq -> Nat
 | [] => 0
 | x :: _ => if x.1 = 5 then levelS x.2 else 0
def opS (s : List UInt8) : Nat := if s = [61] then 1 else if s = [33, 61] then 2 else if s = [61, 126] then 3 else if s = [33, 126] then 4 else 0
def zdv (s : List UInt8) : Bool := s == [116, 111, 112, 107] || s == [113, 117, 97, 110, 116, 105, 108, 101]
def aggB (s : List UInt8) : Bool := s == [115, 117, 109] || s == [109, 105, 110] || s == [109, 97, 120] || s == [99, 111, 117, 110, 116] || s == [97, 118, 103] || zdv s
def fnS (s : List UInt8) : Bool := s == [115, 117, 109, 95, 111, 118, 101, 114] || s == [109, 105, 110, 95, 111, 118, 101, 114] || s == [109, 97, 120, 95, 111, 118, 101, 114] || s == [99, 111, 117, 110, 116, 95, 111, 118, 101, 114] || s == [97, 118, 103, 95, 111, 118, 101, 114] || s == [108, 97, 115, 116, 95, 111, 118, 101, 114] || s == [105, 110, 99, 114, 101, 97, 115, 101] || s == [114, 97, 116, 101]
def zdw : List UInt8 := [111, 114, 100, 101, 114]
def zbD : List UInt8 := [108, 105, 109, 105, 116]
def zbd : List UInt8 := [111, 102, 102, 115, 101, 116]
def wAsc : List UInt8 := [97, 115, 99]
def zde : List UInt8 := [100, 101, 115, 99]
def wOn : List UInt8 := [111, 110]
def wIgn : List UInt8 := [105, 103, 110, 111, 114, 105, 110, 103]
def wBy : List UInt8 := [98, 121]
def za0 : List UInt8 := [119, 105, 116, 104, 111, 117, 116]
def resB (s : List UInt8) : Bool := s == zdw || s == zbD || s == zbd || s == wAsc || s == zde || s == wOn || s == wIgn || s == wBy || s == za0
def zaE {α : Type} (one : List Tq -> Option (α × List Tq)) (stop : List UInt8) : Nat -> List Tq -> List α -> Option (List α × List Tq)
 | 0, _, _ => none
 | n + 1, l, acc => match one l with
   | none => none
   | some (x, m) => if isT 5 [44] m then zaE one stop n m.tail (acc ++ [x]) else if isT 5 stop m then some (acc ++ [x], m.tail) else none
def zbe {α : Type} (one : List Tq -> Option (α × List Tq)) (stop : List UInt8) (l : List Tq) : Option (List α × List Tq) :=
 if isT 5 stop l then some ([], l.tail) else zaE one stop (l.length + 1) l []
def zaZ : List Tq -> Option (ByteArray × List Tq)
 | [] => none
 | x :: m => if x.1 = 1 then some (bz x.2, m) else none
def matP : List Tq -> Option (Mat × List Tq)
 | x :: y :: z :: m => if x.1 = 1 /\ y.1 = 5 /\ opS y.2 ≠ 0 /\ z.1 = 3 then some ((bz x.2, (opS y.2 : Int), bz z.2), m) else none
 | _ => none
def zbu (a b : List UInt8) (l : List Tq) : Option ((Nat × List ByteArray) × List Tq) :=
 if isT 1 a l then (if isT 5 [40] l.tail then (zbe zaZ [41] l.tail.tail).map fun p => ((1, p.1), p.2) else none)
 else if isT 1 b l then (if isT 5 [40] l.tail then (zbe zaZ [41] l.tail.tail).map fun p => ((2, p.1), p.2) else none)
 else some ((0, []), l)
def numP (k : Nat) : List Tq -> Option (Nat × List Tq)
 | [] => none
 | x :: m => if x.1 = k then some (valL x.2, m) else none
def za4 (l : List Tq) : Option (Nat × List Tq) :=
 if isT 5 [91] l then (match numP 4 l.tail with
  | none => none
  | some (n, m) => if isT 5 [93] m then some (n, m.tail) else none)
 else some (0, l)
def zb0 (named : Bool) (l : List Tq) : Option (List Mat × List Tq) :=
 if isT 5 [123] l then zbe matP [125] l.tail else if named then some ([], l) else none
def selP (metric : List UInt8) (named : Bool) (l : List Tq) : Option (Ex × List Tq) := match zb0 named l with
 | none => none
 | some (ms, m) => if zbt ms then (za4 m).map fun p => (.sel (bz metric) p.1 ms, p.2) else none
def zdD (name : List UInt8) (l : List Tq) : Option (Nat × List Tq) :=
 if zdv name then (match numP 2 l with
  | none => none
  | some (n, m) => if isT 5 [44] m then some (n, m.tail) else none)
 else some (0, l)
mutual
def chainGo : Nat -> Nat -> List Tq -> Option (Ex × List Tq)
 | 0, _, _ => none
 | n + 1, t, l => if 3 < t then zat n l else match chainGo n (t + 1) l with
   | none => none
   | some (x, m) => zbi n t x m
def zbi : Nat -> Nat -> Ex -> List Tq -> Option (Ex × List Tq)
 | 0, _, _, _ => none
 | n + 1, t, x, l => if levelT l = t then (match zbP n t x l with
   | none => none
   | some (y, m) => zbi n t y m) else some (x, l)
def zbP : Nat -> Nat -> Ex -> List Tq -> Option (Ex × List Tq)
 | 0, _, _, _ => none
 | _ + 1, _, _, [] => none
 | n + 1, t, x, s :: l => match zbu wOn wIgn l with
   | none => none
   | some ((mode, names), m) => match chainGo n (t + 1) m with
     | none => none
     | some (y, k) => some (.bin (bz s.2) mode names x y, k)
def zat : Nat -> List Tq -> Option (Ex × List Tq)
 | 0, _ => none
 | n + 1, l => if isT 5 [45] l then (match zat n l.tail with
   | none => none
   | some (x, m) => some (.neg x, m)) else zaz n l
def zaz : Nat -> List Tq -> Option (Ex × List Tq)
 | 0, _ => none
 | _ + 1, [] => none
 | n + 1, x :: l => if isT 5 [40] (x :: l) then zan n l
   else if x.1 = 2 then some (.num (valL x.2), l)
   else if x.1 = 1 then (
    if aggB x.2 then zbj n x.2 l
    else if fnS x.2 then fnGo n x.2 l
    else if resB x.2 then none
    else selP x.2 true l)
   else selP [] false (x :: l)
def zan : Nat -> List Tq -> Option (Ex × List Tq)
 | 0, _ => none
 | n + 1, l => match chainGo n 1 l with
   | none => none
   | some (x, m) => if isT 5 [41] m then some (x, m.tail) else none
def zbj : Nat -> List UInt8 -> List Tq -> Option (Ex × List Tq)
 | 0, _, _ => none
 | n + 1, name, l => match zbu wBy za0 l with
   | none => none
   | some ((mode, names), m) => if isT 5 [40] m then (match zdD name m.tail with
     | none => none
     | some (k, m2) => match zan n m2 with
       | none => none
       | some (x, m3) => some (.agg (bz name) k mode names x, m3)) else none
def fnGo : Nat -> List UInt8 -> List Tq -> Option (Ex × List Tq)
 | 0, _, _ => none
 | n + 1, name, l => if isT 5 [40] l then (match zan n l.tail with
   | none => none
   | some (x, m) => some (.fn (bz name) x, m)) else none
end
structure Qr where
 root : Ex
 order : Nat
 limit : Int
 offset : Int
 deriving DecidableEq
def countE : Ex -> Nat
 | .num _ => 1
 | .neg x => countE x + 1
 | .bin _ _ _ l r => countE l + countE r + 1
 | .agg _ _ _ _ x => countE x + 1
 | .fn _ x => countE x + 1
 | .sel _ _ _ => 1
def zbE (l : List Tq) : Option (Nat × List Tq) :=
 if isT 1 zdw l then (if isT 1 wAsc l.tail then some (1, l.tail.tail) else if isT 1 zde l.tail then some (2, l.tail.tail) else none) else some (0, l)
def zcC (w : List UInt8) (l : List Tq) : Option (Int × List Tq) :=
 if isT 1 w l then (match numP 2 l.tail with
  | none => none
  | some (n, m) => if n <= 2000 then some ((n : Int), m) else none) else some (-1, l)
def zcX (x : Ex) (l : List Tq) : Option (Qr × List Tq) := match zbE l with
 | none => none
 | some (o, l1) => match zcC zbD l1 with
   | none => none
   | some (a, l2) => match zcC zbd l2 with
     | none => none
     | some (b, l3) => some (⟨x, o, a, b⟩, l3)
def zf8 (l : List Tq) : Option Qr := match chainGo (9 * l.length + 9) 1 l with
 | none => none
 | some (x, m) => match zcX x m with
   | none => none
   | some (q, k) => if k.isEmpty && decide (countE x <= 200) then some q else none
def zbk (s : List UInt8) : Option Qr := match lexL s with
 | none => none
 | some ws => zf8 (ws.map tq)
theorem zaw {k : Nat} {t : List UInt8} {l : List Tq} (h : isT k t l = true) : l.tail.length + 1 = l.length := by
 cases l with
 | nil => simp [isT] at h
 | cons s t => simp
theorem zgj {α : Type} {one : List Tq -> Option (α × List Tq)} {stop : List UInt8} (h1 : ∀ l x m, one l = some (x, m) -> m.length < l.length) : ∀ (n : Nat) (l : List Tq) (acc xs : List α) (m : List Tq), zaE one stop n l acc = some (xs, m) -> m.length < l.length
 | 0, _, _, _, _, h => by simp [zaE] at h
 | n + 1, l, acc, xs, m, h => by
   rw [zaE] at h
   split at h
   ·cases h
   ·rename_i x k hk
    have := h1 _ _ _ hk
    split at h
    ·rename_i hc
     have := zgj h1 n _ _ _ _ h
     have := zaw hc
     omega
    ·split at h
     ·rename_i hc
      injection h with h; injection h with _ h; subst h
      have := zaw hc
      omega
     ·cases h
theorem zf9 {α : Type} {one : List Tq -> Option (α × List Tq)} {stop : List UInt8} (h1 : ∀ l x m, one l = some (x, m) -> m.length < l.length) {l : List Tq} {xs : List α} {m : List Tq} (h : zbe one stop l = some (xs, m)) : m.length < l.length := by
 unfold zbe at h
 split at h
 ·rename_i hc
  injection h with h; injection h with _ h; subst h
  have := zaw hc
  omega
 ·exact zgj h1 _ _ _ _ _ h
theorem zfA (l : List Tq) (x : ByteArray) (m : List Tq) (h : zaZ l = some (x, m)) : m.length < l.length := by
 cases l with
 | nil => cases h
 | cons y t =>
   change (if y.1 = 1 then some (bz y.2, t) else none) = _ at h
   split at h
   ·injection h with h; injection h with _ h; subst h; simp
   ·cases h
theorem zhI (l : List Tq) (x : Mat) (m : List Tq) (h : matP l = some (x, m)) : m.length < l.length := by
 match l, h with
 | a :: b :: c :: t, h =>
   change (if a.1 = 1 /\ b.1 = 5 /\ opS b.2 ≠ 0 /\ c.1 = 3 then some ((bz a.2, (opS b.2 : Int), bz c.2), t) else none) = _ at h
   split at h
   ·injection h with h; injection h with _ h; subst h; simp; omega
   ·cases h
theorem zbW {a b : List UInt8} {l : List Tq} {p : Nat × List ByteArray} {m : List Tq} (h : zbu a b l = some (p, m)) : m.length <= l.length := by
 unfold zbu at h
 have key : ∀ (c : Nat), isT 5 [40] l.tail = true -> ((zbe zaZ [41] l.tail.tail).map fun p => ((c, p.1), p.2)) = some (p, m) -> m.length <= l.length := by
  intro c _ h
  cases hx : zbe zaZ [41] l.tail.tail with
  | none => rw [hx] at h; cases h
  | some q =>
    rw [hx] at h
    injection h with h; injection h with _ h; subst h
    have := zf9 zfA (m := q.2) (xs := q.1) hx
    simp at this; omega
 split at h
 ·split at h
  ·rename_i hc; exact key 1 hc h
  ·cases h
 ·split at h
  ·split at h
   ·rename_i hc; exact key 2 hc h
   ·cases h
  ·injection h with h; injection h with _ h; subst h; exact Nat.le_refl _
theorem zgC {k : Nat} {l : List Tq} {n : Nat} {m : List Tq} (h : numP k l = some (n, m)) : m.length < l.length := by
 cases l with
 | nil => cases h
 | cons y t =>
   change (if y.1 = k then some (valL y.2, t) else none) = _ at h
   split at h
   ·injection h with h; injection h with _ h; subst h; simp
   ·cases h
theorem windowP_le {l : List Tq} {n : Nat} {m : List Tq} (h : za4 l = some (n, m)) : m.length <= l.length := by
 unfold za4 at h
 split at h
 ·split at h
  ·cases h
  ·rename_i k t hk
   have := zgC hk
   split at h
   ·injection h with h; injection h with _ h; subst h
    simp at this ⊢; omega
   ·cases h
 ·injection h with h; injection h with _ h; subst h; exact Nat.le_refl _
theorem bracesP_le {b : Bool} {l : List Tq} {ms : List Mat} {m : List Tq} (h : zb0 b l = some (ms, m)) : m.length <= l.length /\ (b = false -> m.length < l.length) := by
 unfold zb0 at h
 split at h
 ·have := zf9 zhI h
  simp at this; omega
 ·split at h
  ·injection h with h; injection h with _ h; subst h; exact ⟨Nat.le_refl _, fun e => by simp_all⟩
  ·cases h
theorem zdE {t : List UInt8} {b : Bool} {l : List Tq} {x : Ex} {m : List Tq} (h : selP t b l = some (x, m)) : m.length <= l.length /\ (b = false -> m.length < l.length) := by
 unfold selP at h
 split at h
 ·cases h
 ·rename_i ms k hk
  have h1 := bracesP_le hk
  split at h
  ·cases hx : za4 k with
   | none => rw [hx] at h; cases h
   | some q =>
     rw [hx] at h
     injection h with h; injection h with _ h; subst h
     have := windowP_le (n := q.1) (m := q.2) hx
     exact ⟨by omega, fun hb => by have := h1.2 hb; omega⟩
  ·cases h
theorem zfB {t : List UInt8} {l : List Tq} {n : Nat} {m : List Tq} (h : zdD t l = some (n, m)) : m.length <= l.length := by
 unfold zdD at h
 split at h
 ·split at h
  ·cases h
  ·rename_i k t hk
   have := zgC hk
   split at h
   ·injection h with h; injection h with _ h; subst h
    simp; omega
   ·cases h
 ·injection h with h; injection h with _ h; subst h; exact Nat.le_refl _
theorem zhJ : ∀ (n : Nat),
 (∀ t l x m, chainGo n t l = some (x, m) -> m.length < l.length) /\
 (∀ t y l x m, zbi n t y l = some (x, m) -> m.length <= l.length) /\
 (∀ t y l x m, zbP n t y l = some (x, m) -> m.length < l.length) /\
 (∀ l x m, zat n l = some (x, m) -> m.length < l.length) /\
 (∀ l x m, zaz n l = some (x, m) -> m.length < l.length) /\
 (∀ l x m, zan n l = some (x, m) -> m.length < l.length) /\
 (∀ s l x m, zbj n s l = some (x, m) -> m.length < l.length) /\
 (∀ s l x m, fnGo n s l = some (x, m) -> m.length < l.length)
 | 0 => ⟨fun _ _ _ _ h => by simp [chainGo] at h, fun _ _ _ _ _ h => by simp [zbi] at h, fun _ _ _ _ _ h => by simp [zbP] at h, fun _ _ _ h => by simp [zat] at h, fun _ _ _ h => by simp [zaz] at h, fun _ _ _ h => by simp [zan] at h, fun _ _ _ _ h => by simp [zbj] at h, fun _ _ _ _ h => by simp [fnGo] at h⟩
 | n + 1 => by
   obtain ⟨i1, i2, i3, i4, i5, i6, i7, i8⟩ := zhJ n
   refine ⟨?_, ?_, ?_, ?_, ?_, ?_, ?_, ?_⟩
   ·intro t l x m h
    rw [chainGo] at h
    split at h
    ·exact i4 _ _ _ h
    ·split at h
     ·cases h
     ·rename_i y k hk
      have := i1 _ _ _ _ hk
      have := i2 _ _ _ _ _ h
      omega
   ·intro t y l x m h
    rw [zbi] at h
    split at h
    ·split at h
     ·cases h
     ·rename_i z k hk
      have := i3 _ _ _ _ _ hk
      have := i2 _ _ _ _ _ h
      omega
    ·injection h with h; injection h with _ h; subst h; exact Nat.le_refl _
   ·intro t y l x m h
    cases l with
    | nil => simp [zbP] at h
    | cons s l =>
      rw [zbP] at h
      split at h
      ·cases h
      ·rename_i mode names k hk
       have := zbW hk
       split at h
       ·cases h
       ·rename_i z j hj
        have := i1 _ _ _ _ hj
        injection h with h; injection h with _ h; subst h
        simp; omega
   ·intro l x m h
    rw [zat] at h
    split at h
    ·rename_i hc
     have := zaw hc
     split at h
     ·cases h
     ·rename_i y k hk
      have := i4 _ _ _ hk
      injection h with h; injection h with _ h; subst h
      omega
    ·exact i5 _ _ _ h
   ·intro l x m h
    cases l with
    | nil => simp [zaz] at h
    | cons s l =>
      rw [zaz] at h
      split at h
      ·have := i6 _ _ _ h
       simp; omega
      ·split at h
       ·injection h with h; injection h with _ h; subst h; simp
       ·split at h
        ·split at h
         ·have := i7 _ _ _ _ h; simp; omega
         ·split at h
          ·have := i8 _ _ _ _ h; simp; omega
          ·split at h
           ·cases h
           ·have := (zdE h).1; simp; omega
        ·exact (zdE h).2 rfl
   ·intro l x m h
    rw [zan] at h
    split at h
    ·cases h
    ·rename_i y k hk
     have := i1 _ _ _ _ hk
     split at h
     ·injection h with h; injection h with _ h; subst h
      simp; omega
     ·cases h
   ·intro s l x m h
    rw [zbj] at h
    split at h
    ·cases h
    ·rename_i mode names k hk
     have := zbW hk
     split at h
     ·rename_i hc
      have := zaw hc
      split at h
      ·cases h
      ·rename_i j k2 hk2
       have := zfB hk2
       split at h
       ·cases h
       ·rename_i z k3 hk3
        have := i6 _ _ _ hk3
        injection h with h; injection h with _ h; subst h
        omega
     ·cases h
   ·intro s l x m h
    rw [fnGo] at h
    split at h
    ·rename_i hc
     have := zaw hc
     split at h
     ·cases h
     ·rename_i z k3 hk3
      have := i6 _ _ _ hk3
      injection h with h; injection h with _ h; subst h
      omega
    ·cases h
end Go.Proofs.YtbcemjhaecelnaaGreatDoor.Par
end
section
namespace Go.Proofs.YtbcemjhaecelnaaGreatDoor.Par
open Go.Lib
structure TokOk (x : Tq) : Prop where
 few : x.2.length <= 1000
 dig : x.1 = 2 \/ x.1 = 4 -> ∃ v, v <= 1000000000000 /\ x.2 = decDigits v
 sig : x.1 = 5 -> x.2 ∈ signs
theorem chunk_more (t : List UInt8) (hne : t ≠ []) : zak t <= (zar t).length := by
 have hh : (head t).length = zak t := by unfold head; rw [List.length_take]; have := zco hne; unfold zak at this ⊢; omega
 rcases zbK t hne with ⟨_, e, e2⟩ | ⟨_, e, e2⟩ | ⟨_, e, e2⟩ | ⟨_, _, e, e2⟩ | ⟨_, _, e, e2⟩
 all_goals rw [e, <- hh, e2]
 all_goals simp
theorem body_more (l : List UInt8) : l.length <= (zbA l).length := by
 induction l using zaC with
 | h0 => simp
 | h1 l hne ih =>
   have hc := chunk_more l hne
   have hw := zco hne
   rw [zcH l hne, List.length_append]
   rw [List.length_drop] at ih
   unfold zak at hc hw
   omega
theorem zhK {s : List UInt8} {t : Tk} (h : numL s = some t) : (t.1 = 2 \/ t.1 = 4) /\ ∃ v, v <= 1000000000000 /\ t.2.1 = decDigits v := by
 unfold numL at h
 split at h
 ·cases h
 ·split at h
  ·cases h; exact ⟨.inl rfl, _, by omega, rfl⟩
  ·split at h
   ·cases h
   ·cases h; exact ⟨.inr rfl, _, by omega, rfl⟩
theorem first_tok {l : List UInt8} {t : Tk} (h : zam l = some t) (hl : l.length <= 900) : TokOk (t.1, t.2.1) := by
 unfold zam at h
 split at h
 ·split at h
  ·cases h
   refine ⟨?_, ?_, ?_⟩
   ·show (l.take (zad l)).length <= _
    rw [List.length_take]; omega
   ·intro e; simp at e
   ·intro e; simp at e
  ·cases h
 ·split at h
  ·obtain ⟨h1, v, h2, h3⟩ := zhK h
   refine ⟨?_, fun _ => ⟨v, h2, h3⟩, ?_⟩
   ·show t.2.1.length <= _
    rw [h3]; have := zf1 v 13 (by omega) (by decide); omega
   ·intro e
    have e : t.1 = 5 := e
    omega
  ·split at h
   ·split at h
    ·rename_i t' hu
     cases h
     have h1 := congrArg List.length (zcn hu)
     have h2 := body_more t'
     rw [zfW, List.length_take] at h1
     refine ⟨?_, ?_, ?_⟩
     ·show t'.length <= _; omega
     ·intro e; simp at e
     ·intro e; simp at e
    ·cases h
   ·unfold zc5 at h
    split at h
    ·rename_i hs
     cases h
     refine ⟨?_, ?_, fun _ => zce hs.2⟩
     ·show (l.take 2).length <= _; rw [List.length_take]; omega
     ·intro e; simp at e
    ·split at h
     ·rename_i hs
      cases h
      refine ⟨?_, ?_, fun _ => zce hs.2⟩
      ·show (l.take 1).length <= _; rw [List.length_take]; omega
      ·intro e; simp at e
     ·cases h
theorem lexAt_tokens (l : List UInt8) : ∀ (a : Nat) (ws : List Wd), l.length <= 900 -> zbr a l = some ws -> ws.length <= l.length /\ ∀ w ∈ ws, TokOk (tq w) := by
 induction l using zd8 with
 | h0 => intro a ws _ h; obtain rfl : [] = ws := Option.some.inj h; exact ⟨Nat.le_refl _, fun w hw => by cases hw⟩
 | h1 l hne ih =>
   intro a ws hl9 h
   have hl : 0 < l.length := List.length_pos_iff.2 hne
   by_cases h3 : zaj (rune l) = 3
   ·rw [zbM a hne h3] at h
    have := ih _ (by rw [List.length_drop]; omega) _ _ (by rw [List.length_drop]; omega) h
    rw [List.length_drop] at this
    exact ⟨by omega, this.2⟩
   ·cases hf : zam l with
    | none => rw [zcg a hne h3 hf] at h; cases h
    | some t =>
      have hb1 := zb5 hne hf
      rw [zc6 a hne h3 hf] at h
      cases hx : zbr (a + t.2.2) (l.drop t.2.2) with
      | none => rw [hx] at h; cases h
      | some vs =>
        rw [hx] at h
        obtain rfl := Option.some.inj h
        have := ih _ (by rw [List.length_drop]; omega) _ _ (by rw [List.length_drop]; omega) hx
        rw [List.length_drop] at this
        refine ⟨by rw [List.length_cons]; omega, fun w hw => ?_⟩
        rcases List.mem_cons.1 hw with rfl | hw
        ·exact first_tok hf hl9
        ·exact this.2 w hw
theorem zdf {l : List UInt8} {ws : List Wd} (hl : l.length <= 600) (h : lexL l = some ws) : ws.length <= l.length /\ ∀ w ∈ ws, TokOk (tq w) :=
 lexAt_tokens l 0 ws (by omega) h
theorem toks_ok {ws : List Wd} (h : ∀ w ∈ ws, TokOk (tq w)) : ∀ x ∈ ws.map tq, TokOk x := by
 intro x hx
 obtain ⟨w, hw, rfl⟩ := List.mem_map.1 hx
 exact h w hw
end Go.Proofs.YtbcemjhaecelnaaGreatDoor.Par
end
section
namespace Go.Proofs.YtbcemjhaecelnaaGreatDoor.Par
open Go.Lib
end Go.Proofs.YtbcemjhaecelnaaGreatDoor.Par
end
section
namespace Go.Proofs.YtbcemjhaecelnaaGreatDoor.Par
open Go.Lib
end Go.Proofs.YtbcemjhaecelnaaGreatDoor.Par
end
section
namespace Go.Proofs.YtbcemjhaecelnaaGreatDoor.Par
open Go.Proofs.YtbcemjhaecelnaaGreatDoor.Sto
structure Stop (r : List Tq) : Prop where
 level : levelT r = 0
 brace : isT 5 [123] r = false
 square : isT 5 [91] r = false
end Go.Proofs.YtbcemjhaecelnaaGreatDoor.Par
end
section
namespace Go.Proofs.YtbcemjhaecelnaaGreatDoor.Par
end Go.Proofs.YtbcemjhaecelnaaGreatDoor.Par
end
section
namespace Go.Proofs.YtbcemjhaecelnaaGreatDoor.Par
open Go.Lib
def zcL : List (List UInt8) := [[61, 61], [33, 61], [60], [60, 61], [62], [62, 61], [43], [45], [42], [47], [37]]
end Go.Proofs.YtbcemjhaecelnaaGreatDoor.Par
end
section
namespace Go.Proofs.YtbcemjhaecelnaaGreatDoor.Par
open Go.Lib
def Gap (v : List UInt8) : Prop := v = [] \/ ∃ u, v = 32 :: u
theorem Gap.app {u v : List UInt8} (hu : Gap u) (hv : Gap v) : Gap (u ++ v) := by
 rcases hu with rfl | ⟨t, rfl⟩
 ·exact hv
 ·exact .inr ⟨_, rfl⟩
end Go.Proofs.YtbcemjhaecelnaaGreatDoor.Par
end
section
namespace Go.Proofs.YtbcemjhaecelnaaGreatDoor.Par
open Go.Proofs.YtbcemjhaecelnaaGreatDoor.Sto
def zhL : List ByteArray -> List UInt8
 | [] => []
 | [x] => x.data.toList
 | x :: y :: l => x.data.toList ++ 44 :: zhL (y :: l)
def signM (k : Int) : List UInt8 := if k = 1 then [61] else if k = 2 then [33, 61] else if k = 3 then [61, 126] else if k = 4 then [33, 126] else []
def oneM (m : Mat) : List UInt8 := m.1.data.toList ++ (signM m.2.1 ++ zau m.2.2.data.toList)
def zi5 : List Mat -> List UInt8
 | [] => []
 | [x] => oneM x
 | x :: y :: l => oneM x ++ 44 :: zi5 (y :: l)
def hasS : Ex -> Bool
 | .neg _ => true
 | .bin .. => true
 | _ => false
def ziP (mode : Nat) (a b : List UInt8) : List UInt8 := if mode = 1 then a else if mode = 2 then b else []
def zbQ : Ex -> List UInt8
 | .num n => Go.Lib.decDigits n
 | .neg x => 45 :: (if hasS x then 40 :: (zbQ x ++ [41]) else zbQ x)
 | .bin op mode names l r => (if hasS l then 40 :: (zbQ l ++ [41]) else zbQ l) ++ (32 :: (op.data.toList ++ ((if mode = 1 \/ mode = 2 then 32 :: (ziP mode wOn wIgn ++ (40 :: (zhL names ++ [41]))) else []) ++ (32 :: (if hasS r then 40 :: (zbQ r ++ [41]) else zbQ r)))))
 | .agg name n mode names x => name.data.toList ++ ((if mode = 1 \/ mode = 2 then 32 :: (ziP mode wBy za0 ++ ([32, 40] ++ (zhL names ++ [41, 32]))) else []) ++ (40 :: ((if zdv name.data.toList then Go.Lib.decDigits n ++ [44] else []) ++ (zbQ x ++ [41]))))
 | .fn name x => name.data.toList ++ (40 :: (zbQ x ++ [41]))
 | .sel m n ms => m.data.toList ++ ((if m.size = 0 \/ ms ≠ [] then 123 :: (zi5 ms ++ [125]) else []) ++ (if 0 < n then 91 :: (Go.Lib.decDigits n ++ [115, 93]) else []))
def kidL (x : Ex) : List UInt8 := if hasS x then 40 :: (zbQ x ++ [41]) else zbQ x
theorem alive_one : zbk [49, 43, 50, 42, 45, 51] = some ⟨.bin (bz [43]) 0 [] (.num 1) (.bin (bz [42]) 0 [] (.num 2) (.neg (.num 3))), 0, -1, -1⟩ := by decide +kernel
end Go.Proofs.YtbcemjhaecelnaaGreatDoor.Par
end
end
